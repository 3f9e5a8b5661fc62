/- Texts of one claim laid into one file, in build order: McI. -/
import Derived.Test.YtnfjdlocmdgefaaEa14
import Derived.Test.YtnfjdlocmdgefaaEa17
import Derived.Test.YtnfjdlocmdgefaaEa22
import Derived.Test.YtnfjdlocmdgefaaEa24
import Derived.Test.YtnfjdlocmdgefaaEa25
import Derived.BigQuiet
import Derived.Deep.RegionHeld3
/- Contracts (McI). -/
namespace Go.Proofs.Ytnfjdlocmdgefaa
open Go.RowKit
set_option linter.unusedVariables false

set_option maxHeartbeats 3200000 in
set_option maxRecDepth 100000 in
theorem implMapCost_any (A A' A'' K0 K1 K2 : Option Addr) (n n' n'' n0 n1 n2 c c' c'' c0 c1 c2 : Nat) (xs ys ms : Tr) (k : Co) (w : World) (ha : NdIn w w.heap.size A n xs) (hb : NdIn w w.heap.size A' n' ys) (hk : CoIn w w.heap.size K0 K1 K2 n0 n1 n2 k) (hm : NdIn w w.heap.size A'' n'' ms) (hn : n ≤ 1048576) (hn' : n' ≤ 1048576) (hn'' : n'' ≤ 1048576) (h0 : n0 ≤ 1048576) (h1 : n1 ≤ 1048576) (h2 : n2 ≤ 1048576) (hc : n ≤ c) (hc' : n' ≤ c') (hc'' : n'' ≤ c'') :
    Calls Try.prog 13 #[.slice A n c, .slice A' n' c', .agg #[.slice K0 n0 c0, .slice K1 n1 c1, .slice K2 n2 c2], .slice A'' n'' c''] w fun e w' => e = .returned (.int .i64 (Mp.cost xs ys k ms)) ∧ Below w.heap.size w w' := by
  obtain ⟨wc, hwc⟩ : ∃ wc, wc = w.alloc (.cells #[.slice K0 n0 c0, .slice K1 n1 c1, .slice K2 n2 c2] 27) := ⟨_, rfl⟩
  have hbc : Below w.heap.size w wc := by rw [hwc]; exact (Below.refl _ _).alloc (Nat.le_refl _) _
  have HQ := Lib.hid (show Box3 wc w.heap.size (.slice K0 n0 c0) (.slice K1 n1 c1) (.slice K2 n2 c2) by rw [hwc]; exact Box3.made _ _ _ _ _)
  have HWC := Lib.hid hwc
  have HA := Lib.hid (ha.to_below hbc)
  have HB := Lib.hid (hb.to_below hbc)
  have HM := Lib.hid (hm.to_below hbc)
  have HK := Lib.hid (hk.to_below hbc)
  have HBC := Lib.hid hbc
  have HN := Lib.hid ha.1
  have HN' := Lib.hid hb.1
  have HN2 := Lib.hid hm.1
  have HBX := Lib.hid (fun (wq : World) (hq : Below wc.heap.size wc wq) => (⟨(hq.cell (World.block_lt_of_cell? _ _ HQ.out.1)).trans HQ.out.1, (hq.cell (World.block_lt_of_cell? _ _ HQ.out.2.1)).trans HQ.out.2.1, (hq.cell (World.block_lt_of_cell? _ _ HQ.out.2.2)).trans HQ.out.2.2⟩ : wq.cell? ⟨w.heap.size, 0, none⟩ = some (.slice K0 n0 c0) ∧ wq.cell? ⟨w.heap.size, 1, none⟩ = some (.slice K1 n1 c1) ∧ wq.cell? ⟨w.heap.size, 2, none⟩ = some (.slice K2 n2 c2)))
  obtain ⟨b1, hb1⟩ : ∃ b, b = Mp.ok xs ys ms := ⟨_, rfl⟩
  obtain ⟨b2, hb2⟩ : ∃ b, b = Co.ok k := ⟨_, rfl⟩
  have CM := Lib.hid (show Calls Try.prog 38 #[.slice A n c, .slice A' n' c', .slice A'' n'' c''] wc fun e w' => e = .returned (.bool b1) ∧ Below wc.heap.size wc w' from by
    rw [hb1]
    refine (implMapOk_any A A' A'' n n' n'' c c' c'' xs ys ms wc HA.out HB.out HM.out hn hn' hn'' hc hc' hc'').mono ?_
    rintro e wq ⟨he, hh⟩
    exact ⟨he, hh⟩)
  have CO := Lib.hid (fun (wq : World) (hq : Below wc.heap.size wc wq) => show Calls Try.prog 32 #[.agg #[.slice K0 n0 c0, .slice K1 n1 c1, .slice K2 n2 c2]] wq fun e w' => e = .returned (.bool b2) ∧ Below wq.heap.size wq w' from by rw [hb2]; exact implCostOk_any K0 K1 K2 n0 n1 n2 c0 c1 c2 k wq (HK.out.to_below hq) h0 h1 h2)
  have CD := Lib.hid (fun (l : Int) (wq : World) (hq : Below wc.heap.size wc wq) => ((implDelCost_any K0 K1 K2 n0 n1 n2 c0 c1 c2 k l wq (HK.out.to_below hq) h0 h1 h2) : Calls Try.prog 39 #[.agg #[.slice K0 n0 c0, .slice K1 n1 c1, .slice K2 n2 c2], .int .i64 l] wq fun e w' => e = .returned (.int .i64 (Co.del k l)) ∧ Below wq.heap.size wq w'))
  have CI := Lib.hid (fun (l : Int) (wq : World) (hq : Below wc.heap.size wc wq) => ((implInsCost_any K0 K1 K2 n0 n1 n2 c0 c1 c2 k l wq (HK.out.to_below hq) h0 h1 h2) : Calls Try.prog 40 #[.agg #[.slice K0 n0 c0, .slice K1 n1 c1, .slice K2 n2 c2], .int .i64 l] wq fun e w' => e = .returned (.int .i64 (Co.ins k l)) ∧ Below wq.heap.size wq w'))
  have CR := Lib.hid (fun (l m : Int) (wq : World) (hq : Below wc.heap.size wc wq) => ((implRelCost_any K0 K1 K2 n0 n1 n2 c0 c1 c2 k l m wq (HK.out.to_below hq) h0 h1 h2) : Calls Try.prog 41 #[.agg #[.slice K0 n0 c0, .slice K1 n1 c1, .slice K2 n2 c2], .int .i64 l, .int .i64 m] wq fun e w' => e = .returned (.int .i64 (Co.rel k l m)) ∧ Below wq.heap.size wq w'))
  have HB1 := Lib.hid hb1
  have HB2 := Lib.hid hb2
  clear ha hb hk hm hwc hbc hb1 hb2
  cases b1 with
  | false =>
    have Hf := Lib.hid (show Mp.cost xs ys k ms = -1 by unfold Mp.cost; rw [← HB1.out]; rfl)
    as_aux_lemma =>
      go_enter Try.func13, Try.ntmps13
      go_wp2_with fail
      rw [← HWC.out]
      (try go_wp2_with fail)
      refine CM.out.mono ?_
      rintro e w1 ⟨rfl, b1⟩
      have B1 := Lib.hid b1
      clear b1
      go_wp2
      go_ret
      exact ⟨Kit.ret_int Hf.out.symm, HBC.out.trans (B1.out.mono HBC.out.size)⟩
  | true =>
    cases b2 with
    | false =>
      have Hf := Lib.hid (show Mp.cost xs ys k ms = -1 by unfold Mp.cost; rw [← HB1.out, ← HB2.out]; rfl)
      as_aux_lemma =>
        go_enter Try.func13, Try.ntmps13
        go_wp2_with fail
        rw [← HWC.out]
        (try go_wp2_with fail)
        refine CM.out.mono ?_
        rintro e w1 ⟨rfl, b1⟩
        have B1 := Lib.hid b1
        clear b1
        obtain ⟨q0, q1, q2⟩ := HBX.out w1 B1.out
        go_wp2_with fail
        clear q0 q1 q2
        refine (CO.out w1 B1.out).mono ?_
        rintro e w2 ⟨rfl, b2⟩
        have B2 := Lib.hid (B1.out.trans (b2.mono B1.out.size))
        clear b2
        go_wp2
        go_ret
        exact ⟨Kit.ret_int Hf.out.symm, HBC.out.trans (B2.out.mono HBC.out.size)⟩
    | true =>
      obtain ⟨ox, oy, oall⟩ := Mp.ok_all HB1.out.symm
      have x24 := Tr.len24 ox
      have y24 := Tr.len24 oy
      have HOA := Lib.hid oall
      have hln := HN.out
      have hln' := HN'.out
      obtain ⟨ad, rfl, _⟩ := HA.out.at_ (k := 0) (by omega)
      obtain ⟨bd, rfl, _⟩ := HB.out.at_ (k := 0) (by omega)
      have Hf := Lib.hid (show Mp.cost xs ys k ms = Mp.part xs ys k ms ms.length by unfold Mp.cost; rw [← HB1.out, ← HB2.out]; rfl)
      have HL := Lib.hid hln
      have HL' := Lib.hid hln'
      have X := Lib.hid x24
      have Y := Lib.hid y24
      clear ox oy oall x24 y24 hln hln'
      go_enter Try.func13, Try.ntmps13
      go_wp2_with fail
      rw [← HWC.out]
      (try go_wp2_with fail)
      refine CM.out.mono ?_
      rintro e w1 ⟨rfl, b1⟩
      have B1 := Lib.hid b1
      clear b1
      obtain ⟨q0, q1, q2⟩ := HBX.out w1 B1.out
      go_wp2_with fail
      clear q0 q1 q2
      refine (CO.out w1 B1.out).mono ?_
      rintro e w2 ⟨rfl, b2⟩
      have B2 := Lib.hid (B1.out.trans (b2.mono B1.out.size))
      clear b2
      go_wp2
      have HRX := Lib.hid True.intro
      have sb1 := Lib.hid (fun (i : Nat) (hi : i ≤ n) => (show 0 ≤ Mp.sum (fun i => Co.del k (Tr.l xs i)) i ∧ Mp.sum (fun i => Co.del k (Tr.l xs i)) i ≤ 24000 by have h := Mp.sum_bound (f := (fun i => Co.del k (Tr.l xs i))) (fun i => (Co.nonneg' k).1 _) i; have := X.out; have := HL.out; omega))
      go_loopw [9, 30] (fun sv iv wr => ∃ i : Nat, i ≤ n ∧ iv = .int .i64 i ∧ sv = .int .i64 (Mp.sum (fun i => Co.del k (Tr.l xs i)) (i)) ∧ Below wc.heap.size wc wr) (fun _ iv _ => n - (intOf iv).toNat)
      case atStart => exact ⟨0, by omega, rfl, by simp [Mp.sum], B2.out⟩
      case round =>
        clear HRX
        obtain ⟨i, hi, rfl, rfl, hR⟩ := hrel
        have HR := Lib.hid hR
        clear hR
        by_cases hlt : i < n
        · have bd1 := sb1.out i hi
          have bd2 := (Co.nonneg' k).1 (Tr.l xs i)
          have hst : Mp.sum (fun i => Co.del k (Tr.l xs i)) (i + 1) = Mp.sum (fun i => Co.del k (Tr.l xs i)) (i) + Co.del k (Tr.l xs i) := rfl
          obtain ⟨s, hs⟩ : ∃ s, s = Mp.sum (fun i => Co.del k (Tr.l xs i)) (i) := ⟨_, rfl⟩
          obtain ⟨g, hg⟩ : ∃ g, g = Co.del k (Tr.l xs i) := ⟨_, rfl⟩
          rw [← hs] at bd1 hst
          rw [← hg] at bd2 hst
          have a1 : IntKind.i64.wrap (s + g) = s + g := Kit.w64 (by omega) (by omega)
          have k0 : (0 : Int) ≤ (i : Int) := by omega
          have k1 : (i : Int) < (n : Int) := by omega
          have HST := Lib.hid hst
          have CC := Lib.hid (fun (wq : World) (hq : Below wc.heap.size wc wq) => show Calls Try.prog 39 #[.agg #[.slice K0 n0 c0, .slice K1 n1 c1, .slice K2 n2 c2], .int .i64 (Tr.l xs i)] wq fun e w' => e = .returned (.int .i64 g) ∧ Below wq.heap.size wq w' from by rw [hg]; exact CD.out _ wq hq)
          obtain ⟨lc, ld⟩ := (HA.out.to_below HR.out).here (k := i) hlt
          obtain ⟨wz, hwz⟩ : ∃ wz, wz = wr.alloc (.cells #[.int .i64 (Tr.l xs i), .int .i64 (Tr.d xs i)] 61) := ⟨_, rfl⟩
          have BZ := Lib.hid (show Below wr.heap.size wr wz by rw [hwz]; exact (Below.refl _ _).alloc (Nat.le_refl _) _)
          obtain ⟨r0, r1⟩ := (show Bx2 wz wr.heap.size (Tr.l xs i) (Tr.d xs i) by rw [hwz]; exact Bx2.made _ _ _ _)
          have H3 := Lib.hid (HR.out.trans (BZ.out.mono HR.out.size))
          obtain ⟨bx0, bx1, bx2⟩ := HBX.out wz H3.out
          have HZ := Lib.hid hwz
          rw [hwz] at bx0 bx1 bx2 r0 r1
          rw [← hs]
          clear hst hs bd1 bd2 hg hwz
          as_aux_lemma =>
            go_wp2_with fail
            rw [← HZ.out]
            clear lc ld
            refine (CC.out wz H3.out).mono ?_
            rintro e w5 ⟨rfl, hb5⟩
            have HR2 := Lib.hid (H3.out.trans (hb5.mono H3.out.size))
            clear hb5 r0 r1 bx0 bx1 bx2
            go_wp2
            go_roundw
            case rel => exact ⟨i + 1, by omega, by go_num, by rw [HST.out], HR2.out⟩
            case measure => simp [intOf]; omega
        · obtain rfl : n = i := by omega
          obtain ⟨sx, hsx⟩ : ∃ sx, sx = Mp.sum (fun i => Co.del k (Tr.l xs i)) n := ⟨_, rfl⟩
          have bx := Mp.sum_bound (f := (fun i => Co.del k (Tr.l xs i))) (fun i => (Co.nonneg' k).1 _) n
          rw [← hsx] at bx ⊢
          have HX := X.out
          have HLX := HL.out
          have BX := Lib.hid (show 0 ≤ sx ∧ sx ≤ 24000 by omega)
          have HSX := Lib.hid (show Mp.sum (fun i => Co.del k (Tr.l xs i)) xs.length = sx by rw [HL.out]; exact hsx.symm)
          have HRX := Lib.hid True.intro
          clear hsx bx hlt hi HX HLX
          have sb2 := Lib.hid (fun (j : Nat) (hj : j ≤ n') => (show 0 ≤ sx + Mp.sum (fun j => Co.ins k (Tr.l ys j)) j ∧ sx + Mp.sum (fun j => Co.ins k (Tr.l ys j)) j ≤ 48000 by have h := Mp.sum_bound (f := (fun j => Co.ins k (Tr.l ys j))) (fun i => (Co.nonneg' k).2.1 _) j; have := Y.out; have := HL'.out; have := BX.out; omega))
          go_wp2
          go_loopw [9, 43] (fun sv iv wr => ∃ j : Nat, j ≤ n' ∧ iv = .int .i64 j ∧ sv = .int .i64 (sx + Mp.sum (fun j => Co.ins k (Tr.l ys j)) (j)) ∧ Below wc.heap.size wc wr) (fun _ iv _ => n' - (intOf iv).toNat)
          case atStart => exact ⟨0, by omega, rfl, by simp [Mp.sum], HR.out⟩
          case round =>
            clear HRX
            obtain ⟨j, hi, rfl, rfl, hR⟩ := hrel
            have HR := Lib.hid hR
            clear hR
            by_cases hlt : j < n'
            · have bd1 := sb2.out j hi
              have bd2 := (Co.nonneg' k).2.1 (Tr.l ys j)
              have hst : sx + Mp.sum (fun j => Co.ins k (Tr.l ys j)) (j + 1) = sx + Mp.sum (fun j => Co.ins k (Tr.l ys j)) (j) + Co.ins k (Tr.l ys j) := (Int.add_assoc _ _ _).symm
              obtain ⟨s, hs⟩ : ∃ s, s = sx + Mp.sum (fun j => Co.ins k (Tr.l ys j)) (j) := ⟨_, rfl⟩
              obtain ⟨g, hg⟩ : ∃ g, g = Co.ins k (Tr.l ys j) := ⟨_, rfl⟩
              rw [← hs] at bd1 hst
              rw [← hg] at bd2 hst
              have a1 : IntKind.i64.wrap (s + g) = s + g := Kit.w64 (by omega) (by omega)
              have k0 : (0 : Int) ≤ (j : Int) := by omega
              have k1 : (j : Int) < (n' : Int) := by omega
              have HST := Lib.hid hst
              have CC := Lib.hid (fun (wq : World) (hq : Below wc.heap.size wc wq) => show Calls Try.prog 40 #[.agg #[.slice K0 n0 c0, .slice K1 n1 c1, .slice K2 n2 c2], .int .i64 (Tr.l ys j)] wq fun e w' => e = .returned (.int .i64 g) ∧ Below wq.heap.size wq w' from by rw [hg]; exact CI.out _ wq hq)
              obtain ⟨lc, ld⟩ := (HB.out.to_below HR.out).here (k := j) hlt
              obtain ⟨wz, hwz⟩ : ∃ wz, wz = wr.alloc (.cells #[.int .i64 (Tr.l ys j), .int .i64 (Tr.d ys j)] 61) := ⟨_, rfl⟩
              have BZ := Lib.hid (show Below wr.heap.size wr wz by rw [hwz]; exact (Below.refl _ _).alloc (Nat.le_refl _) _)
              obtain ⟨r0, r1⟩ := (show Bx2 wz wr.heap.size (Tr.l ys j) (Tr.d ys j) by rw [hwz]; exact Bx2.made _ _ _ _)
              have H3 := Lib.hid (HR.out.trans (BZ.out.mono HR.out.size))
              obtain ⟨bx0, bx1, bx2⟩ := HBX.out wz H3.out
              have HZ := Lib.hid hwz
              rw [hwz] at bx0 bx1 bx2 r0 r1
              rw [← hs]
              clear hst hs bd1 bd2 hg hwz
              as_aux_lemma =>
                go_wp2_with fail
                rw [← HZ.out]
                clear lc ld
                refine (CC.out wz H3.out).mono ?_
                rintro e w5 ⟨rfl, hb5⟩
                have HR2 := Lib.hid (H3.out.trans (hb5.mono H3.out.size))
                clear hb5 r0 r1 bx0 bx1 bx2
                go_wp2
                go_roundw
                case rel => exact ⟨j + 1, by omega, by go_num, by rw [HST.out], HR2.out⟩
                case measure => simp [intOf]; omega
            · obtain rfl : n' = j := by omega
              obtain ⟨s0, hs0⟩ : ∃ s0, s0 = sx + Mp.sum (fun j => Co.ins k (Tr.l ys j)) n' := ⟨_, rfl⟩
              have HP0 := Lib.hid (show Mp.part xs ys k ms 0 = s0 by rw [Mp.part_zero, HSX.out, HL'.out, hs0])
              rw [← hs0]
              clear hs0 hlt hi
              go_wp2
              go_loopw [9, 56] (fun sv iv wr => ∃ m : Nat, m ≤ n'' ∧ iv = .int .i64 m ∧ sv = .int .i64 (Mp.part xs ys k ms m) ∧ Below wc.heap.size wc wr) (fun _ iv _ => n'' - (intOf iv).toNat)
              case atStart => exact ⟨0, by omega, rfl, by rw [HP0.out], HR.out⟩
              case round =>
                clear HR
                obtain ⟨m, hm, rfl, rfl, hR⟩ := hrel
                have HR := Lib.hid hR
                clear hR
                by_cases hlt : m < n''
                · have hml : m < ms.length := by rw [HN2.out]; exact hlt
                  have hok := HOA.out m hml
                  obtain ⟨a, b, ha, hb, ea, eb⟩ := Mp.pair_at hok
                  have hst := Mp.part_succ (k := k) hml hok ea eb
                  have bd1 := Mp.part_bound (k := k) (ms := ms) X.out.2 Y.out.2 m
                  have bd2 := Mp.part_bound (k := k) (ms := ms) X.out.2 Y.out.2 (m + 1)
                  have bd3 := (Co.nonneg' k).2.2 (Tr.l xs a) (Tr.l ys b)
                  have bd4 := (Co.nonneg' k).1 (Tr.l xs a)
                  have bd5 := (Co.nonneg' k).2.1 (Tr.l ys b)
                  obtain ⟨s, hs⟩ : ∃ s, s = Mp.part xs ys k ms m := ⟨_, rfl⟩
                  obtain ⟨r, hr⟩ : ∃ r, r = Co.rel k (Tr.l xs a) (Tr.l ys b) := ⟨_, rfl⟩
                  obtain ⟨dl, hdl⟩ : ∃ dl, dl = Co.del k (Tr.l xs a) := ⟨_, rfl⟩
                  obtain ⟨il, hil⟩ : ∃ il, il = Co.ins k (Tr.l ys b) := ⟨_, rfl⟩
                  rw [← hs] at bd1 hst
                  rw [← hr] at bd3 hst
                  rw [← hdl] at bd4 hst
                  rw [← hil] at bd5 hst
                  have a1 : IntKind.i64.wrap (r - dl) = r - dl := Kit.w64 (by omega) (by omega)
                  have a2 : IntKind.i64.wrap (r - dl - il) = r - dl - il := Kit.w64 (by omega) (by omega)
                  have a3 : IntKind.i64.wrap (s + (r - dl - il)) = s + (r - dl - il) := Kit.w64 (by omega) (by omega)
                  have HST := Lib.hid hst
                  have C1 := Lib.hid (fun (wq : World) (hq : Below wc.heap.size wc wq) => show Calls Try.prog 41 #[.agg #[.slice K0 n0 c0, .slice K1 n1 c1, .slice K2 n2 c2], .int .i64 (Tr.l xs a), .int .i64 (Tr.l ys b)] wq fun e w' => e = .returned (.int .i64 r) ∧ Below wq.heap.size wq w' from by rw [hr]; exact CR.out _ _ wq hq)
                  have C2 := Lib.hid (fun (wq : World) (hq : Below wc.heap.size wc wq) => show Calls Try.prog 39 #[.agg #[.slice K0 n0 c0, .slice K1 n1 c1, .slice K2 n2 c2], .int .i64 (Tr.l xs a)] wq fun e w' => e = .returned (.int .i64 dl) ∧ Below wq.heap.size wq w' from by rw [hdl]; exact CD.out _ wq hq)
                  have C3 := Lib.hid (fun (wq : World) (hq : Below wc.heap.size wc wq) => show Calls Try.prog 40 #[.agg #[.slice K0 n0 c0, .slice K1 n1 c1, .slice K2 n2 c2], .int .i64 (Tr.l ys b)] wq fun e w' => e = .returned (.int .i64 il) ∧ Below wq.heap.size wq w' from by rw [hil]; exact CI.out _ wq hq)
                  obtain ⟨md, rfl, _, lc, ld⟩ := (HM.out.to_below HR.out).at_ (k := m) hlt
                  rw [ea] at lc
                  rw [eb] at ld
                  obtain ⟨wz, hwz⟩ : ∃ wz, wz = wr.alloc (.cells #[.int .i64 (a : Int), .int .i64 (b : Int)] 77) := ⟨_, rfl⟩
                  have BZ := Lib.hid (show Below wr.heap.size wr wz by rw [hwz]; exact (Below.refl _ _).alloc (Nat.le_refl _) _)
                  obtain ⟨r0, r1⟩ := (show Bx2 wz wr.heap.size (a : Int) (b : Int) by rw [hwz]; exact Bx2.made _ _ _ _)
                  have H3 := Lib.hid (HR.out.trans (BZ.out.mono HR.out.size))
                  have han : a < n := by rw [← HL.out]; exact ha
                  have hbn : b < n' := by rw [← HL'.out]; exact hb
                  have la := ((HA.out.to_below H3.out).here (k := a) han).1
                  have lb := ((HB.out.to_below H3.out).here (k := b) hbn).1
                  have HZ := Lib.hid hwz
                  have k0 : (0 : Int) ≤ (m : Int) := by omega
                  have k1 : (m : Int) < (n'' : Int) := by omega
                  have k2 : (0 : Int) ≤ (a : Int) := by omega
                  have k3 : (a : Int) < (n : Int) := by omega
                  have k4 : (0 : Int) ≤ (b : Int) := by omega
                  have k5 : (b : Int) < (n' : Int) := by omega
                  rw [← hs]
                  clear hst hs bd1 bd2 bd3 bd4 bd5 hr hdl hil hwz ea eb hok hml
                  as_aux_lemma =>
                    go_wp2_with fail
                    rw [← HZ.out]
                    clear lc ld
                    (try go_wp2_with fail)
                    go_quiet (fail)
                    go_wp2_with fail
                    obtain ⟨wy, hwy⟩ : ∃ wy, wy = wz.drewN nq := ⟨_, rfl⟩
                    rw [← hwy]
                    have H4 := Lib.hid (show Below wc.heap.size wc wy by rw [hwy]; exact H3.out.trans ((((Drawn.refl _).drewN nq).toBelow).mono H3.out.size))
                    clear hwy
                    have C1 := Lib.hid (fun (wq : World) (hq : Below wy.heap.size wy wq) => C1.out wq (H4.out.trans (hq.mono H4.out.size)))
                    have C2 := Lib.hid (fun (wq : World) (hq : Below wy.heap.size wy wq) => C2.out wq (H4.out.trans (hq.mono H4.out.size)))
                    have C3 := Lib.hid (fun (wq : World) (hq : Below wy.heap.size wy wq) => C3.out wq (H4.out.trans (hq.mono H4.out.size)))
                    obtain ⟨bx0, bx1, bx2⟩ := HBX.out wy H4.out
                    have S0 := Lib.hid (show ((wy.drew.cell? ⟨w.heap.size, 0, none⟩ = some (.slice K0 n0 c0) ∧ wy.drew.cell? ⟨w.heap.size, 1, none⟩ = some (.slice K1 n1 c1) ∧ wy.drew.cell? ⟨w.heap.size, 2, none⟩ = some (.slice K2 n2 c2)) ∧ (wy.drew.cell? ⟨w.heap.size, 0, none⟩ = some (.slice K0 n0 c0) ∧ wy.drew.cell? ⟨w.heap.size, 0, none⟩ = some (.slice K0 n0 c0))) ∧ BelA wy wy.drew from ⟨⟨⟨bx0, bx1, bx2⟩, bx0, bx0⟩, (Drawn.refl _).drew.toBelow⟩)
                    clear bx0 bx1 bx2 la lb r0 r1
                    (try go_wp2_with fail)
                    go_region_held3 (fun wq => ((wq.cell? ⟨w.heap.size, 0, none⟩ = some (.slice K0 n0 c0) ∧ wq.cell? ⟨w.heap.size, 1, none⟩ = some (.slice K1 n1 c1) ∧ wq.cell? ⟨w.heap.size, 2, none⟩ = some (.slice K2 n2 c2)) ∧ (wq.cell? ⟨w.heap.size, 0, none⟩ = some (.slice K0 n0 c0) ∧ wq.cell? ⟨w.heap.size, 0, none⟩ = some (.slice K0 n0 c0))) ∧ BelA wy wq) (first | (with_reducible exact SC) | (with_reducible exact S0.out)) (first | ((go_at_call 41; with_reducible refine (C1.out _ (fv_below (by assumption))).mono ?_); rintro e w5 ⟨rfl, hb5⟩; have SC := fv_keep (by assumption) hb5) | ((go_at_call 39; with_reducible refine (C2.out _ (fv_below (by assumption))).mono ?_); rintro e w5 ⟨rfl, hb5⟩; have SC := fv_keep (by assumption) hb5) | ((go_at_call 40; with_reducible refine (C3.out _ (fv_below (by assumption))).mono ?_); rintro e w5 ⟨rfl, hb5⟩; have SC := fv_keep (by assumption) hb5))
                    have HR2 := Lib.hid (H4.out.trans ((fv_below SC).mono H4.out.size))
                    go_wp2
                    go_roundw
                    case rel => exact ⟨m + 1, by omega, by go_num, by rw [HST.out], HR2.out⟩
                    case measure => simp [intOf]; omega
                · obtain rfl : n'' = m := by omega
                  have Hg := Lib.hid (show Mp.cost xs ys k ms = Mp.part xs ys k ms n'' by rw [Hf.out, HN2.out])
                  go_wp2
                  go_ret
                  exact ⟨Kit.ret_int Hg.out.symm, HBC.out.trans (HR.out.mono HBC.out.size)⟩

end Go.Proofs.Ytnfjdlocmdgefaa
