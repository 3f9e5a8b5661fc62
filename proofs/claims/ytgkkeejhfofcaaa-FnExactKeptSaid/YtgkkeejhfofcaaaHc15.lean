/- Texts of one claim laid into one file, in build order: KepS. -/
import Derived.Test.YtgkkeejhfofcaaaHc14
import Derived.Test.YtgkkeejhfofcaaaHc3
import Derived.Test.YtgkkeejhfofcaaaHc4
import Derived.Test.YtgkkeejhfofcaaaHc5
/- Contracts (KepS). -/
namespace Go.Proofs.Ytgkkeejhfofcaaa
open Go.RowKit
set_option linter.unusedVariables false

theorem info_ndKp : (Try.prog.info? 47).map (fun i => (i.zero, i.size, i.bytes)) = some (some (.agg #[.int .i64 0, .int .i64 0]), 2, 16) := by kernel_rfl
set_option maxHeartbeats 3200000 in
set_option maxRecDepth 100000 in
theorem specKept_any (ad : Addr) (A' : Option Addr) (n n' c c' : Nat) (xs ms : Tr) (w : World) (h : NdIn w w.heap.size (some ad) n xs) (h' : NdIn w w.heap.size A' n' ms) (hn : n ≤ 1048576) (hn' : n' ≤ 1048576) :
    Calls Try.prog 45 #[.slice (some ad) n c, .slice A' n' c'] w (OwnNodes 47 (Kp.of xs ms) w) := by
  have H := Lib.hid h
  have H' := Lib.hid h'
  have HL := Lib.hid h.1
  clear h h'
  cases hgo : (Tr.ok xs && Un.has ms 0 ms.length) with
  | false =>
    have HR := Lib.hid (show Kp.of xs ms = [] by unfold Kp.of; rw [hgo]; rfl)
    have HG := Lib.hid hgo
    clear hgo
    go_enter Try.func45, Try.ntmps45
    go_wp2_with fail
    refine (l3Copy_ex ad n c xs w H.out hn).mono ?_
    rintro e w1 ⟨A1, c1, rfl, ho, hg⟩
    have HB1 := Lib.hid ((Below.refl w.heap.size w).grown hg (Nat.le_refl _) (fun k e => by cases e))
    clear ho hg
    go_wp2_with fail
    refine (specPostOrder_any _ _ _ xs w1 (H.out.to_below HB1.out) hn).mono ?_
    rintro e w2 ⟨A2, c2, rfl, ho, hb⟩
    have HB2 := Lib.hid (HB1.out.trans (hb.mono HB1.out.size))
    clear ho hb
    go_wp2_with fail
    refine (specTreeOk_any _ _ _ xs w2 (H.out.to_below HB2.out) hn).mono ?_
    rintro e w3 ⟨rfl, hd⟩
    have HB3 := Lib.hid (HB2.out.trans ((hd.toBelow (B := w2.heap.size)).mono HB2.out.size))
    clear hd
    cases hok : Tr.ok xs with
    | false =>
      go_wp2
      go_ret
      rw [HR.out]
      exact ⟨_, 0, rfl, World.ownsRow_lit w3 #[] 0 HB3.out.size (Nat.zero_le _) rfl, HB3.out.alloc HB3.out.size _⟩
    | true =>
      have HU := Lib.hid (show Un.has ms 0 ms.length = false by have := HG.out; rw [hok] at this; exact this)
      clear hok
      go_wp2_with fail
      refine (l10IsA_any _ _ _ ms _ w3 (H'.out.to_below HB3.out) hn').mono ?_
      rintro e w4 ⟨rfl, hd⟩
      have HB4 := Lib.hid (HB3.out.trans ((hd.toBelow (B := w3.heap.size)).mono HB3.out.size))
      clear hd
      rw [HU.out]
      go_wp2
      go_ret
      rw [HR.out]
      exact ⟨_, 0, rfl, World.ownsRow_lit w4 #[] 0 HB4.out.size (Nat.zero_le _) rfl, HB4.out.alloc HB4.out.size _⟩
  | true =>
    obtain ⟨hok, hroot⟩ : Tr.ok xs = true ∧ Un.has ms 0 ms.length = true := by simpa using hgo
    have HO := Lib.hid hok
    have HU := Lib.hid hroot
    have n24 := Tr.len24 hok
    rw [HL.out] at n24
    have HPL := Lib.hid (show (Tr.post xs).length = n by rw [Tr.post_length hok]; exact HL.out)
    have HND := Lib.hid (fun (u : Nat) (hu : u < n) => show (Tr.post xs).getD u 0 < n ∧ (Tr.post xs).getD u 0 = Tr.nd xs u from ⟨by have := (Tr.nd_at hok (u := u) (by rw [HL.out]; exact hu)).1; rw [HL.out] at this; exact this, rfl⟩)
    have HBD := Lib.hid (fun (j : Nat) (hj : j < n) => (Tr.ok_at hok (k := j) (by rw [HL.out]; exact hj)).2.1)
    have HEN := Lib.hid (fun (k e : Nat) (h1 : k < e) (h2 : e ≤ n) (h3 : ∀ m, k < m → m < e → Tr.d xs k < Tr.d xs m) (h4 : e = n ∨ Tr.d xs e ≤ Tr.d xs k) => show Tr.endN xs k = e from Tr.endN_is h1 (by rw [HL.out]; exact h2) h3 (by rw [HL.out]; exact h4))
    clear hok hroot hgo
    obtain ⟨i0, hi, hz0, hz1, hz2⟩ := info_parts info_ndKp
    have Hi := Lib.hid hi
    clear hi
    go_enter Try.func45, Try.ntmps45
    go_wp2_with fail
    refine (l3Copy_ex ad n c xs w H.out hn).mono ?_
    rintro e w1 ⟨A1, c1, rfl, ho, hg⟩
    obtain ⟨g, rfl, hg1, hg2⟩ := own_form ho (by omega)
    have HB1 := Lib.hid ((Below.refl w.heap.size w).grown hg (Nat.le_refl _) (fun k e => by cases e))
    have HO1 := Lib.hid ho
    clear ho hg
    go_wp2_with fail
    refine (specPostOrder_any _ _ _ xs w1 (H.out.to_below HB1.out) hn).mono ?_
    rintro e w2 ⟨A2, cp, rfl, ho, hb⟩
    have e2 : (Zs.up (Tr.post xs)).length = (Tr.post xs).length := by simp [Zs.up]
    rw [e2] at ho ⊢
    obtain ⟨gp, rfl, hp1, hp2⟩ := own_form ho (by rw [HPL.out]; omega)
    have HB2 := Lib.hid (HB1.out.trans (hb.mono HB1.out.size))
    have HK2 := Lib.hid (show KpS 47 3 w.heap.size w1.heap.size xs (Tr.post xs) g c1 gp cp (fun _ => 0) w2 from ⟨xs, ⟨rfl, fun j _ => ⟨rfl, (Int.sub_zero _).symm⟩⟩, by rw [HL.out]; exact own_below HO1.out hb, ho⟩)
    clear ho hb e2
    go_wp2_with fail
    refine (specTreeOk_any _ _ _ xs w2 (H.out.to_below HB2.out) hn).mono ?_
    rintro e w3 ⟨rfl, hd⟩
    rw [HO.out]
    have HB3 := Lib.hid (HB2.out.trans ((hd.toBelow (B := w2.heap.size)).mono HB2.out.size))
    have HK3 := Lib.hid (HK2.out.below (hd.toBelow (B := w2.heap.size)))
    clear hd
    go_wp2_with fail
    refine (l10IsA_any _ _ _ ms _ w3 (H'.out.to_below HB3.out) hn').mono ?_
    rintro e w4 ⟨rfl, hd⟩
    have HB4 := Lib.hid (HB3.out.trans ((hd.toBelow (B := w3.heap.size)).mono HB3.out.size))
    have HK4 := Lib.hid (HK3.out.below (hd.toBelow (B := w3.heap.size)))
    clear hd HK3 HK2 HO1
    rw [HU.out, HPL.out]
    have a1 : IntKind.i64.wrap ((n : Int) - 1) = (n : Int) - 1 := Kit.w64 (by omega) (by omega)
    go_wp2
    clear a1
    go_loopw [7] (fun iv wr => ∃ t : Nat, t ≤ n ∧ iv = .int .i64 ((t : Int) - 1) ∧ KpS 47 3 w.heap.size w1.heap.size xs (Tr.post xs) g c1 gp cp (Kp.q xs ms (n - t)) wr ∧ Below w.heap.size w wr) (fun i _ => (intOf i + 1).toNat)
    case atStart => exact ⟨n, Nat.le_refl _, by go_num, HK4.out.congr (fun j _ => by rw [Nat.sub_self]; rfl), HB4.out⟩
    case round =>
      obtain ⟨t, ht, rfl, hk, hB⟩ := hrel
      have HK := Lib.hid hk
      have HB := Lib.hid hB
      clear hk hB
      obtain ⟨wo, hwo⟩ : ∃ wo, wo = wr := ⟨_, rfl⟩
      subst hwo
      cases t with
      | zero =>
        have e0 : (((0 : Nat) : Int) - 1) = -1 := rfl
        rw [e0]
        clear e0
        obtain ⟨Y, hY, hY2, _⟩ := HK.out
        have HY := Lib.hid hY2
        have HD := Lib.hid (Kp.done (ms := ms) (Y := Y) HO.out HU.out (by rw [HL.out]; have := hY.2; rw [HL.out] at this; exact this))
        have HYL := Lib.hid (show Y.length = n by rw [hY.1]; exact HL.out)
        rw [HL.out] at HD HY
        clear hY hY2 HK
        go_wp2
        have hsz := HB.out.size
        go_loopw [11, 10] (fun iv ov wr => ∃ i : Nat, i ≤ n ∧ iv = .int .i64 i ∧ wr.ownsRow wo.heap.size 47 2 ov (Kp.pre Y ms i).length (Tr.cells (Kp.pre Y ms i)) ∧ Below wo.heap.size wo wr) (fun i _ _ => n - (intOf i).toNat)
        case atStart => exact ⟨0, by omega, by go_num, World.ownsRow_lit wo #[] 0 (Nat.le_refl _) (Nat.zero_le _) rfl, (Below.refl _ _).alloc (Nat.le_refl _) _⟩
        case round =>
          obtain ⟨i, hi, rfl, hO, hB2⟩ := hrel
          have HOo := Lib.hid hO
          have HB2 := Lib.hid hB2
          have HBT := Lib.hid (HB.out.trans (hB2.mono hsz))
          clear hO hB2
          by_cases hlt : i < n
          · have hi0 : (0 : Int) ≤ (i : Int) := by omega
            have hi1 : (i : Int) < (n : Int) := by omega
            go_wp2_with fail
            refine (l10IsA_any _ _ _ ms _ _ (H'.out.to_below HBT.out) hn').mono ?_
            rintro e w6 ⟨rfl, hd⟩
            have HB6 := Lib.hid (HB2.out.trans ((hd.toBelow (B := World.heap _ |>.size)).mono HB2.out.size))
            have HO6 := Lib.hid (own_below HOo.out (hd.toBelow (B := World.heap _ |>.size)))
            clear hd
            cases hh : Un.has ms (i : Int) ms.length with
            | false =>
              have HE := Lib.hid (show Kp.pre Y ms (i + 1) = Kp.pre Y ms i by rw [Kp.pre, hh]; rfl)
              clear hh
              go_wp2
              go_roundw
              case rel => exact ⟨i + 1, by omega, by go_num, by rw [HE.out]; exact HO6.out, HB6.out⟩
              case measure => simp [intOf]; omega
            | true =>
              have HE := Lib.hid (show Kp.pre Y ms (i + 1) = Kp.pre Y ms i ++ [(Tr.l Y i, Tr.d Y i)] by rw [Kp.pre, hh]; rfl)
              have hpl := Kp.pre_len Y ms i
              have hYo := own_below HY.out HB6.out
              have y0 := own_even hYo (k := i) (by rw [HYL.out]; exact hlt)
              have y1 := own_odd hYo (k := i) (by rw [HYL.out]; exact hlt)
              obtain ⟨A9, c9, hv9⟩ := own_slice HO6.out
              subst hv9
              have hs6 := HB6.out.size
              clear hh hYo
              go_wp2_with (at_builtin; go_loud (refine append_node w6 rfl _ _ 24 rfl wo.heap.size 47 i0 Try.underlying24 Hi.out hz0 hz1 hz2 (.slice A9 (Kp.pre Y ms i).length c9) (Kp.pre Y ms i).length (Kp.pre Y ms i) rfl HO6.out rfl (Tr.l Y i) (Tr.d Y i) rfl (by omega) hs6 ?_); intro v' w7 hown hgrow)
              have hg7 : w6.grownBy w7 (Value.slice A9 (Kp.pre Y ms i).length c9).ownBlock := (World.grownBy_alloc w6 _ _).trans hgrow
              have HB7 := Lib.hid (HB6.out.grown hg7 HB6.out.size (fun k e => (HO6.out.lt k e).1))
              have HO7 := Lib.hid hown
              clear hown hgrow hg7
              go_wp2
              go_roundw
              case rel => exact ⟨i + 1, by omega, by go_num, by rw [HE.out]; exact HO7.out, HB7.out⟩
              case measure => simp [intOf]; omega
          · obtain rfl : i = n := by omega
            obtain ⟨A9, c9, hv9⟩ := own_slice HOo.out
            subst hv9
            rw [HD.out] at HOo
            go_wp2
            go_ret
            exact ⟨A9, c9, by rw [← HD.out]; rfl, own_base HOo.out hsz, HBT.out⟩
      | succ s =>
        have e1 : (((s + 1 : Nat) : Int) - 1) = (s : Int) := by omega
        rw [e1]
        clear e1
        obtain ⟨p, hp⟩ : ∃ p, p = (Tr.post xs).getD s 0 := ⟨_, rfl⟩
        have hpn : p < n := by rw [hp]; exact (HND.out s (by omega)).1
        have HPP := Lib.hid hp
        have HQ := Lib.hid (fun (j : Nat) => show Kp.q xs ms (n - s) j = Kp.q xs ms (n - (s + 1)) j + Kp.e xs ms p j from by
          rw [show n - s = (n - (s + 1)) + 1 by omega, Kp.q_succ, HL.out, show n - 1 - (n - (s + 1)) = s by omega, ← (HND.out s (by omega)).2, ← HPP.out])
        have HQB := Lib.hid (fun (j : Nat) => Kp.q_bound xs ms j (n - (s + 1)))
        have s0 : (0 : Int) ≤ (s : Int) := by omega
        have s1 : (s : Int) < (n : Int) := by omega
        have a1 : IntKind.i64.wrap ((n : Int) - 1) = (n : Int) - 1 := Kit.w64 (by omega) (by omega)
        have a2 : IntKind.i64.wrap ((s : Int) - 1) = (s : Int) - 1 := Kit.w64 (by omega) (by omega)
        clear hp
        go_wp2
        go_loopw [8] (fun kv wr => ∃ q : Nat, q < n ∧ kv = .int .i64 (q : Int) ∧ KpS 47 3 w.heap.size w1.heap.size xs (Tr.post xs) g c1 gp cp (fun j => Kp.q xs ms (n - (s + 1)) j + if q < p then Kp.e xs ms p j else 0) wr ∧ Below w.heap.size w wr) (fun k _ => (intOf k).toNat)
        case atStart => exact ⟨n - 1, by omega, by go_num, HK.out.congr (fun j _ => by rw [if_neg (by omega)]; omega), HB.out⟩
        case round =>
          obtain ⟨q, hqn, rfl, hk, hB⟩ := hrel
          have HKq := Lib.hid hk
          have HBq := Lib.hid hB
          clear hk hB
          by_cases hq1 : 1 ≤ q
          · have q1 : (1 : Int) ≤ (q : Int) := by omega
            have a3 : IntKind.i64.wrap ((q : Int) - 1) = (q : Int) - 1 := Kit.w64 (by omega) (by omega)
            have hc := HKq.out.post (i := s) (by rw [HPL.out]; omega)
            rw [← HPP.out] at hc
            by_cases hpq : p = q
            · have hE : ((p : Int) == (q : Int)) = true := by simp [hpq]
              have HPQ := Lib.hid hpq
              clear hpq
              go_wp2_with fail
              refine (l10IsA_any _ _ _ ms _ _ (H'.out.to_below HBq.out) hn').mono ?_
              rintro e w6 ⟨rfl, hd⟩
              have HB6 := Lib.hid (HBq.out.trans ((hd.toBelow (B := World.heap _ |>.size)).mono HBq.out.size))
              have HK6 := Lib.hid (HKq.out.below (hd.toBelow (B := World.heap _ |>.size)))
              clear hd hc hE
              cases hh : Un.has ms (q : Int) ms.length with
              | true =>
                have HE0 := Lib.hid (fun j => show Kp.e xs ms p j = 0 by unfold Kp.e; rw [if_neg (fun hx => by rw [HPQ.out, hh] at hx; cases hx.1.2)])
                clear hh
                go_wp2
                go_roundw
                case rel => exact ⟨q - 1, by omega, by go_num, HK6.out.congr (fun j _ => by have := HPQ.out; rw [if_neg (by omega), if_pos (by omega), HE0.out j]), HB6.out⟩
                case measure => simp [intOf]; omega
              | false =>
                have HE0 := Lib.hid (fun j e (he : Tr.endN xs q = e) => show Kp.e xs ms p j = if q < j ∧ j < e then 1 else 0 by
                  unfold Kp.e
                  rw [HPQ.out, he]
                  by_cases hx : q < j ∧ j < e
                  · rw [if_pos hx, if_pos ⟨⟨hq1, hh⟩, hx⟩]
                  · rw [if_neg hx, if_neg (fun h => hx h.2)])
                have a4 : IntKind.i64.wrap ((q : Int) + 1) = (q : Int) + 1 := Kit.w64 (by omega) (by omega)
                clear hh
                go_wp2
                go_loopw [9] (fun ev wr => ∃ e : Nat, q < e ∧ e ≤ n ∧ ev = .int .i64 (e : Int) ∧ (∀ m, q < m → m < e → Tr.d xs q < Tr.d xs m) ∧ KpS 47 3 w.heap.size w1.heap.size xs (Tr.post xs) g c1 gp cp (fun j => Kp.q xs ms (n - (s + 1)) j + if q < j ∧ j < e then 1 else 0) wr ∧ Below w.heap.size w wr) (fun e _ => n - (intOf e).toNat)
                case atStart => exact ⟨q + 1, by omega, by omega, by go_num, fun m h1 h2 => absurd h1 (by omega), HK6.out.congr (fun j _ => by have := HPQ.out; rw [if_neg (by omega), if_neg (by omega)]), HB6.out⟩
                case round =>
                  obtain ⟨e, hqe, hen, rfl, hall, hk, hB⟩ := hrel
                  have Hall := Lib.hid hall
                  have HKe := Lib.hid hk
                  have HBe := Lib.hid hB
                  clear hall hk hB
                  have e0 : (0 : Int) ≤ (e : Int) := by omega
                  have q0 : (0 : Int) ≤ (q : Int) := by omega
                  by_cases hlt : e < n
                  · have hltd : decide (e < n) = true := by simpa using hlt
                    have e1 : (e : Int) < (n : Int) := by omega
                    have q2 : (q : Int) < (n : Int) := by omega
                    obtain ⟨-, hd1⟩ := (H.out.to_below HBe.out).here hlt
                    obtain ⟨-, hd2⟩ := (H.out.to_below HBe.out).here hqn
                    by_cases hgt : Tr.d xs q < Tr.d xs e
                    · have hg : decide (Tr.d xs q < Tr.d xs e) = true := by simpa using hgt
                      have Hg := Lib.hid hgt
                      obtain ⟨hn1, hn2⟩ := HKe.out.node (e := e) (by rw [HL.out]; exact hlt)
                      rw [if_neg (by omega)] at hn1
                      obtain ⟨D, hD⟩ : ∃ D, D = Tr.d xs e - (Kp.q xs ms (n - (s + 1)) e + 0) := ⟨_, rfl⟩
                      rw [← hD] at hn1
                      have hbd := HBD.out e hlt
                      have hqb := HQB.out e
                      have a5 : IntKind.i64.wrap (D - 1) = D - 1 := Kit.w64 (by omega) (by omega)
                      have a6 : IntKind.i64.wrap ((e : Int) + 1) = (e : Int) + 1 := Kit.w64 (by omega) (by omega)
                      have HD := Lib.hid hD
                      clear hgt hD hbd hqb
                      go_wp2
                      go_quiet (fail)
                      go_wp2
                      go_roundw
                      case rel => exact ⟨e + 1, by omega, by omega, by go_num, fun m h1 h2 => by
                        rcases Nat.lt_succ_iff_lt_or_eq.1 h2 with h' | rfl
                        · exact Hall.out m h1 h'
                        · exact Hg.out, KpS.store (HKe.out.below ((Drawn.refl _).drewN _).toBelow) (by rw [HL.out]; exact hlt) hg2 (by rw [HD.out, if_pos (by omega)]; omega) (fun j _ hj => by
                          by_cases c : q < j ∧ j < e
                          · rw [if_pos c, if_pos (by omega)]
                          · rw [if_neg c, if_neg (by omega)]), (HBe.out.trans (((Drawn.refl _).drewN _).toBelow.mono HBe.out.size)).setCell (by show w.heap.size ≤ g; exact hg1) _⟩
                      case measure => simp [intOf]; omega
                    · have hg : decide (Tr.d xs q < Tr.d xs e) = false := by simpa using hgt
                      have HE := Lib.hid (fun j => HE0.out j e (HEN.out q e hqe hen Hall.out (.inr (by omega))))
                      clear hgt
                      go_wp2
                      go_quiet (fail)
                      go_wp2
                      go_roundw
                      case rel => exact ⟨q - 1, by omega, by go_num, (HKe.out.below ((Drawn.refl _).drewN _).toBelow).congr (fun j _ => by have := HPQ.out; rw [if_pos (show q - 1 < p by omega), HE.out j]), HBe.out.trans (((Drawn.refl _).drewN _).toBelow.mono HBe.out.size)⟩
                      case measure => simp [intOf]; omega
                  · obtain rfl : e = n := by omega
                    have hltd : decide (e < e) = false := by simp
                    have HE := Lib.hid (fun j => HE0.out j e (HEN.out q e hqe hen Hall.out (.inl rfl)))
                    go_wp2
                    go_quiet (fail)
                    go_wp2
                    go_roundw
                    case rel => exact ⟨q - 1, by omega, by go_num, (HKe.out.below ((Drawn.refl _).drewN _).toBelow).congr (fun j _ => by have := HPQ.out; rw [if_pos (show q - 1 < p by omega), HE.out j]), HBe.out.trans (((Drawn.refl _).drewN _).toBelow.mono HBe.out.size)⟩
                    case measure => simp [intOf]; omega
            · have hE : ((p : Int) == (q : Int)) = false := by simp; omega
              go_wp2
              go_roundw
              case rel => exact ⟨q - 1, by omega, by go_num, HKq.out.congr (fun j _ => by
                by_cases c : q < p
                · rw [if_pos c, if_pos (by omega)]
                · rw [if_neg c, if_neg (by omega)]), HBq.out⟩
              case measure => simp [intOf]; omega
          · obtain rfl : q = 0 := by omega
            go_wp2
            go_roundw
            case rel => exact ⟨s, by omega, by go_num, HKq.out.congr (fun j _ => by
              rw [HQ.out j]
              by_cases c : 0 < p
              · rw [if_pos c]
              · rw [if_neg c]
                congr 1
                unfold Kp.e
                rw [if_neg (by omega)]), HBq.out⟩
            case measure => simp [intOf]

end Go.Proofs.Ytgkkeejhfofcaaa
