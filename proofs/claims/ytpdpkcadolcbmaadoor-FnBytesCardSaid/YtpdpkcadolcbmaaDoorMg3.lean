/- Texts of one claim laid into one file, in build order: VarI, VarB, LabOkS, TreeOkS, PutS, L7Sm, Co, BoxC, SameCS, Mem3, Three, UnitS, HarB, CoD. -/
import Derived.Test.YtpdpkcadolcbmaaDoorMg2
import Derived.BigQuiet
import Derived.Deep.RegionHeld3
import Derived.Maps.AppendAt
import Derived.Outline
import Derived.Test.YtpdpkcadolcbmaaDoorRows
/- Contracts (VarI). -/
namespace Go.Proofs.YtpdpkcadolcbmaaDoor
open Go.RowKit
set_option linter.unusedVariables false

set_option maxHeartbeats 400000 in
theorem implVar_no (n : Int) (h : ¬ (0 ≤ n ∧ n ≤ 562949953421311)) (w : World) :
    Calls Tryd.prog 24 #[.int .i64 n] w fun e w' => e = .returned (.string ⟨#[]⟩) ∧ w = w' := by
  by_cases h0 : n < 0
  · clear h
    go_enter Tryd.func24, Tryd.ntmps24
    go_wp2
    go_ret
    exact ⟨rfl, rfl⟩
  · have h1 : 562949953421311 < n := by omega
    clear h
    go_enter Tryd.func24, Tryd.ntmps24
    go_wp2
    go_ret
    exact ⟨rfl, rfl⟩

set_option maxHeartbeats 400000 in
set_option maxRecDepth 100000 in
theorem implVar_yes (m : Nat) (h0 : 0 ≤ (m : Int)) (h : (m : Int) ≤ 562949953421311) (w : World) :
    Calls Tryd.prog 24 #[.int .i64 m] w fun e w' => e = .returned (.string ⟨(Num.varF 6 m).toArray⟩) ∧ Below w.heap.size w w' := by
  obtain ⟨i0, hi, hz0, hz1, hz2⟩ := info_parts info_u8
  go_enter Tryd.func24, Tryd.ntmps24
  go_wp2
  go_loopw [0, 3] (fun nv ov wr => ∃ f q acc, nv = .int .i64 ((q : Nat) : Int) ∧ wr.ownsRow w.heap.size 5 1 ov acc.length (Kit.bcells acc) ∧ Num.VarAt m f q acc ∧ Below w.heap.size w wr) (fun n _ _ => (intOf n).toNat)
  case atStart => exact ⟨6, m, [], rfl, World.ownsRow_nil _ _ _ _, Num.VarAt.start (by omega), Below.refl _ _⟩
  case round =>
    obtain ⟨f, q, acc, rfl, hown, hat, hb⟩ := hrel
    have hle : (q : Int) ≤ 562949953421311 := by have := hat.le; omega
    have hal := hat.len
    have hsz := hb.size
    by_cases hq : 128 ≤ q
    · obtain ⟨f', rfl, hat'⟩ := hat.step hq
      have Hat := Lib.hid hat'
      clear hat hat'
      have hand := i64_and127 (q : Int)
      have hor := u8_or128_right ((q : Int) % 128) (by omega) (by omega)
      go_wp2_with (at_builtin; go_loud (refine Kit.append_byte wr rfl _ _ 22 rfl w.heap.size 5 i0 Tryd.underlying22 hi hz0 hz1 hz2 u3 acc.length acc rfl hown rfl ((q : Int) % 128 + 128) (by omega) (by omega) rfl (by omega) hsz ?_); intro v' w1 hown' hgrow)
      have hb' := Kit.below_own hb hown hgrow
      rw [show ((q : Int) % 128 + 128).toNat = 128 + q % 128 by omega] at hown'
      go_roundw
      case rel => exact ⟨f', q / 128, acc ++ [UInt8.ofNat (128 + q % 128)], by go_num, by simpa using hown', Hat.out, hb'⟩
      case measure => simp [intOf]; omega
    · have Hst := Lib.hid (hat.stop (by omega))
      clear hat
      go_wp2_with (at_builtin; refine Kit.append_byte wr rfl _ _ 22 rfl w.heap.size 5 i0 Tryd.underlying22 hi hz0 hz1 hz2 u3 acc.length acc rfl hown rfl (q : Int) (by omega) (by omega) rfl (by omega) hsz ?_; intro v' w1 hown' hgrow; have hcv := Kit.conv_own (P := Tryd.prog) Tryd.underlying22 Tryd.underlying5 Tryd.underlying9 hown' (by simp))
      have hb' := Kit.below_own hb hown hgrow
      go_ret
      exact ⟨by rw [Hst.out]; rfl, hb'⟩

theorem implVar_any (n : Int) (w : World) :
    Calls Tryd.prog 24 #[.int .i64 n] w fun e w' => e = .returned (.string ⟨(Num.varR n).toArray⟩) ∧ Below w.heap.size w w' := by
  unfold Num.varR
  by_cases h : 0 ≤ n ∧ n ≤ 562949953421311
  · obtain ⟨m, rfl⟩ := Int.eq_ofNat_of_zero_le h.1
    rw [if_pos h, Int.toNat_natCast]
    exact implVar_yes m h.1 h.2 w
  · rw [if_neg h]
    refine (implVar_no n h w).mono ?_
    rintro e w' ⟨rfl, rfl⟩
    exact ⟨rfl, Below.refl _ _⟩

end Go.Proofs.YtpdpkcadolcbmaaDoor

/- Contracts (VarB). -/
namespace Go.Proofs.YtpdpkcadolcbmaaDoor
open Go.RowKit
set_option linter.unusedVariables false

theorem specVarB_any (n : Int) (w : World) : Calls Tryd.prog 54 #[.int .i64 n] w fun e w' => e = .returned (.string (Num.varB n)) ∧ Below w.heap.size w w' := specVar_any n w
theorem implVarB_any (n : Int) (w : World) : Calls Tryd.prog 24 #[.int .i64 n] w fun e w' => e = .returned (.string (Num.varB n)) ∧ Below w.heap.size w w' := implVar_any n w
theorem Tr.put_no {xs : Tr} (h : Tr.ok xs = false) : Tr.put xs = ⟨#[]⟩ := by unfold Tr.put; rw [h]; rfl
theorem Tr.put_yes {xs : Tr} (h : Tr.ok xs = true) : Tr.put xs = Tr.putTo xs xs.length := by unfold Tr.put; rw [h]; rfl

/-- the world stands above B and w, the blocks of p and q in it -/
def PutG (B : Nat) (w : World) (p q : Addr) (wq : World) : Prop := B ≤ w.heap.size ∧ Below B w wq ∧ p.block < wq.heap.size ∧ q.block < wq.heap.size
theorem PutG.drew {B : Nat} {w wq : World} {p q : Addr} (h : PutG B w p q wq) : PutG B w p q wq.drew := ⟨h.1, h.2.1.drew, h.2.2.1, h.2.2.2⟩
/-- two cells held behind a call that makes memory -/
theorem put_keep {B : Nat} {w wx wq : World} {p q : Addr} {u v : Option Value} (hS : wx.cell? p = u ∧ wx.cell? q = v ∧ PutG B w p q wx) (hb : Below wx.heap.size wx wq) : wq.cell? p = u ∧ wq.cell? q = v ∧ PutG B w p q wq := by
  obtain ⟨h1, h2, h0, h3, h4, h5⟩ := hS
  have e := hb.size
  have f := h3.size
  exact ⟨by rw [hb.cell h4, h1], by rw [hb.cell h5, h2], h0, h3.trans (hb.mono (by omega)), by omega, by omega⟩

end Go.Proofs.YtpdpkcadolcbmaaDoor

/- Contracts (LabOkS). -/
namespace Go.Proofs.YtpdpkcadolcbmaaDoor
open Go.RowKit
set_option linter.unusedVariables false

set_option maxHeartbeats 400000 in
theorem specLabelOk_any (n : Int) (w : World) :
    Calls Tryd.prog 27 #[.int .i64 n] w fun e w' => e = .returned (.bool (Lab.ok n)) ∧ w = w' := by
  go_enter Tryd.func27, Tryd.ntmps27
  go_wp2_with fail
  refine (l1In_any _ _ _ _).mono ?_
  rintro e w' ⟨rfl, rfl⟩
  go_wp2
  go_ret
  exact ⟨Kit.ret_bool (by simp [Lab.ok]), rfl⟩

end Go.Proofs.YtpdpkcadolcbmaaDoor

/- Contracts (TreeOkS). -/
namespace Go.Proofs.YtpdpkcadolcbmaaDoor
open Go.RowKit
set_option linter.unusedVariables false

set_option maxHeartbeats 800000 in
set_option maxRecDepth 100000 in
theorem specTreeOk_any (A : Option Addr) (n c : Nat) (xs : Tr) (w : World) (h : NdIn w w.heap.size A n xs) (hn : n ≤ 1048576) :
    Calls Tryd.prog 8 #[.slice A n c] w fun e w' => e = .returned (.bool (Tr.ok xs)) ∧ Drawn w w' := by
  have H := Lib.hid h
  clear h
  go_enter Tryd.func8, Tryd.ntmps8
  go_wp2
  go_loopw [3] (fun iv wr => ∃ k : Nat, k ≤ n ∧ iv = .int .i64 k ∧ Tr.okTo xs k ∧ Drawn w wr) (fun i _ => n - (intOf i).toNat)
  case atStart => exact ⟨0, Nat.zero_le _, rfl, fun j hj => absurd hj (by omega), Drawn.refl _⟩
  case round =>
    obtain ⟨k, hk, rfl, hok, hD⟩ := hrel
    have Hok := Lib.hid hok
    clear hok
    have HL := Lib.hid H.out.1
    by_cases hlt : k < n
    · obtain ⟨ad, rfl, hb, hl, hd⟩ := (H.out.drawn hD).at_ hlt
      by_cases h1 : 0 ≤ Tr.l xs k ∧ Tr.l xs k ≤ 5
      · have h1' : Lab.ok (Tr.l xs k) = true := by simp [Lab.ok, h1]
        by_cases h2 : 0 ≤ Tr.d xs k ∧ Tr.d xs k ≤ 12
        · have h2' : decide (0 ≤ Tr.d xs k ∧ Tr.d xs k ≤ 12) = true := by simpa using h2
          by_cases hk0 : k = 0
          · have e1 : ((k : Int) == 0) = true := by simp [hk0]
            have e2 : decide (0 < k) = false := by simp; omega
            by_cases h3 : Tr.d xs k = 0
            · have e3 : (Tr.d xs k == 0) = true := by simpa using h3
              have Hk := Lib.hid (show Tr.okAt xs k = true by simp [Tr.okAt]; omega)
              clear h1 h2 h3 hk0
              go_wp2
              go_quiet (first
                | (go_at_call 27; exact quiet_same (specLabelOk_any _ _))
                | (go_at_call 28; exact quiet_same (l1In_any _ _ _ _)))
              go_wp2
              go_roundw
              case rel => exact ⟨k + 1, by omega, by go_num, Tr.okTo_succ Hok.out Hk.out, hD.drewN _⟩
              case measure => simp [intOf]; omega
            · have e3 : (Tr.d xs k == 0) = false := by simpa using h3
              have Hf := Lib.hid (Tr.not_ok (xs := xs) (k := k) (by rw [HL.out]; exact hlt) (by simp [Tr.okAt]; omega))
              clear h1 h2 h3 hk0
              go_wp2
              go_quiet (first
                | (go_at_call 27; exact quiet_same (specLabelOk_any _ _))
                | (go_at_call 28; exact quiet_same (l1In_any _ _ _ _)))
              go_wp2
              go_ret
              exact ⟨Kit.ret_bool Hf.out.symm, hD.drewN _⟩
          · have e1 : ((k : Int) == 0) = false := by simp [hk0]
            have e2 : decide (0 < k) = true := by simp; omega
            obtain ⟨hl', hd'⟩ := (H.out.drawn hD).here (show k - 1 < n by omega)
            by_cases h3 : Tr.d xs k = 0
            · have e3 : (Tr.d xs k == 0) = true := by simpa using h3
              have Hf := Lib.hid (Tr.not_ok (xs := xs) (k := k) (by rw [HL.out]; exact hlt) (by simp [Tr.okAt]; omega))
              clear h1 h2 h3 hk0
              go_wp2
              go_quiet (first
                | (go_at_call 27; exact quiet_same (specLabelOk_any _ _))
                | (go_at_call 28; exact quiet_same (l1In_any _ _ _ _)))
              go_wp2
              go_ret
              exact ⟨Kit.ret_bool Hf.out.symm, hD.drewN _⟩
            · have e3 : (Tr.d xs k == 0) = false := by simpa using h3
              have a1 : IntKind.i64.wrap ((k : Int) - 1) = (k : Int) - 1 := Kit.w64 (by omega) (by omega)
              have a2 : ((k : Int) - 1).toNat = k - 1 := by omega
              have a3 : (1 : Int) ≤ (k : Int) := by omega
              have a4 : (k : Int) - 1 < (n : Int) := by omega
              have a5 : IntKind.i64.wrap (Tr.d xs (k - 1) + 1) = Tr.d xs (k - 1) + 1 := by
                have := Tr.okTo_at (Hok.out) (show k - 1 < k by omega)
                exact Kit.w64 (by omega) (by omega)
              by_cases h4 : Tr.d xs k ≤ Tr.d xs (k - 1) + 1
              · have e4 : decide (Tr.d xs (k - 1) + 1 < Tr.d xs k) = false := by simpa using h4
                have Hk := Lib.hid (show Tr.okAt xs k = true by simp [Tr.okAt]; omega)
                clear h1 h2 h3 h4 hk0
                go_wp2
                go_quiet (first
                  | (go_at_call 27; exact quiet_same (specLabelOk_any _ _))
                  | (go_at_call 28; exact quiet_same (l1In_any _ _ _ _)))
                clear a1 a2 a3 a4 a5
                go_wp2
                go_roundw
                case rel => exact ⟨k + 1, by omega, by go_num, Tr.okTo_succ Hok.out Hk.out, hD.drewN _⟩
                case measure => simp [intOf]; omega
              · have e4 : decide (Tr.d xs (k - 1) + 1 < Tr.d xs k) = true := by simpa using h4
                have Hf := Lib.hid (Tr.not_ok (xs := xs) (k := k) (by rw [HL.out]; exact hlt) (by simp [Tr.okAt]; omega))
                clear h1 h2 h3 h4 hk0
                go_wp2
                go_quiet (first
                  | (go_at_call 27; exact quiet_same (specLabelOk_any _ _))
                  | (go_at_call 28; exact quiet_same (l1In_any _ _ _ _)))
                clear a1 a2 a3 a4 a5
                go_wp2
                go_ret
                exact ⟨Kit.ret_bool Hf.out.symm, hD.drewN _⟩
        · have h2' : decide (0 ≤ Tr.d xs k ∧ Tr.d xs k ≤ 12) = false := by simpa using h2
          have Hf := Lib.hid (Tr.not_ok (xs := xs) (k := k) (by rw [HL.out]; exact hlt) (by simp [Tr.okAt]; omega))
          clear h1 h2
          go_wp2
          go_quiet (first
            | (go_at_call 27; exact quiet_same (specLabelOk_any _ _))
            | (go_at_call 28; exact quiet_same (l1In_any _ _ _ _)))
          go_wp2
          go_ret
          exact ⟨Kit.ret_bool Hf.out.symm, hD.drewN _⟩
      · have h1' : Lab.ok (Tr.l xs k) = false := by simpa [Lab.ok] using h1
        have Hf := Lib.hid (Tr.not_ok (xs := xs) (k := k) (by rw [HL.out]; exact hlt) (by simp [Tr.okAt]; omega))
        clear h1
        go_wp2
        go_quiet (first
          | (go_at_call 27; exact quiet_same (specLabelOk_any _ _))
          | (go_at_call 28; exact quiet_same (l1In_any _ _ _ _)))
        go_wp2
        go_ret
        exact ⟨Kit.ret_bool Hf.out.symm, hD.drewN _⟩
    · obtain rfl : k = n := by omega
      have Hs := Lib.hid (Tr.ok_size (xs := xs) (by rw [HL.out]; exact Hok.out))
      go_wp2_with (go_at_call 28; refine (l1In_any _ _ _ _).mono ?_; rintro e w' ⟨rfl, rfl⟩)
      go_ret
      exact ⟨Kit.ret_bool (by rw [Hs.out, HL.out, ← Bool.decide_and, decide_eq_decide]; omega), hD⟩

end Go.Proofs.YtpdpkcadolcbmaaDoor

/- Contracts (PutS). -/
namespace Go.Proofs.YtpdpkcadolcbmaaDoor
open Go.RowKit
set_option linter.unusedVariables false

set_option maxHeartbeats 800000 in
set_option maxRecDepth 100000 in
theorem specPutTree_any (A : Option Addr) (n c : Nat) (xs : Tr) (w : World) (h : NdIn w w.heap.size A n xs) (hn : n ≤ 1048576) :
    Calls Tryd.prog 48 #[.slice A n c] w fun e w' => e = .returned (.string (Tr.put xs)) ∧ Below w.heap.size w w' := by
  have H := Lib.hid h
  clear h
  have HL := Lib.hid H.out.1
  rcases hok : Tr.ok xs with _ | _
  · have Hf := Lib.hid (Tr.put_no hok)
    have Hok := Lib.hid hok
    clear hok
    go_enter Tryd.func48, Tryd.ntmps48
    go_wp2_with fail
    refine (specTreeOk_any _ _ _ xs _ H.out hn).mono ?_
    rintro e w1 ⟨rfl, hb1⟩
    have hb1 := hb1.toBelow (B := w.heap.size)
    rw [Hok.out]
    go_wp2
    go_ret
    exact ⟨by rw [Hf.out]; rfl, hb1⟩
  · have Hf := Lib.hid (Tr.put_yes hok)
    have hle := (Tr.ok_iff.1 hok).2
    rw [HL.out] at hle
    have Hok := Lib.hid hok
    clear hok
    obtain ⟨ad, rfl, had⟩ := H.out.2.1 (by omega)
    go_enter Tryd.func48, Tryd.ntmps48
    go_wp2_with fail
    refine (specTreeOk_any _ _ _ xs _ H.out hn).mono ?_
    rintro e w1 ⟨rfl, hb1⟩
    have hb1 := hb1.toBelow (B := w.heap.size)
    have HB1 := Lib.hid hb1
    clear hb1
    rw [Hok.out]
    go_wp2_with fail
    refine (specVarB_any _ _).mono ?_
    rintro e w2 ⟨rfl, hb2⟩
    have HB2 := Lib.hid (HB1.out.trans (hb2.mono HB1.out.size))
    clear hb2 HB1
    go_wp2
    go_loopw [4, 3] (fun iv sv wr => ∃ k : Nat, k ≤ n ∧ iv = .int .i64 k ∧ sv = .string (Tr.putTo xs k) ∧ Below w.heap.size w wr) (fun i _ _ => n - (intOf i).toNat)
    case atStart => exact ⟨0, Nat.zero_le _, rfl, by rw [Tr.putTo, HL.out], HB2.out⟩
    case round =>
      obtain ⟨k, hk, rfl, rfl, hB⟩ := hrel
      have hsz := hB.size
      have HB := Lib.hid hB
      clear hB
      by_cases hlt : k < n
      · obtain ⟨hl, hd⟩ := (H.out.below HB.out).here hlt
        have z1 := Tr.putTo_size xs k
        have z2 := Num.varB_size (Tr.l xs k)
        have z3 := Num.varB_size (Tr.d xs k)
        have y1 : ¬ 9223372036854775807 < (Tr.putTo xs k).size + (Num.varB (Tr.l xs k)).size := by omega
        have y2 : ¬ 9223372036854775807 < (Tr.putTo xs k).size + (Num.varB (Tr.l xs k)).size + (Num.varB (Tr.d xs k)).size := by omega
        have Hs := Lib.hid (Tr.putTo_two xs k)
        have k0 : (0 : Int) ≤ (k : Int) := by omega
        have k1 : (k : Int) < (n : Int) := by omega
        clear z1 z2 z3
        go_wp2_with fail
        have S0 := Lib.hid (show wr.drew.cell? (ad.add (k * 2)) = some (.int .i64 (Tr.l xs k)) ∧ wr.drew.cell? ⟨(ad.add (k * 2)).block, (ad.add (k * 2)).off + 1, none⟩ = some (.int .i64 (Tr.d xs k)) ∧ PutG w.heap.size w (ad.add (k * 2)) ⟨(ad.add (k * 2)).block, (ad.add (k * 2)).off + 1, none⟩ wr.drew from ⟨hl, hd, Nat.le_refl _, HB.out.drew, by rw [block_of_add]; exact Nat.lt_of_lt_of_le had hsz, by show (ad.add (k * 2)).block < _; rw [block_of_add]; exact Nat.lt_of_lt_of_le had hsz⟩)
        go_region_held3 (fun wq => wq.cell? (ad.add (k * 2)) = some (.int .i64 (Tr.l xs k)) ∧ wq.cell? ⟨(ad.add (k * 2)).block, (ad.add (k * 2)).off + 1, none⟩ = some (.int .i64 (Tr.d xs k)) ∧ PutG w.heap.size w (ad.add (k * 2)) ⟨(ad.add (k * 2)).block, (ad.add (k * 2)).off + 1, none⟩ wq) (first | exact S0.out | (refine put_keep ?_ hb; assumption)) (first | (go_at_call 54; refine (specVarB_any _ _).mono ?_; rintro e w' ⟨rfl, hb⟩))
        all_goals
          have HG := Lib.hid (show PutG w.heap.size w (ad.add (k * 2)) ⟨(ad.add (k * 2)).block, (ad.add (k * 2)).off + 1, none⟩ w' by (first | (rename_i q; exact q.2.2) | (rename_i q _; exact q.2.2)))
          go_wp2
          go_roundw
          case rel => exact ⟨k + 1, by omega, by go_num, rfl, HG.out.2.1⟩
          case measure => simp [intOf]; omega
      · obtain rfl : k = n := by omega
        go_wp2
        go_ret
        exact ⟨by rw [Hf.out, HL.out]; rfl, HB.out⟩

end Go.Proofs.YtpdpkcadolcbmaaDoor

/- Contracts (L7Sm). -/
namespace Go.Proofs.YtpdpkcadolcbmaaDoor
open Go.RowKit
set_option linter.unusedVariables false

set_option maxHeartbeats 1600000 in
set_option maxRecDepth 100000 in
theorem l7Same_any (A A' : Option Addr) (n c n' c' : Nat) (xs ys : List Int) (w : World) (h : IntIn w w.heap.size A n xs) (h' : IntIn w w.heap.size A' n' ys) (hn : n ≤ 1048576) (hn' : n' ≤ 1048576) :
    Calls Tryd.prog 40 #[.slice A n c, .slice A' n' c'] w fun e w' => e = .returned (.bool (decide (xs = ys))) ∧ Drawn w w' := by
  have H := Lib.hid h
  have H' := Lib.hid h'
  clear h h'
  have HL := Lib.hid H.out.1
  have HL' := Lib.hid H'.out.1
  by_cases hnn : n = n'
  · go_enter Tryd.func40, Tryd.ntmps40
    have Hnn := Lib.hid hnn
    have hne : ((n : Int) != (n' : Int)) = false := by simp [hnn]
    clear hnn
    go_wp2
    go_loopw [5] (fun iv wr => ∃ k : Nat, k ≤ n ∧ iv = .int .i64 k ∧ (∀ j, j < k → Zs.at xs j = Zs.at ys j) ∧ Drawn w wr) (fun i _ => n - (intOf i).toNat)
    case atStart => exact ⟨0, by omega, rfl, fun j hj => absurd hj (by omega), Drawn.refl _⟩
    case round =>
      obtain ⟨k, hk, rfl, hsm, hD⟩ := hrel
      have Hsm := Lib.hid hsm
      clear hsm
      by_cases hlt : k < n
      · obtain ⟨ad, rfl, hb, hl⟩ := (H.out.drawn hD).at_ hlt
        obtain ⟨ad', rfl, hb', hl'⟩ := (H'.out.drawn hD).at_ (k := k) (by rw [← Hnn.out]; exact hlt)
        have hlt' : (k : Int) < (n' : Int) := by rw [← Hnn.out]; omega
        have hk0 : (0 : Int) ≤ (k : Int) := by omega
        by_cases hq1 : Zs.at xs k = Zs.at ys k
        · have Hq := Lib.hid hq1
          have q1 : (Zs.at xs k != Zs.at ys k) = false := by simpa using hq1
          clear hq1
          go_wp2
          go_quiet (fail)
          go_wp2
          go_roundw
          case rel => exact ⟨k + 1, by omega, by go_num, fun j hj => by
            rcases Nat.lt_succ_iff_lt_or_eq.1 hj with h' | rfl
            · exact Hsm.out j h'
            · exact Hq.out, hD.drewN _⟩
          case measure => simp [intOf]; omega
        · have Hq := Lib.hid hq1
          have q1 : (Zs.at xs k != Zs.at ys k) = true := by simpa using hq1
          clear hq1
          go_wp2
          go_quiet (fail)
          go_wp2
          go_ret
          refine ⟨Kit.ret_bool ?_, hD.drewN _⟩
          symm
          rw [decide_eq_false_iff_not]
          rintro rfl
          exact Hq.out rfl
      · obtain rfl : k = n := by omega
        have Hf := Lib.hid (show xs = ys from Zs.ext (by rw [HL.out, HL'.out]; exact Hnn.out) (fun j hj => Hsm.out j (by rw [← HL.out]; exact hj)))
        go_wp2
        go_ret
        exact ⟨Kit.ret_bool (by rw [Hf.out]; simp), hD⟩
  · have hne : ((n : Int) != (n' : Int)) = true := by simp; omega
    have Hf := Lib.hid (show ¬ xs = ys from fun e => hnn (by rw [← HL.out, ← HL'.out, e]))
    clear hnn
    go_enter Tryd.func40, Tryd.ntmps40
    go_wp2
    go_ret
    exact ⟨Kit.ret_bool (by simp [Hf.out]), Drawn.refl _⟩

end Go.Proofs.YtpdpkcadolcbmaaDoor

/- Contracts (Co). -/
namespace Go.Proofs.YtpdpkcadolcbmaaDoor
open Go.RowKit
set_option linter.unusedVariables false

/-! Costs: three rows of numbers. -/
structure Co where
  d : List Int
  i : List Int
  r : List Int
def Zs.fit (zs : List Int) (n : Nat) : Bool := zs.all (fun z => decide (0 ≤ z ∧ z ≤ 1000)) && decide (zs.length = n)
def Co.diag (k : Co) : Bool := (List.range 6).all fun a => decide (k.r.getD (a * 6 + a) 0 = 0)
def Co.ok (k : Co) : Bool := Zs.fit k.d 6 && Zs.fit k.i 6 && Zs.fit k.r 36 && Co.diag k
theorem Zs.fit_iff {zs : List Int} {n : Nat} : Zs.fit zs n = true ↔ zs.length = n ∧ ∀ k, k < zs.length → 0 ≤ Zs.at zs k ∧ Zs.at zs k ≤ 1000 := by
  simp only [Zs.fit, Bool.and_eq_true, List.all_eq_true, decide_eq_true_eq]
  constructor
  · rintro ⟨h, e⟩
    refine ⟨e, fun k hk => ?_⟩
    have := h (zs[k]) (List.getElem_mem hk)
    simpa [Zs.at, List.getD_eq_getElem?_getD, hk] using this
  · rintro ⟨e, h⟩
    refine ⟨fun z hz => ?_, e⟩
    obtain ⟨k, hk, rfl⟩ := List.getElem_of_mem hz
    have := h k hk
    simpa [Zs.at, List.getD_eq_getElem?_getD, hk] using this
/-- the first k numbers stand within bounds -/
def Zs.inTo (zs : List Int) (k : Nat) : Prop := ∀ j, j < k → 0 ≤ Zs.at zs j ∧ Zs.at zs j ≤ 1000
theorem Zs.fit_not {zs : List Int} {k n : Nat} (hk : k < zs.length) (h : ¬ (0 ≤ Zs.at zs k ∧ Zs.at zs k ≤ 1000)) : Zs.fit zs n = false := by
  rw [Bool.eq_false_iff]
  exact fun e => h ((Zs.fit_iff.1 e).2 k hk)
theorem Zs.fit_all {zs : List Int} {n : Nat} (h : Zs.inTo zs zs.length) : Zs.fit zs n = decide (zs.length = n) := by
  rw [Bool.eq_iff_iff, Zs.fit_iff]
  simp only [decide_eq_true_eq]
  exact ⟨fun e => e.1, fun e => ⟨e, h⟩⟩
def Co.del (k : Co) (a : Int) : Int := if Co.ok k && Lab.ok a then Zs.at k.d a.toNat else 0
def Co.ins (k : Co) (a : Int) : Int := if Co.ok k && Lab.ok a then Zs.at k.i a.toNat else 0
def Co.rel (k : Co) (a b : Int) : Int := if Co.ok k && Lab.ok a && Lab.ok b then Zs.at k.r (a * 6 + b).toNat else 0
theorem Co.ok_iff {k : Co} : Co.ok k = true ↔ Zs.fit k.d 6 = true ∧ Zs.fit k.i 6 = true ∧ Zs.fit k.r 36 = true ∧ Co.diag k = true := by
  simp only [Co.ok, Bool.and_eq_true, and_assoc]
/-- the three slices of a cost read as k -/
def CoIn (w : World) (B : Nat) (A0 A1 A2 : Option Addr) (n0 n1 n2 : Nat) (k : Co) : Prop := IntIn w B A0 n0 k.d ∧ IntIn w B A1 n1 k.i ∧ IntIn w B A2 n2 k.r
section
variable {w w' : World} {B : Nat} {A0 A1 A2 : Option Addr} {n0 n1 n2 : Nat} {k : Co}
theorem CoIn.below (h : CoIn w B A0 A1 A2 n0 n1 n2 k) (hb : Below B w w') : CoIn w' B A0 A1 A2 n0 n1 n2 k := ⟨h.1.below hb, h.2.1.below hb, h.2.2.below hb⟩
theorem CoIn.drawn (h : CoIn w B A0 A1 A2 n0 n1 n2 k) (hd : Drawn w w') : CoIn w' B A0 A1 A2 n0 n1 n2 k := ⟨h.1.drawn hd, h.2.1.drawn hd, h.2.2.drawn hd⟩
theorem CoIn.to_below (h : CoIn w w.heap.size A0 A1 A2 n0 n1 n2 k) (hb : Below w.heap.size w w') : CoIn w' w'.heap.size A0 A1 A2 n0 n1 n2 k := ⟨h.1.to_below hb, h.2.1.to_below hb, h.2.2.to_below hb⟩
theorem CoIn.to_drawn (h : CoIn w w.heap.size A0 A1 A2 n0 n1 n2 k) (hd : Drawn w w') : CoIn w' w'.heap.size A0 A1 A2 n0 n1 n2 k := h.to_below hd.toBelow
theorem CoIn.more {B' : Nat} (h : CoIn w B A0 A1 A2 n0 n1 n2 k) (hB : B ≤ B') : CoIn w B' A0 A1 A2 n0 n1 n2 k := ⟨h.1.more hB, h.2.1.more hB, h.2.2.more hB⟩
theorem CoIn.len (h : CoIn w B A0 A1 A2 n0 n1 n2 k) : k.d.length = n0 ∧ k.i.length = n1 ∧ k.r.length = n2 := ⟨h.1.1, h.2.1.1, h.2.2.1⟩
end

end Go.Proofs.YtpdpkcadolcbmaaDoor

/- Contracts (BoxC). -/
namespace Go.Proofs.YtpdpkcadolcbmaaDoor
open Go.RowKit
set_option linter.unusedVariables false

/-- a block of three cells -/
def Box3 (w : World) (g : Nat) (v0 v1 v2 : Value) : Prop := w.cell? ⟨g, 0, none⟩ = some v0 ∧ w.cell? ⟨g, 1, none⟩ = some v1 ∧ w.cell? ⟨g, 2, none⟩ = some v2
theorem Box3.drawn {w w' : World} {g : Nat} {v0 v1 v2 : Value} (h : Box3 w g v0 v1 v2) (hd : Drawn w w') : Box3 w' g v0 v1 v2 := ⟨(hd.cell _).trans h.1, (hd.cell _).trans h.2.1, (hd.cell _).trans h.2.2⟩
theorem Box3.below {w w' : World} {g B : Nat} {v0 v1 v2 : Value} (h : Box3 w g v0 v1 v2) (hb : Below B w w') (hg : g < B) : Box3 w' g v0 v1 v2 := ⟨(hb.cell (p := ⟨g, 0, none⟩) hg).trans h.1, (hb.cell (p := ⟨g, 1, none⟩) hg).trans h.2.1, (hb.cell (p := ⟨g, 2, none⟩) hg).trans h.2.2⟩
theorem Box3.made (w : World) (v0 v1 v2 : Value) (e : TypeId) : Box3 (w.alloc (.cells #[v0, v1, v2] e)) w.heap.size v0 v1 v2 := ⟨by simp, by simp, by simp⟩
theorem Box3.free (w : World) (v0 v1 v2 : Value) (e : TypeId) (off : Nat) : (w.alloc (.cells #[v0, v1, v2] e)).frozen? ⟨w.heap.size, off, none⟩ = false := by simp
theorem free_below {w w' : World} {g B : Nat} (hb : Below B w w') (hg : g < B) (h : ∀ off, w.frozen? ⟨g, off, none⟩ = false) (off : Nat) : w'.frozen? ⟨g, off, none⟩ = false := by
  have e := hb.block g hg
  have := h off
  unfold World.frozen? at this ⊢
  simp only [e]
  exact this
theorem Box3.alloc {w : World} {g : Nat} {v0 v1 v2 : Value} (h : Box3 w g v0 v1 v2) (hg : g < w.heap.size) (o : Obj) : Box3 (w.alloc o) g v0 v1 v2 :=
  ⟨(World.cell?_alloc_lt w o ⟨g, 0, none⟩ hg).trans h.1, (World.cell?_alloc_lt w o ⟨g, 1, none⟩ hg).trans h.2.1, (World.cell?_alloc_lt w o ⟨g, 2, none⟩ hg).trans h.2.2⟩

end Go.Proofs.YtpdpkcadolcbmaaDoor

/- Contracts (SameCS). -/
namespace Go.Proofs.YtpdpkcadolcbmaaDoor
open Go.RowKit
set_option linter.unusedVariables false

def Co.same (a b : Co) : Bool := decide (a.d = b.d) && decide (a.i = b.i) && decide (a.r = b.r)
set_option maxHeartbeats 1600000 in
set_option maxRecDepth 100000 in
theorem specSameCost_any (A0 A1 A2 B0 B1 B2 : Option Addr) (n0 n1 n2 c0 c1 c2 m0 m1 m2 d0 d1 d2 : Nat) (k l : Co) (w : World) (h : CoIn w w.heap.size A0 A1 A2 n0 n1 n2 k) (h' : CoIn w w.heap.size B0 B1 B2 m0 m1 m2 l)
    (h0 : n0 ≤ 1048576) (h1 : n1 ≤ 1048576) (h2 : n2 ≤ 1048576) (l0 : m0 ≤ 1048576) (l1 : m1 ≤ 1048576) (l2 : m2 ≤ 1048576) :
    Calls Tryd.prog 19 #[.agg #[.slice A0 n0 c0, .slice A1 n1 c1, .slice A2 n2 c2], .agg #[.slice B0 m0 d0, .slice B1 m1 d1, .slice B2 m2 d2]] w fun e w' => e = .returned (.bool (Co.same k l)) ∧ Below w.heap.size w w' := by
  have H := Lib.hid h
  have H' := Lib.hid h'
  clear h h'
  obtain ⟨o1, ho1⟩ : ∃ o, o = Obj.cells #[.slice A0 n0 c0, .slice A1 n1 c1, .slice A2 n2 c2] 35 := ⟨_, rfl⟩
  obtain ⟨o2, ho2⟩ : ∃ o, o = Obj.cells #[.slice B0 m0 d0, .slice B1 m1 d1, .slice B2 m2 d2] 35 := ⟨_, rfl⟩
  have hba := (Below.refl w.heap.size w).alloc (Nat.le_refl _) o1
  have HB := Lib.hid (hba.alloc hba.size o2)
  have hlt : w.heap.size < (w.alloc o1).heap.size := by simp
  have GA := Lib.hid ((show Box3 (w.alloc o1) w.heap.size (.slice A0 n0 c0) (.slice A1 n1 c1) (.slice A2 n2 c2) by rw [ho1]; exact Box3.made _ _ _ _ _).alloc hlt o2)
  have GB := Lib.hid (show Box3 ((w.alloc o1).alloc o2) (w.alloc o1).heap.size (.slice B0 m0 d0) (.slice B1 m1 d1) (.slice B2 m2 d2) by rw [ho2]; exact Box3.made _ _ _ _ _)
  have hs1 : (w.alloc o1).heap.size = w.heap.size + 1 := by simp
  rw [hs1] at GB
  clear hba hlt hs1
  subst ho1
  subst ho2
  have HA := Lib.hid (H.out.to_below HB.out)
  have HA' := Lib.hid (H'.out.to_below HB.out)
  cases e0 : decide (k.d = l.d) with
  | false =>
    have Hf := Lib.hid (show Co.same k l = false by unfold Co.same; rw [e0]; rfl)
    have E0 := Lib.hid e0
    clear e0
    go_enter Tryd.func19, Tryd.ntmps19
    obtain ⟨g0, g1, g2⟩ := GA.out
    obtain ⟨g3, g4, g5⟩ := GB.out
    go_wp2_with fail
    clear g0 g1 g2 g3 g4 g5
    refine (l7Same_any _ _ _ _ _ _ k.d l.d _ HA.out.1 HA'.out.1 h0 l0).mono ?_
    rintro e w1 ⟨rfl, hd⟩
    have HB := Lib.hid (Drawn.below HB.out hd)
    have HA := Lib.hid (HA.out.to_drawn hd)
    have HA' := Lib.hid (HA'.out.to_drawn hd)
    have GA := Lib.hid (GA.out.drawn hd)
    have GB := Lib.hid (GB.out.drawn hd)
    clear hd
    rw [E0.out]
    go_wp2
    go_ret
    exact ⟨Kit.ret_bool Hf.out.symm, HB.out⟩
  | true =>
    cases e1 : decide (k.i = l.i) with
    | false =>
      have Hf := Lib.hid (show Co.same k l = false by unfold Co.same; rw [e0, e1]; rfl)
      have E0 := Lib.hid e0
      have E1 := Lib.hid e1
      clear e0 e1
      go_enter Tryd.func19, Tryd.ntmps19
      obtain ⟨g0, g1, g2⟩ := GA.out
      obtain ⟨g3, g4, g5⟩ := GB.out
      go_wp2_with fail
      clear g0 g1 g2 g3 g4 g5
      refine (l7Same_any _ _ _ _ _ _ k.d l.d _ HA.out.1 HA'.out.1 h0 l0).mono ?_
      rintro e w1 ⟨rfl, hd⟩
      have HB := Lib.hid (Drawn.below HB.out hd)
      have HA := Lib.hid (HA.out.to_drawn hd)
      have HA' := Lib.hid (HA'.out.to_drawn hd)
      have GA := Lib.hid (GA.out.drawn hd)
      have GB := Lib.hid (GB.out.drawn hd)
      clear hd
      rw [E0.out]
      obtain ⟨g0, g1, g2⟩ := GA.out
      obtain ⟨g3, g4, g5⟩ := GB.out
      go_wp2_with fail
      clear g0 g1 g2 g3 g4 g5
      refine (l7Same_any _ _ _ _ _ _ k.i l.i _ HA.out.2.1 HA'.out.2.1 h1 l1).mono ?_
      rintro e w2 ⟨rfl, hd⟩
      have HB := Lib.hid (Drawn.below HB.out hd)
      have HA := Lib.hid (HA.out.to_drawn hd)
      have HA' := Lib.hid (HA'.out.to_drawn hd)
      have GA := Lib.hid (GA.out.drawn hd)
      have GB := Lib.hid (GB.out.drawn hd)
      clear hd
      rw [E1.out]
      go_wp2
      go_ret
      exact ⟨Kit.ret_bool Hf.out.symm, HB.out⟩
    | true =>
      have Hf := Lib.hid (show Co.same k l = decide (k.r = l.r) by unfold Co.same; rw [e0, e1]; rfl)
      have E0 := Lib.hid e0
      have E1 := Lib.hid e1
      have E2 := Lib.hid (show decide (k.r = l.r) = Co.same k l from Hf.out.symm)
      clear e0 e1
      go_enter Tryd.func19, Tryd.ntmps19
      obtain ⟨g0, g1, g2⟩ := GA.out
      obtain ⟨g3, g4, g5⟩ := GB.out
      go_wp2_with fail
      clear g0 g1 g2 g3 g4 g5
      refine (l7Same_any _ _ _ _ _ _ k.d l.d _ HA.out.1 HA'.out.1 h0 l0).mono ?_
      rintro e w1 ⟨rfl, hd⟩
      have HB := Lib.hid (Drawn.below HB.out hd)
      have HA := Lib.hid (HA.out.to_drawn hd)
      have HA' := Lib.hid (HA'.out.to_drawn hd)
      have GA := Lib.hid (GA.out.drawn hd)
      have GB := Lib.hid (GB.out.drawn hd)
      clear hd
      rw [E0.out]
      obtain ⟨g0, g1, g2⟩ := GA.out
      obtain ⟨g3, g4, g5⟩ := GB.out
      go_wp2_with fail
      clear g0 g1 g2 g3 g4 g5
      refine (l7Same_any _ _ _ _ _ _ k.i l.i _ HA.out.2.1 HA'.out.2.1 h1 l1).mono ?_
      rintro e w2 ⟨rfl, hd⟩
      have HB := Lib.hid (Drawn.below HB.out hd)
      have HA := Lib.hid (HA.out.to_drawn hd)
      have HA' := Lib.hid (HA'.out.to_drawn hd)
      have GA := Lib.hid (GA.out.drawn hd)
      have GB := Lib.hid (GB.out.drawn hd)
      clear hd
      rw [E1.out]
      obtain ⟨g0, g1, g2⟩ := GA.out
      obtain ⟨g3, g4, g5⟩ := GB.out
      go_wp2_with fail
      clear g0 g1 g2 g3 g4 g5
      refine (l7Same_any _ _ _ _ _ _ k.r l.r _ HA.out.2.2 HA'.out.2.2 h2 l2).mono ?_
      rintro e w3 ⟨rfl, hd⟩
      have HB := Lib.hid (Drawn.below HB.out hd)
      have HA := Lib.hid (HA.out.to_drawn hd)
      have HA' := Lib.hid (HA'.out.to_drawn hd)
      have GA := Lib.hid (GA.out.drawn hd)
      have GB := Lib.hid (GB.out.drawn hd)
      clear hd
      rw [E2.out]
      go_wp2
      go_ret
      exact ⟨rfl, HB.out⟩

end Go.Proofs.YtpdpkcadolcbmaaDoor

/- Contracts (Mem3). -/
namespace Go.Proofs.YtpdpkcadolcbmaaDoor
open Go.RowKit
set_option linter.unusedVariables false

/-- the rows a and b lie in blocks apart (a's may be none) -/
def Apart (a b : Value) : Prop := a.ownBlock = none ∨ a.ownBlock ≠ b.ownBlock
theorem Apart.grew {kv ov v' : Value} {w : World} {base size n : Nat} {e : TypeId} {ys : List Value} (h : Apart kv ov) (hk : w.ownsRow base e size kv n ys) (hv : v'.ownBlock = ov.ownBlock ∨ v'.ownBlock = some w.heap.size) : Apart kv v' := by
  rcases hv with hv | hv
  · rcases h with h | h
    · exact .inl h
    · exact .inr (by rw [hv]; exact h)
  · rcases hb : kv.ownBlock with _ | g
    · exact .inl hb
    · refine .inr ?_
      have := (hk.lt g hb).2
      rw [hb, hv]
      intro e
      injection e with e
      omega
/-- out = append(out, x...), both rows of ints -/
theorem append_ints {P : Program} (w : World) {ops : Array Oper} {rest : List Oper} {o : Oper} {a : Act} {Q : Exit → Act → World → Prop} (hgd : o.guard = none) (s x : Operand) (t : TypeId)
    (ho : o.op = .call { callee := .builtin .append, args := #[s, x], argTypes := #[t, t] })
    (base : Nat) (e : TypeId) (i : TypeInfo) (ht : P.underlying t = some (.slice e)) (hi : P.info? e = some i) (hz : i.zero = some (.int .i64 0))
    (hsize : i.size = 1) (hby : i.bytes = 8) (v : Value) (n : Nat) (l : List Int) (hs : a.eval s = v) (hown : w.ownsRow base e 1 v n (ints l)) (hn : n = l.length)
    {B : Nat} (zs : List Int) (A : Option Addr) (c : Nat) (hx : a.eval x = .slice A zs.length c) (hin : IntIn w B A zs.length zs) (hpos : 0 < zs.length)
    (h63 : l.length + zs.length ≤ 1073741824) (hbase : base ≤ w.heap.size)
    (h : ∀ v' w', w'.ownsRow base e 1 v' (l ++ zs).length (ints (l ++ zs)) → w.grownBy w' v.ownBlock → (v'.ownBlock = v.ownBlock ∨ v'.ownBlock = some w.heap.size) → wpList P ops Q rest (a.put o.dst v') w') :
    wpList P ops Q (o :: rest) a w := by
  subst hn
  obtain ⟨ad, rfl, _⟩ := hin.2.1 hpos
  refine wpList_append_own_at _ hgd s x t ho base e i (.int .i64 0) 1 8 ht hi hz hsize hby rfl (by decide) v l.length (ints l) hs hown ad zs.length c (ints zs) hx (by rw [ints_length, Nat.mul_one]) hin.cells_at (ints_cell _) (by unfold maxLen; omega) (by omega) hbase ?_
  intro v' w' h2 h3 _ h5
  refine h v' w' ?_ h3 h5
  rw [ints_append, List.length_append]
  exact h2
/-- .. of one element -/
theorem append_int_at {P : Program} (w : World) {ops : Array Oper} {rest : List Oper} {o : Oper} {a : Act} {Q : Exit → Act → World → Prop} (hgd : o.guard = none) (s x : Operand) (t : TypeId)
    (ho : o.op = .call { callee := .builtin .append, args := #[s, x], argTypes := #[t, t] })
    (base : Nat) (e : TypeId) (i : TypeInfo) (ht : P.underlying t = some (.slice e)) (hi : P.info? e = some i) (hz : i.zero = some (.int .i64 0))
    (hsize : i.size = 1) (hby : i.bytes = 8) (v : Value) (n : Nat) (l : List Int) (hs : a.eval s = v) (hown : w.ownsRow base e 1 v n (ints l)) (hn : n = l.length)
    (b : Int) (hx : a.eval x = .slice (some ⟨w.heap.size, 0, none⟩) 1 1)
    (h63 : l.length + 1 ≤ 1073741824) (hbase : base ≤ w.heap.size)
    (h : ∀ v' w', w'.ownsRow base e 1 v' (l ++ [b]).length (ints (l ++ [b])) → (w.alloc (.cells #[.int .i64 b] e)).grownBy w' v.ownBlock → (v'.ownBlock = v.ownBlock ∨ v'.ownBlock = some (w.heap.size + 1)) → wpList P ops Q rest (a.put o.dst v') w') :
    wpList P ops Q (o :: rest) a (w.alloc (.cells #[.int .i64 b] e)) := by
  have hsz : (w.alloc (.cells #[.int .i64 b] e)).heap.size = w.heap.size + 1 := by simp
  refine append_ints (w.alloc (.cells #[.int .i64 b] e)) hgd s x t ho base e i ht hi hz hsize hby v n l hs (hown.alloc _) hn (B := w.heap.size + 1) [b] (some ⟨w.heap.size, 0, none⟩) 1 hx ?_ (by simp) (by simpa using h63) (by omega) ?_
  · refine ⟨rfl, fun _ => ⟨_, rfl, Nat.lt_succ_self _⟩, fun ad he k hk => ?_⟩
    obtain rfl : (⟨w.heap.size, 0, none⟩ : Addr) = ad := by injection he
    obtain rfl : k = 0 := by simpa using hk
    simp [Addr.add, Zs.at]
  · intro v' w' h1 h2 h3
    rw [hsz] at h3
    exact h v' w' h1 h2 h3

end Go.Proofs.YtpdpkcadolcbmaaDoor

/- Contracts (Three). -/
namespace Go.Proofs.YtpdpkcadolcbmaaDoor
open Go.RowKit
set_option linter.unusedVariables false

theorem Apart.symm {a b : Value} (h : Apart a b) : Apart b a := by
  rcases hb : b.ownBlock with _ | g
  · exact .inl hb
  · refine .inr fun e => ?_
    rcases h with h | h
    · rw [hb, h] at e; cases e
    · exact h e.symm
/-- a struct of three rows of ints that a call builds: in block g; the rows behind it, apart from one another -/
def ThreeAt (w0 : World) (g n0 n1 n2 : Nat) (L0 L1 L2 : List Int) (v0 v1 v2 : Value) (w : World) : Prop :=
  Box3 w g v0 v1 v2 ∧ (∀ off, w.frozen? ⟨g, off, none⟩ = false) ∧ w.ownsRow (g + 1) 3 1 v0 n0 (ints L0) ∧ w.ownsRow (g + 1) 3 1 v1 n1 (ints L1) ∧ w.ownsRow (g + 1) 3 1 v2 n2 (ints L2) ∧
  Apart v0 v1 ∧ Apart v0 v2 ∧ Apart v1 v2 ∧ Below w0.heap.size w0 w ∧ g < w.heap.size
theorem Three.push0 {w0 w w' : World} {g : Nat} {n0 n1 n2 n' : Nat} {L0 L1 L2 L' : List Int} {v0 v1 v2 v' : Value} {o : Obj} (hg : w0.heap.size ≤ g) (h : ThreeAt w0 g n0 n1 n2 L0 L1 L2 v0 v1 v2 w)
    (hown : w'.ownsRow (g + 1) 3 1 v' n' (ints L')) (hgrow : (w.alloc o).grownBy w' v0.ownBlock) (hw : v'.ownBlock = v0.ownBlock ∨ v'.ownBlock = some (w.heap.size + 1)) :
    ThreeAt w0 g n' n1 n2 L' L1 L2 v' v1 v2 (w'.setCell ⟨g, 0, none⟩ v') := by
  obtain ⟨hb, hf, o0, o1, o2, a01, a02, a12, hB, hgl⟩ := h
  have hsz : (w.alloc o).heap.size = w.heap.size + 1 := by simp
  have hgw : g < w'.heap.size := by have := hgrow.size; omega
  have hw' : v'.ownBlock = v0.ownBlock ∨ v'.ownBlock = some (w.alloc o).heap.size := by rw [hsz]; exact hw
  have hc : ∀ off, w'.cell? ⟨g, off, none⟩ = w.cell? ⟨g, off, none⟩ := fun off => by
    rw [World.cell?_of_block (hgrow.block g (by omega) (fun e => by have := (o0.lt g e.symm).1; omega))]
    exact World.cell?_alloc_lt w o ⟨g, off, none⟩ hgl
  have hfz : ∀ off, w'.frozen? ⟨g, off, none⟩ = w.frozen? ⟨g, off, none⟩ := fun off => by
    have e := hgrow.block g (by omega) (fun e => by have := (o0.lt g e.symm).1; omega)
    have e2 : (w.alloc o).heap[g]? = w.heap[g]? := Below.heap_alloc w o g hgl
    unfold World.frozen?
    simp only [e, e2]
  have hgs := Kit.grown_set w' g 0 v'
  have keep : ∀ {v : Value} {n : Nat} {ys : List Value}, w'.ownsRow (g + 1) 3 1 v n ys → (w'.setCell ⟨g, 0, none⟩ v').ownsRow (g + 1) 3 1 v n ys := fun k => own_grown k hgs (fun b hb => by injection hb with hb; omega)
  have hB' : Below w0.heap.size w0 w' := (hB.alloc hB.size o).grown hgrow (by have := hB.size; omega) (fun b hb => by have := (o0.lt b hb).1; omega)
  refine ⟨?_, fun off => ?_, ?_, ?_, ?_, (a01.symm.grew (o1.alloc o) hw').symm, (a02.symm.grew (o2.alloc o) hw').symm, a12, hB'.setCell (by exact hg) _, by simpa using hgw⟩
  · obtain ⟨b0, b1, b2⟩ := hb
    rw [← hc 0] at b0
    rw [← hc 1] at b1
    rw [← hc 2] at b2
    refine ⟨?_, ?_, ?_⟩
    · exact World.cell?_setCell_same' _ _ _ (by rw [b0]; rfl)
    · rw [World.cell?_setCell_other _ _ _ _ (fun e => by injection e with e1 e2; omega)]; exact b1
    · rw [World.cell?_setCell_other _ _ _ _ (fun e => by injection e with e1 e2; omega)]; exact b2
  · rw [World.frozen?_setCell, hfz]; exact hf off
  · exact keep hown
  · exact keep (World.ownsRow.kept (o1.alloc o) hgrow a01.symm)
  · exact keep (World.ownsRow.kept (o2.alloc o) hgrow a02.symm)
theorem Three.push1 {w0 w w' : World} {g : Nat} {n0 n1 n2 n' : Nat} {L0 L1 L2 L' : List Int} {v0 v1 v2 v' : Value} {o : Obj} (hg : w0.heap.size ≤ g) (h : ThreeAt w0 g n0 n1 n2 L0 L1 L2 v0 v1 v2 w)
    (hown : w'.ownsRow (g + 1) 3 1 v' n' (ints L')) (hgrow : (w.alloc o).grownBy w' v1.ownBlock) (hw : v'.ownBlock = v1.ownBlock ∨ v'.ownBlock = some (w.heap.size + 1)) :
    ThreeAt w0 g n0 n' n2 L0 L' L2 v0 v' v2 (w'.setCell ⟨g, 1, none⟩ v') := by
  obtain ⟨hb, hf, o0, o1, o2, a01, a02, a12, hB, hgl⟩ := h
  have hsz : (w.alloc o).heap.size = w.heap.size + 1 := by simp
  have hgw : g < w'.heap.size := by have := hgrow.size; omega
  have hw' : v'.ownBlock = v1.ownBlock ∨ v'.ownBlock = some (w.alloc o).heap.size := by rw [hsz]; exact hw
  have hc : ∀ off, w'.cell? ⟨g, off, none⟩ = w.cell? ⟨g, off, none⟩ := fun off => by
    rw [World.cell?_of_block (hgrow.block g (by omega) (fun e => by have := (o1.lt g e.symm).1; omega))]
    exact World.cell?_alloc_lt w o ⟨g, off, none⟩ hgl
  have hfz : ∀ off, w'.frozen? ⟨g, off, none⟩ = w.frozen? ⟨g, off, none⟩ := fun off => by
    have e := hgrow.block g (by omega) (fun e => by have := (o1.lt g e.symm).1; omega)
    have e2 : (w.alloc o).heap[g]? = w.heap[g]? := Below.heap_alloc w o g hgl
    unfold World.frozen?
    simp only [e, e2]
  have hgs := Kit.grown_set w' g 1 v'
  have keep : ∀ {v : Value} {n : Nat} {ys : List Value}, w'.ownsRow (g + 1) 3 1 v n ys → (w'.setCell ⟨g, 1, none⟩ v').ownsRow (g + 1) 3 1 v n ys := fun k => own_grown k hgs (fun b hb => by injection hb with hb; omega)
  have hB' : Below w0.heap.size w0 w' := (hB.alloc hB.size o).grown hgrow (by have := hB.size; omega) (fun b hb => by have := (o1.lt b hb).1; omega)
  refine ⟨?_, fun off => ?_, ?_, ?_, ?_, a01.grew (o0.alloc o) hw', a02, (a12.symm.grew (o2.alloc o) hw').symm, hB'.setCell (by exact hg) _, by simpa using hgw⟩
  · obtain ⟨b0, b1, b2⟩ := hb
    rw [← hc 0] at b0
    rw [← hc 1] at b1
    rw [← hc 2] at b2
    refine ⟨?_, ?_, ?_⟩
    · rw [World.cell?_setCell_other _ _ _ _ (fun e => by injection e with e1 e2; omega)]; exact b0
    · exact World.cell?_setCell_same' _ _ _ (by rw [b1]; rfl)
    · rw [World.cell?_setCell_other _ _ _ _ (fun e => by injection e with e1 e2; omega)]; exact b2
  · rw [World.frozen?_setCell, hfz]; exact hf off
  · exact keep (World.ownsRow.kept (o0.alloc o) hgrow a01)
  · exact keep hown
  · exact keep (World.ownsRow.kept (o2.alloc o) hgrow a12.symm)
theorem Three.push2 {w0 w w' : World} {g : Nat} {n0 n1 n2 n' : Nat} {L0 L1 L2 L' : List Int} {v0 v1 v2 v' : Value} {o : Obj} (hg : w0.heap.size ≤ g) (h : ThreeAt w0 g n0 n1 n2 L0 L1 L2 v0 v1 v2 w)
    (hown : w'.ownsRow (g + 1) 3 1 v' n' (ints L')) (hgrow : (w.alloc o).grownBy w' v2.ownBlock) (hw : v'.ownBlock = v2.ownBlock ∨ v'.ownBlock = some (w.heap.size + 1)) :
    ThreeAt w0 g n0 n1 n' L0 L1 L' v0 v1 v' (w'.setCell ⟨g, 2, none⟩ v') := by
  obtain ⟨hb, hf, o0, o1, o2, a01, a02, a12, hB, hgl⟩ := h
  have hsz : (w.alloc o).heap.size = w.heap.size + 1 := by simp
  have hgw : g < w'.heap.size := by have := hgrow.size; omega
  have hw' : v'.ownBlock = v2.ownBlock ∨ v'.ownBlock = some (w.alloc o).heap.size := by rw [hsz]; exact hw
  have hc : ∀ off, w'.cell? ⟨g, off, none⟩ = w.cell? ⟨g, off, none⟩ := fun off => by
    rw [World.cell?_of_block (hgrow.block g (by omega) (fun e => by have := (o2.lt g e.symm).1; omega))]
    exact World.cell?_alloc_lt w o ⟨g, off, none⟩ hgl
  have hfz : ∀ off, w'.frozen? ⟨g, off, none⟩ = w.frozen? ⟨g, off, none⟩ := fun off => by
    have e := hgrow.block g (by omega) (fun e => by have := (o2.lt g e.symm).1; omega)
    have e2 : (w.alloc o).heap[g]? = w.heap[g]? := Below.heap_alloc w o g hgl
    unfold World.frozen?
    simp only [e, e2]
  have hgs := Kit.grown_set w' g 2 v'
  have keep : ∀ {v : Value} {n : Nat} {ys : List Value}, w'.ownsRow (g + 1) 3 1 v n ys → (w'.setCell ⟨g, 2, none⟩ v').ownsRow (g + 1) 3 1 v n ys := fun k => own_grown k hgs (fun b hb => by injection hb with hb; omega)
  have hB' : Below w0.heap.size w0 w' := (hB.alloc hB.size o).grown hgrow (by have := hB.size; omega) (fun b hb => by have := (o2.lt b hb).1; omega)
  refine ⟨?_, fun off => ?_, ?_, ?_, ?_, a01, a02.grew (o0.alloc o) hw', a12.grew (o1.alloc o) hw', hB'.setCell (by exact hg) _, by simpa using hgw⟩
  · obtain ⟨b0, b1, b2⟩ := hb
    rw [← hc 0] at b0
    rw [← hc 1] at b1
    rw [← hc 2] at b2
    refine ⟨?_, ?_, ?_⟩
    · rw [World.cell?_setCell_other _ _ _ _ (fun e => by injection e with e1 e2; omega)]; exact b0
    · rw [World.cell?_setCell_other _ _ _ _ (fun e => by injection e with e1 e2; omega)]; exact b1
    · exact World.cell?_setCell_same' _ _ _ (by rw [b2]; rfl)
  · rw [World.frozen?_setCell, hfz]; exact hf off
  · exact keep (World.ownsRow.kept (o0.alloc o) hgrow a02)
  · exact keep (World.ownsRow.kept (o1.alloc o) hgrow a12)
  · exact keep hown
theorem Three.mid0 {w0 w w' : World} {g : Nat} {n0 n1 n2 : Nat} {L0 L1 L2 : List Int} {v0 v1 v2 : Value} {o : Obj} (h : ThreeAt w0 g n0 n1 n2 L0 L1 L2 v0 v1 v2 w) (hgrow : (w.alloc o).grownBy w' v0.ownBlock) :
    (∀ off, w'.cell? ⟨g, off, none⟩ = w.cell? ⟨g, off, none⟩) ∧ ∀ off, w'.frozen? ⟨g, off, none⟩ = false := by
  obtain ⟨hb, hf, o0, o1, o2, a01, a02, a12, hB, hgl⟩ := h
  have hsz : (w.alloc o).heap.size = w.heap.size + 1 := by simp
  have e := hgrow.block g (by omega) (fun e => by have := (o0.lt g e.symm).1; omega)
  refine ⟨fun off => ?_, fun off => ?_⟩
  · rw [World.cell?_of_block e]
    exact World.cell?_alloc_lt w o ⟨g, off, none⟩ hgl
  · have e2 : (w.alloc o).heap[g]? = w.heap[g]? := Below.heap_alloc w o g hgl
    have := hf off
    unfold World.frozen? at this ⊢
    simp only [e, e2]
    exact this
theorem Three.mid1 {w0 w w' : World} {g : Nat} {n0 n1 n2 : Nat} {L0 L1 L2 : List Int} {v0 v1 v2 : Value} {o : Obj} (h : ThreeAt w0 g n0 n1 n2 L0 L1 L2 v0 v1 v2 w) (hgrow : (w.alloc o).grownBy w' v1.ownBlock) :
    (∀ off, w'.cell? ⟨g, off, none⟩ = w.cell? ⟨g, off, none⟩) ∧ ∀ off, w'.frozen? ⟨g, off, none⟩ = false := by
  obtain ⟨hb, hf, o0, o1, o2, a01, a02, a12, hB, hgl⟩ := h
  have hsz : (w.alloc o).heap.size = w.heap.size + 1 := by simp
  have e := hgrow.block g (by omega) (fun e => by have := (o1.lt g e.symm).1; omega)
  refine ⟨fun off => ?_, fun off => ?_⟩
  · rw [World.cell?_of_block e]
    exact World.cell?_alloc_lt w o ⟨g, off, none⟩ hgl
  · have e2 : (w.alloc o).heap[g]? = w.heap[g]? := Below.heap_alloc w o g hgl
    have := hf off
    unfold World.frozen? at this ⊢
    simp only [e, e2]
    exact this
theorem Three.mid2 {w0 w w' : World} {g : Nat} {n0 n1 n2 : Nat} {L0 L1 L2 : List Int} {v0 v1 v2 : Value} {o : Obj} (h : ThreeAt w0 g n0 n1 n2 L0 L1 L2 v0 v1 v2 w) (hgrow : (w.alloc o).grownBy w' v2.ownBlock) :
    (∀ off, w'.cell? ⟨g, off, none⟩ = w.cell? ⟨g, off, none⟩) ∧ ∀ off, w'.frozen? ⟨g, off, none⟩ = false := by
  obtain ⟨hb, hf, o0, o1, o2, a01, a02, a12, hB, hgl⟩ := h
  have hsz : (w.alloc o).heap.size = w.heap.size + 1 := by simp
  have e := hgrow.block g (by omega) (fun e => by have := (o2.lt g e.symm).1; omega)
  refine ⟨fun off => ?_, fun off => ?_⟩
  · rw [World.cell?_of_block e]
    exact World.cell?_alloc_lt w o ⟨g, off, none⟩ hgl
  · have e2 : (w.alloc o).heap[g]? = w.heap[g]? := Below.heap_alloc w o g hgl
    have := hf off
    unfold World.frozen? at this ⊢
    simp only [e, e2]
    exact this
/-- the struct as it is made: three empty rows -/
theorem Three.new (w0 : World) (e : TypeId) : ThreeAt w0 w0.heap.size 0 0 0 [] [] [] (.slice none 0 0) (.slice none 0 0) (.slice none 0 0) (w0.alloc (.cells #[.slice none 0 0, .slice none 0 0, .slice none 0 0] e)) :=
  ⟨Box3.made _ _ _ _ _, Box3.free _ _ _ _ _, own_nil, own_nil, own_nil, .inl rfl, .inl rfl, .inl rfl, (Below.refl _ _).alloc (Nat.le_refl _) _, by simp⟩
/-- its three rows, as they lie behind a store of it into another struct -/
theorem Three.out {w0 w : World} {g n0 n1 n2 s : Nat} {L0 L1 L2 : List Int} {v0 v1 v2 u0 u1 u2 : Value} (h : ThreeAt w0 g n0 n1 n2 L0 L1 L2 v0 v1 v2 w) (hs : s ≤ g) {base : Nat} (hb : base ≤ g) :
    let W := ((w.setCell ⟨s, 0, none⟩ u0).setCell ⟨s, 1, none⟩ u1).setCell ⟨s, 2, none⟩ u2
    W.ownsRow base 3 1 v0 n0 (ints L0) ∧ W.ownsRow base 3 1 v1 n1 (ints L1) ∧ W.ownsRow base 3 1 v2 n2 (ints L2) ∧ Apart v0 v1 ∧ Apart v0 v2 ∧ Apart v1 v2 := by
  obtain ⟨hx, hf, o0, o1, o2, a01, a02, a12, hB, hgl⟩ := h
  have keep : ∀ (v : Value) (n : Nat) (ys : List Value), w.ownsRow (g + 1) 3 1 v n ys → (((w.setCell ⟨s, 0, none⟩ u0).setCell ⟨s, 1, none⟩ u1).setCell ⟨s, 2, none⟩ u2).ownsRow base 3 1 v n ys := fun _ _ _ k =>
    own_base (own_grown (own_grown (own_grown k (Kit.grown_set _ _ _ _) (fun b hb => by injection hb with hb; omega)) (Kit.grown_set _ _ _ _) (fun b hb => by injection hb with hb; omega)) (Kit.grown_set _ _ _ _) (fun b hb => by injection hb with hb; omega)) (by omega)
  exact ⟨keep _ _ _ o0, keep _ _ _ o1, keep _ _ _ o2, a01, a02, a12⟩

end Go.Proofs.YtpdpkcadolcbmaaDoor

/- Contracts (UnitS). -/
namespace Go.Proofs.YtpdpkcadolcbmaaDoor
open Go.RowKit
set_option linter.unusedVariables false

def Co.urel (j : Nat) : List Int := (List.range j).map fun p => if p / 6 = p % 6 then 0 else 1
def Co.unit : Co := ⟨List.replicate 6 1, List.replicate 6 1, Co.urel 36⟩
theorem Co.urel_succ (j : Nat) : Co.urel (j + 1) = Co.urel j ++ [if j / 6 = j % 6 then 0 else 1] := by simp [Co.urel, List.range_succ]
theorem Co.urel_length (j : Nat) : (Co.urel j).length = j := by simp [Co.urel]
/-- the answer is a cost of the call's own: three rows apart -/
def OwnCo (k : Co) (w : World) (e : Ending) (w' : World) : Prop :=
  ∃ A0 A1 A2 c0 c1 c2, e = .returned (.agg #[.slice A0 k.d.length c0, .slice A1 k.i.length c1, .slice A2 k.r.length c2]) ∧
    w'.ownsRow w.heap.size 3 1 (.slice A0 k.d.length c0) k.d.length (ints k.d) ∧ w'.ownsRow w.heap.size 3 1 (.slice A1 k.i.length c1) k.i.length (ints k.i) ∧ w'.ownsRow w.heap.size 3 1 (.slice A2 k.r.length c2) k.r.length (ints k.r) ∧
    Apart (.slice A0 k.d.length c0) (.slice A1 k.i.length c1) ∧ Apart (.slice A0 k.d.length c0) (.slice A2 k.r.length c2) ∧ Apart (.slice A1 k.i.length c1) (.slice A2 k.r.length c2) ∧ Below w.heap.size w w'
theorem results_cell1 {fn : Func} {p : Tmp} {ty : TypeId} (h : fn.results = #[.cell p ty]) (tmps : Array Value) (P : Program) (w : World) :
    (results fn tmps).run P w = ((asAddr (tmps.getD p undef)).run P w).andThen fun a w₁ => (loadVar ty a).run P w₁ := by
  simp only [results, h]
  simp [Sem.run_bind]
theorem info_intU : (Tryd.prog.info? 3).map (fun i => (i.zero, i.size, i.bytes)) = some (some (.int .i64 0), 1, 8) := by kernel_rfl
set_option maxHeartbeats 1600000 in
set_option maxRecDepth 100000 in
theorem specUnitCost_any (w : World) : Calls Tryd.prog 55 #[] w (OwnCo Co.unit w) := by
  obtain ⟨i0, hi, hz0, hz1, hz2⟩ := info_parts info_intU
  have Hi := Lib.hid hi
  clear hi
  obtain ⟨g, hg⟩ : ∃ g, g = w.heap.size + 1 := ⟨_, rfl⟩
  obtain ⟨wz, hwz⟩ : ∃ wz, wz = w.alloc (.cells #[.slice none 0 0, .slice none 0 0, .slice none 0 0] 35) := ⟨_, rfl⟩
  have hzs : wz.heap.size = g := by rw [hwz, hg]; simp
  have HBZ := Lib.hid (show Below w.heap.size w wz by rw [hwz]; exact (Below.refl w.heap.size w).alloc (Nat.le_refl _) _)
  have HZ := Lib.hid (show Box3 wz w.heap.size (.slice none 0 0) (.slice none 0 0) (.slice none 0 0) ∧ ∀ off, wz.frozen? ⟨w.heap.size, off, none⟩ = false by rw [hwz]; exact ⟨Box3.made _ _ _ _ _, fun off => by simp⟩)
  have HT := Lib.hid (show ThreeAt wz g 0 0 0 [] [] [] (.slice none 0 0) (.slice none 0 0) (.slice none 0 0) (wz.alloc (.cells #[.slice none 0 0, .slice none 0 0, .slice none 0 0] 35)) from
    ⟨by rw [← hzs]; exact Box3.made _ _ _ _ _, fun off => by rw [← hzs]; simp, own_nil, own_nil, own_nil, .inl rfl, .inl rfl, .inl rfl, (Below.refl _ _).alloc (Nat.le_refl _) _, by simp [hzs]⟩)
  go_enter Tryd.func55, Tryd.ntmps55
  go_wp2
  rw [← hwz, ← hg]
  have HWZ := Lib.hid hwz
  have HGG := Lib.hid hg
  have hgz : wz.heap.size ≤ g := by omega
  have HZS := Lib.hid hzs
  have hgw : w.heap.size < g := by omega
  clear hwz hg hzs
  go_loopw [2] (fun iv wr => ∃ i : Nat, i ≤ 6 ∧ iv = .int .i64 i ∧ ∃ v0 v1 v2, ThreeAt wz g i i (6 * i) (List.replicate i 1) (List.replicate i 1) (Co.urel (6 * i)) v0 v1 v2 wr) (fun i _ => 6 - (intOf i).toNat)
  case atStart => exact ⟨0, Nat.zero_le _, rfl, _, _, _, HT.out⟩
  case round =>
    clear HT
    obtain ⟨i, hi6, rfl, v0, v1, v2, hT⟩ := hrel
    have HT := Lib.hid hT
    clear hT
    by_cases hlt : i < 6
    · have k0 : decide ((i : Int) < 6) = true := by simp; omega
      have hgs := HT.out.2.2.2.2.2.2.2.2.2
      have b0 := HT.out.1.1
      go_wp2_with (first | (at_builtin; refine append_int_at wr rfl _ _ 33 rfl (g + 1) 3 i0 Tryd.underlying33 Hi.out hz0 hz1 hz2 v0 i (List.replicate i 1) rfl HT.out.2.2.1 (by first | (simp; done) | exact (Co.urel_length _).symm) (1) (by first | rfl | (rw [World.size_setCell]; rfl)) (by first | (simp; omega) | (rw [Co.urel_length]; omega)) (by omega) ?_; intro v' w2 hown hgrow hwh; rw [← List.replicate_succ', List.length_replicate] at hown; obtain ⟨Aw2, cw2, rfl⟩ := own_slice hown; have mw2 := Three.mid0 HT.out hgrow; have qw2 := (mw2.1 0).trans HT.out.1.1; have ew2 := mw2.2 0; have HT2 := Lib.hid (Three.push0 hgz HT.out hown hgrow hwh); have b1 := (mw2.1 1).trans HT.out.1.2.1; have hgs := HT2.out.2.2.2.2.2.2.2.2.2; clear hown hgrow hwh mw2) | (at_builtin; refine append_int_at (World.setCell w2 ⟨g, 0, none⟩ (.slice Aw2 (i + 1) cw2)) rfl _ _ 33 rfl (g + 1) 3 i0 Tryd.underlying33 Hi.out hz0 hz1 hz2 v1 i (List.replicate i 1) rfl HT2.out.2.2.2.1 (by first | (simp; done) | exact (Co.urel_length _).symm) (1) (by first | rfl | (rw [World.size_setCell]; rfl)) (by first | (simp; omega) | (rw [Co.urel_length]; omega)) (by omega) ?_; intro v' w3 hown hgrow hwh; rw [← List.replicate_succ', List.length_replicate] at hown; obtain ⟨Aw3, cw3, rfl⟩ := own_slice hown; have mw3 := Three.mid1 HT2.out hgrow; have qw3 := (mw3.1 1).trans HT2.out.1.2.1; have ew3 := mw3.2 1; have HT3 := Lib.hid (Three.push1 hgz HT2.out hown hgrow hwh); have hgs := HT3.out.2.2.2.2.2.2.2.2.2; clear hown hgrow hwh mw3))
      clear HT HT2 b0 b1 qw2 ew2 qw3 ew3 hgs
      obtain ⟨wq, hwq⟩ : ∃ wq, wq = World.setCell w3 ⟨g, 1, none⟩ (.slice Aw3 (i + 1) cw3) := ⟨_, rfl⟩
      rw [← hwq] at HT3
      rw [← hwq]
      clear hwq
      go_loopw [3] (fun jv wr => ∃ j : Nat, j ≤ 6 ∧ jv = .int .i64 j ∧ ∃ v0 v1 v2, ThreeAt wz g (i + 1) (i + 1) (6 * i + j) (List.replicate (i + 1) 1) (List.replicate (i + 1) 1) (Co.urel (6 * i + j)) v0 v1 v2 wr) (fun j _ => 6 - (intOf j).toNat)
      case atStart => exact ⟨0, Nat.zero_le _, rfl, _, _, _, HT3.out⟩
      case round =>
        clear HT3
        obtain ⟨j, hj6, rfl, p0, p1, p2, hT⟩ := hrel
        have HT := Lib.hid hT
        clear hT
        by_cases hjl : j < 6
        · have k1 : decide ((j : Int) < 6) = true := by simp; omega
          have hgs := HT.out.2.2.2.2.2.2.2.2.2
          have b2 := HT.out.1.2.2
          have hm : (6 * i + j) / 6 = i := by omega
          have hr : (6 * i + j) % 6 = j := by omega
          have hur := Co.urel_succ (6 * i + j)
          rw [hm, hr] at hur
          clear hm hr
          obtain ⟨q, hq⟩ : ∃ q, q = 6 * i + j := ⟨_, rfl⟩
          rw [← hq] at hur HT
          have hq36 : q + 1 ≤ 36 := by omega
          by_cases hij : i = j
          · have e1 : ((i : Int) == (j : Int)) = true := by simp [hij]
            have Hs := Lib.hid (show Co.urel q ++ [0] = Co.urel (q + 1) by rw [hur, if_pos hij])
            have HQ := Lib.hid hq
            clear hur hij hq
            go_wp2_with (at_builtin; refine append_int_at wr rfl _ _ 33 rfl (g + 1) 3 i0 Tryd.underlying33 Hi.out hz0 hz1 hz2 p2 q (Co.urel q) rfl HT.out.2.2.2.2.1 (by first | (simp; done) | exact (Co.urel_length _).symm) (0) (by first | rfl | (rw [World.size_setCell]; rfl)) (by first | (simp; omega) | (rw [Co.urel_length]; omega)) (by omega) ?_; intro v' w4 hown hgrow hwh; rw [Hs.out, Co.urel_length] at hown; obtain ⟨Aw4, cw4, rfl⟩ := own_slice hown; have mw4 := Three.mid2 HT.out hgrow; have qw4 := (mw4.1 2).trans HT.out.1.2.2; have ew4 := mw4.2 2; have HT4 := Lib.hid (Three.push2 hgz HT.out hown hgrow hwh); skip; clear hown hgrow hwh mw4)
            go_roundw
            case rel => exact ⟨j + 1, by omega, by go_num, _, _, _, by rw [show 6 * i + (j + 1) = q + 1 by rw [HQ.out]; omega]; exact HT4.out⟩
            case measure => simp [intOf]; omega
          · have e1 : ((i : Int) == (j : Int)) = false := by simp; omega
            have Hs := Lib.hid (show Co.urel q ++ [1] = Co.urel (q + 1) by rw [hur, if_neg hij])
            have HQ := Lib.hid hq
            clear hur hij hq
            go_wp2_with (at_builtin; refine append_int_at wr rfl _ _ 33 rfl (g + 1) 3 i0 Tryd.underlying33 Hi.out hz0 hz1 hz2 p2 q (Co.urel q) rfl HT.out.2.2.2.2.1 (by first | (simp; done) | exact (Co.urel_length _).symm) (1) (by first | rfl | (rw [World.size_setCell]; rfl)) (by first | (simp; omega) | (rw [Co.urel_length]; omega)) (by omega) ?_; intro v' w4 hown hgrow hwh; rw [Hs.out, Co.urel_length] at hown; obtain ⟨Aw4, cw4, rfl⟩ := own_slice hown; have mw4 := Three.mid2 HT.out hgrow; have qw4 := (mw4.1 2).trans HT.out.1.2.2; have ew4 := mw4.2 2; have HT4 := Lib.hid (Three.push2 hgz HT.out hown hgrow hwh); skip; clear hown hgrow hwh mw4)
            go_roundw
            case rel => exact ⟨j + 1, by omega, by go_num, _, _, _, by rw [show 6 * i + (j + 1) = q + 1 by rw [HQ.out]; omega]; exact HT4.out⟩
            case measure => simp [intOf]; omega
        · obtain rfl : j = 6 := by omega
          have k1 : decide (((6 : Nat) : Int) < 6) = false := rfl
          go_wp2
          go_roundw
          case rel => exact ⟨i + 1, by omega, by go_num, p0, p1, p2, by rw [show 6 * (i + 1) = 6 * i + 6 by omega]; exact HT.out⟩
          case measure => simp [intOf]; omega
    · obtain rfl : i = 6 := by omega
      obtain ⟨hb, hf, o0, o1, o2, a01, a02, a12, hB, hgl⟩ := HT.out
      obtain ⟨A0, c0, rfl⟩ := own_slice o0
      obtain ⟨A1, c1, rfl⟩ := own_slice o1
      obtain ⟨A2, c2, rfl⟩ := own_slice o2
      obtain ⟨b0, b1, b2⟩ := hb
      obtain ⟨z0, z1, z2⟩ := HZ.out.1.below hB (by rw [HZS.out]; exact hgw)
      have zf : ∀ off, wr.frozen? ⟨w.heap.size, off, none⟩ = false := fun off => by
        have e := hB.block w.heap.size (by rw [HZS.out]; exact hgw)
        have := HZ.out.2 off
        unfold World.frozen? at this ⊢
        simp only [e]
        exact this
      have f0 := zf 0
      have f1 := zf 1
      have f2 := zf 2
      have k1 : decide (((6 : Nat) : Int) < 6) = false := rfl
      have keep : ∀ (v : Value) (n : Nat) (ys : List Value) (u0 u1 u2 : Value), wr.ownsRow (g + 1) 3 1 v n ys → (((wr.setCell ⟨w.heap.size, 0, none⟩ u0).setCell ⟨w.heap.size, 1, none⟩ u1).setCell ⟨w.heap.size, 2, none⟩ u2).ownsRow w.heap.size 3 1 v n ys := fun _ _ _ _ _ _ k =>
        own_base (own_grown (own_grown (own_grown k (Kit.grown_set _ _ _ _) (fun b hb => by injection hb with hb; omega)) (Kit.grown_set _ _ _ _) (fun b hb => by injection hb with hb; omega)) (Kit.grown_set _ _ _ _) (fun b hb => by injection hb with hb; omega)) (by omega)
      have KP := Lib.hid keep
      have O0 := Lib.hid o0
      have O1 := Lib.hid o1
      have O2 := Lib.hid o2
      have HA := Lib.hid (And.intro a01 (And.intro a02 a12))
      have HBW := Lib.hid (HBZ.out.trans (hB.mono HBZ.out.size))
      clear zf hf o0 o1 o2 a01 a02 a12 hB keep hgl
      go_wp2
      (try simp only [Exit.inBlock, Exit.then])
      refine bodyPost_ret (v := .agg #[.slice A0 6 c0, .slice A1 6 c1, .slice A2 36 c2]) ?_ rfl ?_
      · rw [results_cell1 rfl]
        go_simp
      · have h2 : Co.unit.r.length = 36 := Co.urel_length 36
        refine ⟨A0, A1, A2, c0, c1, c2, by rw [h2]; rfl, KP.out _ _ _ _ _ _ O0.out, KP.out _ _ _ _ _ _ O1.out, by rw [h2]; exact KP.out _ _ _ _ _ _ O2.out, HA.out.1, by rw [h2]; exact HA.out.2.1, by rw [h2]; exact HA.out.2.2, ((HBW.out.setCell (Nat.le_refl _) _).setCell (Nat.le_refl _) _).setCell (Nat.le_refl _) _⟩

end Go.Proofs.YtpdpkcadolcbmaaDoor

/- Contracts (HarB). -/
namespace Go.Proofs.YtpdpkcadolcbmaaDoor
open Go.RowKit
set_option linter.unusedVariables false

/-- three rows of the call's own, apart -/
def OwnC (w : World) (base : Nat) (A0 A1 A2 : Option Addr) (c0 c1 c2 : Nat) (k : Co) : Prop :=
  w.ownsRow base 3 1 (.slice A0 k.d.length c0) k.d.length (ints k.d) ∧ w.ownsRow base 3 1 (.slice A1 k.i.length c1) k.i.length (ints k.i) ∧ w.ownsRow base 3 1 (.slice A2 k.r.length c2) k.r.length (ints k.r) ∧
  Apart (.slice A0 k.d.length c0) (.slice A1 k.i.length c1) ∧ Apart (.slice A0 k.d.length c0) (.slice A2 k.r.length c2) ∧ Apart (.slice A1 k.i.length c1) (.slice A2 k.r.length c2)
theorem OwnC.to_in {w : World} {base : Nat} {A0 A1 A2 : Option Addr} {c0 c1 c2 : Nat} {k : Co} (h : OwnC w base A0 A1 A2 c0 c1 c2 k) : CoIn w w.heap.size A0 A1 A2 k.d.length k.i.length k.r.length k := ⟨IntIn.of_own h.1, IntIn.of_own h.2.1, IntIn.of_own h.2.2.1⟩
theorem OwnC.below {w w' : World} {base : Nat} {A0 A1 A2 : Option Addr} {c0 c1 c2 : Nat} {k : Co} (h : OwnC w base A0 A1 A2 c0 c1 c2 k) (hb : Below w.heap.size w w') : OwnC w' base A0 A1 A2 c0 c1 c2 k :=
  ⟨own_below h.1 hb, own_below h.2.1 hb, own_below h.2.2.1 hb, h.2.2.2⟩
/-- the old blocks but those of three rows stand as they did -/
def Only3 (v0 v1 v2 : Value) (w w' : World) : Prop := ∀ i, i < w.heap.size → v0.ownBlock ≠ some i → v1.ownBlock ≠ some i → v2.ownBlock ≠ some i → w'.heap[i]? = w.heap[i]?
theorem OwnC.lt {w : World} {base : Nat} {A0 A1 A2 : Option Addr} {c0 c1 c2 : Nat} {k : Co} (h : OwnC w base A0 A1 A2 c0 c1 c2 k) {s : Nat} (hs : w.heap.size ≤ s) :
    (Value.slice A0 k.d.length c0).ownBlock ≠ some s ∧ (Value.slice A1 k.i.length c1).ownBlock ≠ some s ∧ (Value.slice A2 k.r.length c2).ownBlock ≠ some s :=
  ⟨fun e => by have := (h.1.lt s e).2; omega, fun e => by have := (h.2.1.lt s e).2; omega, fun e => by have := (h.2.2.1.lt s e).2; omega⟩
theorem Box3.only {w w' : World} {g : Nat} {u0 u1 u2 v0 v1 v2 : Value} (h : Box3 w g v0 v1 v2) (ho : Only3 u0 u1 u2 w w') (hl : g < w.heap.size) (hn : u0.ownBlock ≠ some g ∧ u1.ownBlock ≠ some g ∧ u2.ownBlock ≠ some g) : Box3 w' g v0 v1 v2 := by
  have e := ho g hl hn.1 hn.2.1 hn.2.2
  exact ⟨(World.cell?_of_block (a := ⟨g, 0, none⟩) e).trans h.1, (World.cell?_of_block (a := ⟨g, 1, none⟩) e).trans h.2.1, (World.cell?_of_block (a := ⟨g, 2, none⟩) e).trans h.2.2⟩
def Co.marks (k0 : Int) (k : Co) : Co := ⟨Zs.marks k0 k.d.length, Zs.marks (k0 + k.d.length) k.i.length, Zs.marks (k0 + k.d.length + k.i.length) k.r.length⟩
theorem Co.marks_d (k0 : Int) (k : Co) : (Co.marks k0 k).d.length = k.d.length := Zs.marks_length _ _
theorem Co.marks_i (k0 : Int) (k : Co) : (Co.marks k0 k).i.length = k.i.length := Zs.marks_length _ _
theorem Co.marks_r (k0 : Int) (k : Co) : (Co.marks k0 k).r.length = k.r.length := Zs.marks_length _ _
theorem Box3.grown {w w' : World} {g : Nat} {r : Option Nat} {v0 v1 v2 : Value} (h : Box3 w g v0 v1 v2) (hg : w.grownBy w' r) (hl : g < w.heap.size) (hr : ∀ b, r = some b → b ≠ g) : Box3 w' g v0 v1 v2 := by
  have e := hg.block g hl (fun e => hr g e.symm rfl)
  exact ⟨(World.cell?_of_block (a := ⟨g, 0, none⟩) e).trans h.1, (World.cell?_of_block (a := ⟨g, 1, none⟩) e).trans h.2.1, (World.cell?_of_block (a := ⟨g, 2, none⟩) e).trans h.2.2⟩

end Go.Proofs.YtpdpkcadolcbmaaDoor

/- Contracts (CoD). -/
namespace Go.Proofs.YtpdpkcadolcbmaaDoor
open Go.RowKit
set_option linter.unusedVariables false

/-- a variable of three rows in block g, the result's variable in block s, a cursor in block B -/
def CoD (w0 : World) (B s g : Nat) (k : Code) (h0 h1 h2 c0 c1 c2 : Nat) (L0 L1 L2 : List Int) (w : World) : Prop :=
  Box3 w s (.slice none 0 0) (.slice none 0 0) (.slice none 0 0) ∧ (∀ off, w.frozen? ⟨s, off, none⟩ = false) ∧ Box3 w g (.slice (some ⟨h0, 0, none⟩) 6 c0) (.slice (some ⟨h1, 0, none⟩) 6 c1) (.slice (some ⟨h2, 0, none⟩) 36 c2) ∧ (∀ off, w.frozen? ⟨g, off, none⟩ = false) ∧
  w.ownsRow w0.heap.size 3 1 (.slice (some ⟨h0, 0, none⟩) 6 c0) 6 (ints L0) ∧ w.ownsRow w0.heap.size 3 1 (.slice (some ⟨h1, 0, none⟩) 6 c1) 6 (ints L1) ∧ w.ownsRow w0.heap.size 3 1 (.slice (some ⟨h2, 0, none⟩) 36 c2) 36 (ints L2) ∧ (h0 ≠ h1 ∧ h0 ≠ h2 ∧ h1 ≠ h2) ∧
  CurX w B k ∧ w0.grownBy w (some B) ∧ (B < w0.heap.size ∧ w0.heap.size ≤ s ∧ w0.heap.size ≤ g ∧ s ≠ g ∧ s < w.heap.size ∧ g < w.heap.size) ∧ (∀ b, b = h0 ∨ b = h1 ∨ b = h2 → b ≠ s ∧ b ≠ g)
theorem free_kept {w w' : World} {g : Nat} {r : Option Nat} (hg : w.grownBy w' r) (hl : g < w.heap.size) (hr : ∀ b, r = some b → b ≠ g) (h : ∀ off, w.frozen? ⟨g, off, none⟩ = false) (off : Nat) : w'.frozen? ⟨g, off, none⟩ = false := by
  have e := hg.block g hl (fun e => hr g e.symm rfl)
  have := h off
  unfold World.frozen? at this ⊢
  simp only [e]
  exact this
/-- the cursor has moved -/
theorem CoD.cur {w0 w : World} {B s g : Nat} {k : Code} {h0 h1 h2 c0 c1 c2 : Nat} {L0 L1 L2 : List Int} {w' : World} (h : CoD w0 B s g k h0 h1 h2 c0 c1 c2 L0 L1 L2 w) (hg : w.grownBy w' (some B)) (hc' : CurX w' B k) : CoD w0 B s g k h0 h1 h2 c0 c1 c2 L0 L1 L2 w' := by
  obtain ⟨hx, hf, hy, hfy, o0, o1, o2, hh, hc, hG, ⟨hB, hs0, hg0, hsg, hsl, hgl⟩, hn⟩ := h
  have l0 := o0.lt h0 rfl
  have l1 := o1.lt h1 rfl
  have l2 := o2.lt h2 rfl
  exact ⟨hx.grown hg hsl (fun b e => by injection e with e; omega), free_kept hg hsl (fun b e => by injection e with e; omega) hf, hy.grown hg hgl (fun b e => by injection e with e; omega), free_kept hg hgl (fun b e => by injection e with e; omega) hfy,
    Kit.keptRow o0 hB hg, Kit.keptRow o1 hB hg, Kit.keptRow o2 hB hg, hh, hc', Kit.grown_trans hG hg, ⟨hB, hs0, hg0, hsg, Nat.lt_of_lt_of_le hsl hg.size, Nat.lt_of_lt_of_le hgl hg.size⟩, hn⟩
theorem CoD.cursor {w0 w : World} {B s g : Nat} {k : Code} {h0 h1 h2 c0 c1 c2 : Nat} {L0 L1 L2 : List Int} (h : CoD w0 B s g k h0 h1 h2 c0 c1 c2 L0 L1 L2 w) : CurX w B k := h.2.2.2.2.2.2.2.2.1
theorem CoD.drew {w0 w : World} {B s g : Nat} {k : Code} {h0 h1 h2 c0 c1 c2 : Nat} {L0 L1 L2 : List Int} (h : CoD w0 B s g k h0 h1 h2 c0 c1 c2 L0 L1 L2 w) : CoD w0 B s g k h0 h1 h2 c0 c1 c2 L0 L1 L2 w.drew := h.cur (Kit.grown_drewN w 1 _) h.cursor
theorem CoD.alloc {w0 w : World} {B s g : Nat} {k : Code} {h0 h1 h2 c0 c1 c2 : Nat} {L0 L1 L2 : List Int} (h : CoD w0 B s g k h0 h1 h2 c0 c1 c2 L0 L1 L2 w) (o : Obj) : CoD w0 B s g k h0 h1 h2 c0 c1 c2 L0 L1 L2 (w.alloc o) := h.cur (Kit.grown_alloc w o _) (h.cursor.alloc o)
/-- the variable's three cells -/
theorem CoD.held {w0 w : World} {B s g : Nat} {k : Code} {h0 h1 h2 c0 c1 c2 : Nat} {L0 L1 L2 : List Int} (h : CoD w0 B s g k h0 h1 h2 c0 c1 c2 L0 L1 L2 w) : w.cell? ⟨g, 0, none⟩ = some (.slice (some ⟨h0, 0, none⟩) 6 c0) ∧ w.cell? ⟨g, 1, none⟩ = some (.slice (some ⟨h1, 0, none⟩) 6 c1) ∧ w.cell? ⟨g, 2, none⟩ = some (.slice (some ⟨h2, 0, none⟩) 36 c2) := h.2.2.1
theorem CoD.len {w0 w : World} {B s g : Nat} {k : Code} {h0 h1 h2 c0 c1 c2 : Nat} {L0 L1 L2 : List Int} (h : CoD w0 B s g k h0 h1 h2 c0 c1 c2 L0 L1 L2 w) : L0.length = 6 ∧ L1.length = 6 ∧ L2.length = 36 := by
  obtain ⟨hx, hf, hy, hfy, o0, o1, o2, h⟩ := h
  exact ⟨by have := o0.1; rwa [ints_length] at this, by have := o1.1; rwa [ints_length] at this, by have := o2.1; rwa [ints_length] at this⟩
theorem CoD.cell0 {w0 w : World} {B s g : Nat} {k : Code} {h0 h1 h2 c0 c1 c2 : Nat} {L0 L1 L2 : List Int} (h : CoD w0 B s g k h0 h1 h2 c0 c1 c2 L0 L1 L2 w) {j : Nat} (hj : j < 6) : w.cell? ⟨h0, j, none⟩ = some (.int .i64 (Zs.at L0 j)) ∧ w.frozen? ⟨h0, j, none⟩ = false := ⟨own_int h.2.2.2.2.1 (by rw [h.len.1]; exact hj), h.2.2.2.2.1.frozenAt j⟩
theorem CoD.cell1 {w0 w : World} {B s g : Nat} {k : Code} {h0 h1 h2 c0 c1 c2 : Nat} {L0 L1 L2 : List Int} (h : CoD w0 B s g k h0 h1 h2 c0 c1 c2 L0 L1 L2 w) {j : Nat} (hj : j < 6) : w.cell? ⟨h1, j, none⟩ = some (.int .i64 (Zs.at L1 j)) ∧ w.frozen? ⟨h1, j, none⟩ = false := ⟨own_int h.2.2.2.2.2.1 (by rw [h.len.2.1]; exact hj), h.2.2.2.2.2.1.frozenAt j⟩
theorem CoD.cell2 {w0 w : World} {B s g : Nat} {k : Code} {h0 h1 h2 c0 c1 c2 : Nat} {L0 L1 L2 : List Int} (h : CoD w0 B s g k h0 h1 h2 c0 c1 c2 L0 L1 L2 w) {j : Nat} (hj : j < 36) : w.cell? ⟨h2, j, none⟩ = some (.int .i64 (Zs.at L2 j)) ∧ w.frozen? ⟨h2, j, none⟩ = false := ⟨own_int h.2.2.2.2.2.2.1 (by rw [h.len.2.2]; exact hj), h.2.2.2.2.2.2.1.frozenAt j⟩
theorem CoD.put0 {w0 w : World} {B s g : Nat} {k : Code} {h0 h1 h2 c0 c1 c2 : Nat} {L0 L1 L2 : List Int} (h : CoD w0 B s g k h0 h1 h2 c0 c1 c2 L0 L1 L2 w) (p : Nat) (z : Int) : CoD w0 B s g k h0 h1 h2 c0 c1 c2 (L0.set p z) L1 L2 (w.setCell ⟨h0, p, none⟩ (.int .i64 z)) := by
  obtain ⟨hx, hf, hy, hfy, o0, o1, o2, ⟨n01, n02, n12⟩, hc, hG, ⟨hB, hs0, hg0, hsg, hsl, hgl⟩, hn⟩ := h
  have hs := o0.stored p (.int .i64 z)
  have hl := (o0.lt h0 rfl)
  have e1 : h0 ≠ s ∧ h0 ≠ g := hn h0 (by simp)
  refine ⟨hx.grown hs.2 hsl (fun b e => by injection e with e; omega), free_kept hs.2 hsl (fun b e => by injection e with e; omega) hf, hy.grown hs.2 hgl (fun b e => by injection e with e; omega), free_kept hs.2 hgl (fun b e => by injection e with e; omega) hfy, ?_, ?_, ?_, ⟨n01, n02, n12⟩, hc.kept hs.2 (fun b e => by injection e with e; omega), hG.andThen hs.2 (fun j hj => .inl (by injection hj with hj; omega)), ⟨hB, hs0, hg0, hsg, Nat.lt_of_lt_of_le hsl hs.2.size, Nat.lt_of_lt_of_le hgl hs.2.size⟩, hn⟩
  · exact (by have := hs.1; rw [ints_set] at this; exact this)
  · exact World.ownsRow.kept o1 hs.2 (.inr (by simp [Value.ownBlock]; omega))
  · exact World.ownsRow.kept o2 hs.2 (.inr (by simp [Value.ownBlock]; omega))
theorem CoD.put1 {w0 w : World} {B s g : Nat} {k : Code} {h0 h1 h2 c0 c1 c2 : Nat} {L0 L1 L2 : List Int} (h : CoD w0 B s g k h0 h1 h2 c0 c1 c2 L0 L1 L2 w) (p : Nat) (z : Int) : CoD w0 B s g k h0 h1 h2 c0 c1 c2 L0 (L1.set p z) L2 (w.setCell ⟨h1, p, none⟩ (.int .i64 z)) := by
  obtain ⟨hx, hf, hy, hfy, o0, o1, o2, ⟨n01, n02, n12⟩, hc, hG, ⟨hB, hs0, hg0, hsg, hsl, hgl⟩, hn⟩ := h
  have hs := o1.stored p (.int .i64 z)
  have hl := (o1.lt h1 rfl)
  have e1 : h1 ≠ s ∧ h1 ≠ g := hn h1 (by simp)
  refine ⟨hx.grown hs.2 hsl (fun b e => by injection e with e; omega), free_kept hs.2 hsl (fun b e => by injection e with e; omega) hf, hy.grown hs.2 hgl (fun b e => by injection e with e; omega), free_kept hs.2 hgl (fun b e => by injection e with e; omega) hfy, ?_, ?_, ?_, ⟨n01, n02, n12⟩, hc.kept hs.2 (fun b e => by injection e with e; omega), hG.andThen hs.2 (fun j hj => .inl (by injection hj with hj; omega)), ⟨hB, hs0, hg0, hsg, Nat.lt_of_lt_of_le hsl hs.2.size, Nat.lt_of_lt_of_le hgl hs.2.size⟩, hn⟩
  · exact World.ownsRow.kept o0 hs.2 (.inr (by simp [Value.ownBlock]; omega))
  · exact (by have := hs.1; rw [ints_set] at this; exact this)
  · exact World.ownsRow.kept o2 hs.2 (.inr (by simp [Value.ownBlock]; omega))
theorem CoD.put2 {w0 w : World} {B s g : Nat} {k : Code} {h0 h1 h2 c0 c1 c2 : Nat} {L0 L1 L2 : List Int} (h : CoD w0 B s g k h0 h1 h2 c0 c1 c2 L0 L1 L2 w) (p : Nat) (z : Int) : CoD w0 B s g k h0 h1 h2 c0 c1 c2 L0 L1 (L2.set p z) (w.setCell ⟨h2, p, none⟩ (.int .i64 z)) := by
  obtain ⟨hx, hf, hy, hfy, o0, o1, o2, ⟨n01, n02, n12⟩, hc, hG, ⟨hB, hs0, hg0, hsg, hsl, hgl⟩, hn⟩ := h
  have hs := o2.stored p (.int .i64 z)
  have hl := (o2.lt h2 rfl)
  have e1 : h2 ≠ s ∧ h2 ≠ g := hn h2 (by simp)
  refine ⟨hx.grown hs.2 hsl (fun b e => by injection e with e; omega), free_kept hs.2 hsl (fun b e => by injection e with e; omega) hf, hy.grown hs.2 hgl (fun b e => by injection e with e; omega), free_kept hs.2 hgl (fun b e => by injection e with e; omega) hfy, ?_, ?_, ?_, ⟨n01, n02, n12⟩, hc.kept hs.2 (fun b e => by injection e with e; omega), hG.andThen hs.2 (fun j hj => .inl (by injection hj with hj; omega)), ⟨hB, hs0, hg0, hsg, Nat.lt_of_lt_of_le hsl hs.2.size, Nat.lt_of_lt_of_le hgl hs.2.size⟩, hn⟩
  · exact World.ownsRow.kept o0 hs.2 (.inr (by simp [Value.ownBlock]; omega))
  · exact World.ownsRow.kept o1 hs.2 (.inr (by simp [Value.ownBlock]; omega))
  · exact (by have := hs.1; rw [ints_set] at this; exact this)
/-- a cost of the call's own, drawn -/
def CostD (w : World) (B : Nat) (k : Code) (e : Ending) (w' : World) : Prop :=
  ∃ h0 h1 h2 c0 c1 c2 L0 L1 L2, e = .returned (.agg #[.slice (some ⟨h0, 0, none⟩) 6 c0, .slice (some ⟨h1, 0, none⟩) 6 c1, .slice (some ⟨h2, 0, none⟩) 36 c2]) ∧ w'.ownsRow w.heap.size 3 1 (.slice (some ⟨h0, 0, none⟩) 6 c0) 6 (ints L0) ∧ w'.ownsRow w.heap.size 3 1 (.slice (some ⟨h1, 0, none⟩) 6 c1) 6 (ints L1) ∧ w'.ownsRow w.heap.size 3 1 (.slice (some ⟨h2, 0, none⟩) 36 c2) 36 (ints L2) ∧ (h0 ≠ h1 ∧ h0 ≠ h2 ∧ h1 ≠ h2) ∧ CurX w' B k ∧ w.grownBy w' (some B)
theorem CoD.done {w0 w : World} {B s g : Nat} {k : Code} {h0 h1 h2 c0 c1 c2 : Nat} {L0 L1 L2 : List Int} (h : CoD w0 B s g k h0 h1 h2 c0 c1 c2 L0 L1 L2 w) (u0 u1 u2 : Value) : CostD w0 B k (.returned (.agg #[.slice (some ⟨h0, 0, none⟩) 6 c0, .slice (some ⟨h1, 0, none⟩) 6 c1, .slice (some ⟨h2, 0, none⟩) 36 c2])) (((w.setCell ⟨s, 0, none⟩ u0).setCell ⟨s, 1, none⟩ u1).setCell ⟨s, 2, none⟩ u2) := by
  obtain ⟨hx, hf, hy, hfy, o0, o1, o2, hh, hc, hG, ⟨hB, hs0, hg0, hsg, hsl, hgl⟩, hn⟩ := h
  have hs : w.grownBy (((w.setCell ⟨s, 0, none⟩ u0).setCell ⟨s, 1, none⟩ u1).setCell ⟨s, 2, none⟩ u2) (some s) := Kit.grown_then_set (Kit.grown_then_set (Kit.grown_set _ _ _ _) _ _) _ _
  have e0 := hn h0 (by simp)
  have e1 := hn h1 (by simp)
  have e2 := hn h2 (by simp)
  exact ⟨h0, h1, h2, c0, c1, c2, L0, L1, L2, rfl, World.ownsRow.kept o0 hs (.inr (by simp [Value.ownBlock]; omega)), World.ownsRow.kept o1 hs (.inr (by simp [Value.ownBlock]; omega)), World.ownsRow.kept o2 hs (.inr (by simp [Value.ownBlock]; omega)), hh, hc.kept hs (fun b e => by injection e with e; omega), hG.andThen hs (fun j hj => .inl (by injection hj with hj; omega))⟩
/-- the variable is made: rows of the call's own, new since the world wz -/
theorem CoD.made {w0 wz w1 : World} {B s : Nat} {k : Code} {h0 h1 h2 c0 c1 c2 : Nat} {L0 L1 L2 : List Int} (hc : CurX w1 B k) (hG : w0.grownBy w1 (some B)) (hB : B < w0.heap.size) (hs0 : w0.heap.size ≤ s) (hsz : s < wz.heap.size)
    (hx : Box3 w1 s (.slice none 0 0) (.slice none 0 0) (.slice none 0 0)) (hf : ∀ off, w1.frozen? ⟨s, off, none⟩ = false) (hsl : s < w1.heap.size)
    (o0 : w1.ownsRow wz.heap.size 3 1 (.slice (some ⟨h0, 0, none⟩) 6 c0) 6 (ints L0)) (o1 : w1.ownsRow wz.heap.size 3 1 (.slice (some ⟨h1, 0, none⟩) 6 c1) 6 (ints L1)) (o2 : w1.ownsRow wz.heap.size 3 1 (.slice (some ⟨h2, 0, none⟩) 36 c2) 36 (ints L2)) (hh : h0 ≠ h1 ∧ h0 ≠ h2 ∧ h1 ≠ h2) :
    CoD w0 B s w1.heap.size k h0 h1 h2 c0 c1 c2 L0 L1 L2 (w1.alloc (.cells #[.slice (some ⟨h0, 0, none⟩) 6 c0, .slice (some ⟨h1, 0, none⟩) 6 c1, .slice (some ⟨h2, 0, none⟩) 36 c2] 35)) := by
  have l0 := o0.lt h0 rfl
  have l1 := o1.lt h1 rfl
  have l2 := o2.lt h2 rfl
  exact ⟨hx.alloc hsl _, free_kept (World.grownBy_alloc w1 _ none) hsl (fun b e => by cases e) hf, Box3.made _ _ _ _ _, fun off => by simp, own_base (o0.alloc _) (by omega), own_base (o1.alloc _) (by omega), own_base (o2.alloc _) (by omega), hh, hc.alloc _, Kit.grown_trans hG (Kit.grown_alloc _ _ _), ⟨hB, hs0, hG.size, by omega, by simp; omega, by simp⟩, fun b hb => by rcases hb with rfl | rfl | rfl <;> omega⟩
theorem own_h {w : World} {base n : Nat} {e : TypeId} {A : Option Addr} {c : Nat} {ys : List Value} (h : w.ownsRow base e 1 (.slice A n c) n ys) (hn : 0 < n) : ∃ g, A = some ⟨g, 0, none⟩ := by
  obtain ⟨g, e, _⟩ := own_form h hn
  exact ⟨g, e⟩
theorem Apart.ne {a b n m c d : Nat} (h : Apart (.slice (some ⟨a, 0, none⟩) n c) (.slice (some ⟨b, 0, none⟩) m d)) : a ≠ b := by
  rcases h with h | h
  · simp [Value.ownBlock] at h
  · intro e; exact h (by rw [e]; rfl)
theorem Kit.grown_of_below {w w' : World} (h : Below w.heap.size w w') : w.grownBy w' none := ⟨h.os, h.tape, h.output, h.size, fun k hk _ => h.block k hk⟩

end Go.Proofs.YtpdpkcadolcbmaaDoor
