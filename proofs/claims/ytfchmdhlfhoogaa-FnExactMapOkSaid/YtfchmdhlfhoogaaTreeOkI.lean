/- Contracts (TreeOkI). -/
import Derived.Test.YtfchmdhlfhoogaaLabOkI
import Derived.Test.YtfchmdhlfhoogaaDepI
import Derived.BigQuiet
import Derived.Outline
namespace Go.Proofs.Ytfchmdhlfhoogaa
open Go.RowKit
set_option linter.unusedVariables false

theorem Tr.fits_take {xs : Tr} {k : Nat} {d : Int} : Tr.fits (xs.take k) k d = Tr.fits xs k d := by
  unfold Tr.fits
  by_cases h : k = 0
  · simp [h]
  · rw [if_neg h, if_neg h]
    simp [Tr.d, List.getD_eq_getElem?_getD, show k - 1 < k by omega]
theorem Tr.d_take {xs : Tr} {k j : Nat} (h : j < k) : Tr.d (xs.take k) j = Tr.d xs j := by simp [Tr.d, List.getD_eq_getElem?_getD, h]
theorem NdIn.head {w : World} {B n : Nat} {A : Option Addr} {xs : Tr} (h : NdIn w B A n xs) {k : Nat} (hk : k ≤ n) : NdIn w B A k (xs.take k) := by
  refine ⟨by have := h.1; simp; omega, fun h0 => h.2.1 (by omega), fun ad e j hj => ?_⟩
  have := h.2.2 ad e j (by omega)
  have hg : (xs.take k).getD j (0, 0) = xs.getD j (0, 0) := by simp [List.getD_eq_getElem?_getD, hj]
  simp only [Tr.l, Tr.d] at this ⊢
  rw [hg]
  exact this
set_option maxHeartbeats 800000 in
set_option maxRecDepth 100000 in
theorem implTreeOk_any (A : Option Addr) (n c : Nat) (xs : Tr) (w : World) (h : NdIn w w.heap.size A n xs) (hn : n ≤ 1048576) (hnc : n ≤ c) :
    Calls Try.prog 101 #[.slice A n c] w fun e w' => e = .returned (.bool (Tr.ok xs)) ∧ Below w.heap.size w w' := by
  have H := Lib.hid h
  clear h
  have HL := Lib.hid H.out.1
  by_cases hn1 : n < 1
  · have Hf := Lib.hid (show Tr.ok xs = false by rw [Bool.eq_false_iff, Ne, Tr.ok_iff, HL.out]; omega)
    go_enter Try.func101, Try.ntmps101
    go_wp2
    go_ret
    exact ⟨Kit.ret_bool Hf.out.symm, Below.refl _ _⟩
  by_cases hn2 : 24 < n
  · have Hf := Lib.hid (show Tr.ok xs = false by rw [Bool.eq_false_iff, Ne, Tr.ok_iff, HL.out]; omega)
    go_enter Try.func101, Try.ntmps101
    go_wp2
    go_ret
    exact ⟨Kit.ret_bool Hf.out.symm, Below.refl _ _⟩
  obtain ⟨ad, rfl, _⟩ := H.out.2.1 (by omega)
  go_enter Try.func101, Try.ntmps101
  go_wp2
  go_loopw [15] (fun iv wr => ∃ k : Nat, k ≤ n ∧ iv = .int .i64 k ∧ Tr.okTo xs k ∧ Below w.heap.size w wr) (fun i _ => n - (intOf i).toNat)
  case atStart => exact ⟨0, Nat.zero_le _, rfl, fun j hj => absurd hj (by omega), Below.refl _ _⟩
  case round =>
    obtain ⟨k, hk, rfl, hok, hB⟩ := hrel
    have hsz := hB.size
    have Hok := Lib.hid hok
    have HB := Lib.hid hB
    clear hok hB
    by_cases hlt : k < n
    · obtain ⟨hl, hd⟩ := (H.out.below HB.out).here hlt
      have hkc : (k : Int) ≤ (c : Int) := by omega
      have hk0 : (0 : Int) ≤ (k : Int) := by omega
      have Hbk := Lib.hid (show 0 < k → 0 ≤ Tr.d (xs.take k) (k - 1) ∧ Tr.d (xs.take k) (k - 1) ≤ 12 by
        intro h0
        rw [Tr.d_take (by omega)]
        exact (Tr.okTo_at Hok.out (show k - 1 < k by omega)).2.1)
      have Hfit := Lib.hid (Tr.fits_take (xs := xs) (k := k) (d := Tr.d xs k))
      have Hc := Lib.hid (((H.out.below HB.out).more HB.out.size).to_below ((Below.refl _ _).alloc (Nat.le_refl _) (.cells #[.int .i64 (Tr.l xs k), .int .i64 (Tr.d xs k)] 42)) |>.head (Nat.le_of_lt hlt))
      by_cases h1 : 0 ≤ Tr.l xs k ∧ Tr.l xs k ≤ 5
      · have h1' : Lab.ok (Tr.l xs k) = true := by simp [Lab.ok, h1]
        have Hat := Lib.hid (Tr.okAt_fits (xs := xs) (k := k) h1 (fun h0 => (Tr.okTo_at Hok.out (show k - 1 < k by omega)).2.1.1))
        clear h1
        by_cases h2 : Tr.d xs k ≤ 12
        · have e2 : decide (12 < Tr.d xs k) = false := by simpa using h2
          cases h3 : Tr.fits (xs.take k) k (Tr.d xs k) with
          | true =>
            have Hk := Lib.hid (show Tr.okAt xs k = true by rw [Hat.out, ← Hfit.out, h3]; simp [h2])
            clear h2
            go_wp2
            go_quiet (first
              | (go_at_call 90; exact quiet_same (implLabelOk_any _ _))
              | (go_at_call 130; exact quiet_same (depthFits_any _ _ _ _ _ _ (Hc.out.drewN _) (by omega) Hbk.out)))
            go_wp2
            go_roundw
            case rel => exact ⟨k + 1, by omega, by go_num, Tr.okTo_succ Hok.out Hk.out, Drawn.below (HB.out.alloc HB.out.size _) ⟨_, rfl⟩⟩
            case measure => simp [intOf]; omega
          | false =>
            have Hf := Lib.hid (Tr.not_ok (xs := xs) (k := k) (by rw [HL.out]; exact hlt) (by rw [Hat.out, ← Hfit.out, h3]; simp))
            clear h2
            go_wp2
            go_quiet (first
              | (go_at_call 90; exact quiet_same (implLabelOk_any _ _))
              | (go_at_call 130; exact quiet_same (depthFits_any _ _ _ _ _ _ (Hc.out.drewN _) (by omega) Hbk.out)))
            go_wp2
            go_ret
            exact ⟨Kit.ret_bool Hf.out.symm, Drawn.below (HB.out.alloc HB.out.size _) ⟨_, rfl⟩⟩
        · have e2 : decide (12 < Tr.d xs k) = true := by simpa using h2
          have Hf := Lib.hid (Tr.not_ok (xs := xs) (k := k) (by rw [HL.out]; exact hlt) (by rw [Hat.out]; simp [h2]))
          clear h2
          go_wp2
          go_quiet (first
            | (go_at_call 90; exact quiet_same (implLabelOk_any _ _))
            | (go_at_call 130; exact quiet_same (depthFits_any _ _ _ _ _ _ (Hc.out.drewN _) (by omega) Hbk.out)))
          go_wp2
          go_ret
          exact ⟨Kit.ret_bool Hf.out.symm, Drawn.below (HB.out.alloc HB.out.size _) ⟨_, rfl⟩⟩
      · have h1' : Lab.ok (Tr.l xs k) = false := by simpa [Lab.ok] using h1
        have Hf := Lib.hid (Tr.not_ok (xs := xs) (k := k) (by rw [HL.out]; exact hlt) (by simp [Tr.okAt]; omega))
        clear h1
        go_wp2
        go_quiet (first
          | (go_at_call 90; exact quiet_same (implLabelOk_any _ _))
          | (go_at_call 130; exact quiet_same (depthFits_any _ _ _ _ _ _ (Hc.out.drewN _) (by omega) Hbk.out)))
        go_wp2
        go_ret
        exact ⟨Kit.ret_bool Hf.out.symm, Drawn.below (HB.out.alloc HB.out.size _) ⟨_, rfl⟩⟩
    · obtain rfl : k = n := by omega
      go_wp2
      go_ret
      exact ⟨Kit.ret_bool (Tr.ok_iff.2 (by rw [HL.out]; exact ⟨Hok.out, by omega, by omega⟩)).symm, HB.out⟩

end Go.Proofs.Ytfchmdhlfhoogaa
