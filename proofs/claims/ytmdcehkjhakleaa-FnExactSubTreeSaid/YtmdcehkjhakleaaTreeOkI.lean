/- Contracts (TreeOkI). -/
import Derived.Test.YtmdcehkjhakleaaLabOkI
import Derived.Test.YtmdcehkjhakleaaTr
import Derived.BigQuiet
import Derived.Outline
namespace Go.Proofs.Ytmdcehkjhakleaa
open Go.RowKit
set_option linter.unusedVariables false

/-- what the next node's depth must lie between -/
def Tr.span (xs : Tr) (k : Nat) (lo hi : Int) : Prop := (k = 0 → lo = 0 ∧ hi = 0) ∧ (0 < k → lo = 1 ∧ hi = min (Tr.d xs (k - 1) + 1) 12)
theorem Tr.span_ok {xs : Tr} {k : Nat} {lo hi : Int} (h : Tr.span xs k lo hi) (hok : Tr.okTo xs k) (h1 : 0 ≤ Tr.l xs k ∧ Tr.l xs k ≤ 5) : Tr.okAt xs k = decide (lo ≤ Tr.d xs k ∧ Tr.d xs k ≤ hi) := by
  rw [Tr.okAt, decide_eq_decide]
  rcases Nat.eq_zero_or_pos k with h0 | h0
  · have := h.1 h0
    omega
  · have := h.2 h0
    have := Tr.okTo_at hok (show k - 1 < k by omega)
    omega
theorem Tr.span_bd {xs : Tr} {k : Nat} {lo hi : Int} (h : Tr.span xs k lo hi) (hok : Tr.okTo xs k) : 0 ≤ lo ∧ lo ≤ 1 ∧ 0 ≤ hi ∧ hi ≤ 12 := by
  rcases Nat.eq_zero_or_pos k with h0 | h0
  · have := h.1 h0
    omega
  · have := h.2 h0
    have := Tr.okTo_at hok (show k - 1 < k by omega)
    omega

set_option maxHeartbeats 800000 in
set_option maxRecDepth 100000 in
theorem implTreeOk_any (A : Option Addr) (n c : Nat) (xs : Tr) (w : World) (h : NdIn w w.heap.size A n xs) (hn : n ≤ 1048576) :
    Calls Try.prog 14 #[.slice A n c] w fun e w' => e = .returned (.bool (Tr.ok xs)) ∧ Below w.heap.size w w' := by
  have H := Lib.hid h
  clear h
  have HL := Lib.hid H.out.1
  by_cases hn1 : n < 1
  · have Hf := Lib.hid (show Tr.ok xs = false by rw [Bool.eq_false_iff, Ne, Tr.ok_iff, HL.out]; omega)
    go_enter Try.func14, Try.ntmps14
    go_wp2
    go_ret
    exact ⟨Kit.ret_bool Hf.out.symm, Below.refl _ _⟩
  by_cases hn2 : 24 < n
  · have Hf := Lib.hid (show Tr.ok xs = false by rw [Bool.eq_false_iff, Ne, Tr.ok_iff, HL.out]; omega)
    go_enter Try.func14, Try.ntmps14
    go_wp2
    go_ret
    exact ⟨Kit.ret_bool Hf.out.symm, Below.refl _ _⟩
  go_enter Try.func14, Try.ntmps14
  go_wp2
  go_loopw [17, 3, 4] (fun iv lv mv wr => ∃ (k : Nat) (lo hi : Int), k ≤ n ∧ iv = .int .i64 k ∧ lv = .int .i64 lo ∧ mv = .int .i64 hi ∧ Tr.span xs k lo hi ∧ Tr.okTo xs k ∧ Below w.heap.size w wr) (fun i _ _ _ => n - (intOf i).toNat)
  case atStart => exact ⟨0, 0, 0, Nat.zero_le _, rfl, rfl, rfl, ⟨fun _ => ⟨rfl, rfl⟩, fun h => absurd h (by omega)⟩, fun j hj => absurd hj (by omega), Below.refl _ _⟩
  case round =>
    obtain ⟨k, lo, hi, hk, rfl, rfl, rfl, hsp, hok, hB⟩ := hrel
    have hbd := Tr.span_bd hsp hok
    have hsz := hB.size
    have Hok := Lib.hid hok
    have Hsp := Lib.hid hsp
    have HB := Lib.hid hB
    clear hok hsp hB
    by_cases hlt : k < n
    · obtain ⟨ad, rfl, hb, hl, hd⟩ := (H.out.below HB.out).at_ hlt
      by_cases h1 : 0 ≤ Tr.l xs k ∧ Tr.l xs k ≤ 5
      · have h1' : Lab.ok (Tr.l xs k) = true := by simp [Lab.ok, h1]
        have Hat := Lib.hid (Tr.span_ok Hsp.out Hok.out h1)
        clear h1
        by_cases h2 : lo ≤ Tr.d xs k
        · by_cases h3 : Tr.d xs k ≤ hi
          · have Hk := Lib.hid (show Tr.okAt xs k = true by rw [Hat.out]; simp [h2, h3])
            go_wp2_with (go_at_call 38; refine (implLabelOk_any _ _).mono ?_; rintro e w' ⟨rfl, rfl⟩)
            go_region
            all_goals
              go_wp2
              go_roundw
              case rel => exact ⟨k + 1, 1, min (Tr.d xs k + 1) 12, by omega, by go_num, rfl, by rw [min_if], ⟨fun h => absurd h (by omega), fun _ => ⟨rfl, rfl⟩⟩, Tr.okTo_succ Hok.out Hk.out, (HB.out.alloc HB.out.size _).drew⟩
              case measure => simp [intOf]; omega
          · have Hf := Lib.hid (Tr.not_ok (xs := xs) (k := k) (by rw [HL.out]; exact hlt) (by rw [Hat.out]; simp [h3]))
            go_wp2_with (go_at_call 38; refine (implLabelOk_any _ _).mono ?_; rintro e w' ⟨rfl, rfl⟩)
            go_ret
            exact ⟨Kit.ret_bool Hf.out.symm, HB.out.alloc HB.out.size _⟩
        · have Hf := Lib.hid (Tr.not_ok (xs := xs) (k := k) (by rw [HL.out]; exact hlt) (by rw [Hat.out]; simp [h2]))
          go_wp2_with (go_at_call 38; refine (implLabelOk_any _ _).mono ?_; rintro e w' ⟨rfl, rfl⟩)
          go_ret
          exact ⟨Kit.ret_bool Hf.out.symm, HB.out.alloc HB.out.size _⟩
      · have h1' : Lab.ok (Tr.l xs k) = false := by simpa [Lab.ok] using h1
        have Hf := Lib.hid (Tr.not_ok (xs := xs) (k := k) (by rw [HL.out]; exact hlt) (by simp [Tr.okAt]; omega))
        clear h1
        go_wp2_with (go_at_call 38; refine (implLabelOk_any _ _).mono ?_; rintro e w' ⟨rfl, rfl⟩)
        go_ret
        exact ⟨Kit.ret_bool Hf.out.symm, HB.out.alloc HB.out.size _⟩
    · obtain rfl : k = n := by omega
      go_wp2
      go_ret
      exact ⟨Kit.ret_bool (Tr.ok_iff.2 (by rw [HL.out]; exact ⟨Hok.out, by omega, by omega⟩)).symm, HB.out⟩

end Go.Proofs.Ytmdcehkjhakleaa
