/- Contracts (SlC). -/
import Derived.Test.YtkccnlcghlkioaaSlI
namespace Go.Proofs.Ytkccnlcghlkioaa
open Go.RowKit
set_option linter.unusedVariables false

theorem Zs.find_ge (zs : List Int) (i : Int) (k : Nat) : Zs.find zs i k = -1 ∨ (k : Int) ≤ Zs.find zs i k := by
  induction zs generalizing k with
  | nil => exact .inl rfl
  | cons z zs ih =>
    unfold Zs.find
    by_cases h : z = i
    · rw [if_pos h]; exact .inr (Int.le_refl _)
    · rw [if_neg h]
      rcases ih (k + 1) with h | h
      · exact .inl h
      · exact .inr (by omega)
theorem Zs.find_mem (zs : List Int) (i : Int) (k : Nat) : 0 ≤ Zs.find zs i k ↔ i ∈ zs := by
  induction zs generalizing k with
  | nil => simp [Zs.find]
  | cons z zs ih =>
    unfold Zs.find
    by_cases h : z = i
    · rw [if_pos h]; subst h; simp
    · rw [if_neg h, ih (k + 1)]
      simp [show ¬ i = z from fun e => h e.symm]
set_option maxHeartbeats 1600000 in
set_option maxRecDepth 100000 in
theorem slContains_any (A : Option Addr) (n c : Nat) (zs : List Int) (i : Int) (w : World) (h : IntIn w w.heap.size A n zs) (hn : n ≤ 1048576) :
    Calls Try.prog 96 #[.slice A n c, .int .i64 i] w fun e w' => e = .returned (.bool (decide (i ∈ zs))) ∧ w = w' := by
  have H := Lib.hid h
  clear h
  have hm := Zs.find_mem zs i 0
  obtain ⟨z, hz⟩ : ∃ z, z = Zs.find zs i 0 := ⟨_, rfl⟩
  have HZ := Lib.hid hz
  rw [← hz] at hm
  have HM := Lib.hid (show decide (0 ≤ z) = decide (i ∈ zs) by rw [Bool.eq_iff_iff]; simp [hm])
  clear hm hz
  go_enter Try.func96, Try.ntmps96
  go_wp2_with fail
  refine (slIndex_any _ _ _ zs _ _ H.out hn).mono ?_
  rintro e w1 ⟨rfl, rfl⟩
  rw [← HZ.out]
  go_wp2
  go_ret
  exact ⟨by rw [← HM.out]; rfl, rfl⟩

end Go.Proofs.Ytkccnlcghlkioaa
