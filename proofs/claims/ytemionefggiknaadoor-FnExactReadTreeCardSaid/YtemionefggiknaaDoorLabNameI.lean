/- Contracts (LabNameI). -/
import Derived.Test.YtemionefggiknaaDoorLabOkI
import Derived.Test.YtemionefggiknaaDoorNames
namespace Go.Proofs.YtemionefggiknaaDoor
open Go.RowKit
set_option linter.unusedVariables false

set_option maxHeartbeats 400000 in
theorem implLabelName_no (n : Int) (h : Lab.ok n = false) (w : World) :
    Calls Tryd.prog 18 #[.int .i64 n] w fun e w' => e = .returned (.string ⟨#[]⟩) ∧ w = w' := by
  go_enter Tryd.func18, Tryd.ntmps18
  go_wp2_with fail
  refine (implLabelOk_any n _).mono ?_
  rintro e w' ⟨rfl, rfl⟩
  go_wp2
  go_ret
  exact ⟨rfl, rfl⟩

set_option maxHeartbeats 400000 in
theorem implLabelName_yes (n : Nat) (hn : n < 6) (h : Lab.ok n = true) (w : World) (ht : HasNames w) :
    Calls Tryd.prog 18 #[.int .i64 n] w fun e w' => e = .returned (.string (Lab.name n)) ∧ w = w' := by
  have hcell := ht.cell n hn
  clear ht
  go_enter Tryd.func18, Tryd.ntmps18
  go_wp2_with fail
  refine (implLabelOk_any _ _).mono ?_
  rintro e w' ⟨rfl, rfl⟩
  go_wp2
  go_ret
  exact ⟨rfl, rfl⟩

theorem implLabelName_any (n : Int) (w : World) (ht : HasNames w) :
    Calls Tryd.prog 18 #[.int .i64 n] w fun e w' => e = .returned (.string (Lab.name n)) ∧ w = w' := by
  by_cases h : 0 ≤ n ∧ n ≤ 5
  · obtain ⟨m, rfl⟩ := Int.eq_ofNat_of_zero_le h.1
    exact implLabelName_yes m (by omega) (by simp [Lab.ok]; omega) w ht
  · rw [Lab.name_no h]
    exact implLabelName_no n (by unfold Lab.ok; rw [decide_eq_false_iff_not]; exact h) w

end Go.Proofs.YtemionefggiknaaDoor
