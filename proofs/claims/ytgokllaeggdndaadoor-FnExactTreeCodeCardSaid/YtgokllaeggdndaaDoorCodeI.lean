/- Contracts (CodeI). -/
import Derived.Test.YtgokllaeggdndaaDoorCodes
import Derived.Test.YtgokllaeggdndaaDoorBase
namespace Go.Proofs.YtgokllaeggdndaaDoor
open Go.RowKit
set_option linter.unusedVariables false

set_option maxHeartbeats 400000 in
theorem implTreeCode_any (n : Int) (w : World) (ht : HasCodes w) :
    Calls Tryd.prog 5 #[.int .i64 n] w fun e w' => e = .returned (.string (TrCode.name n)) ∧ w = w' := by
  by_cases h0 : n < 0
  · have hf := TrCode.name_no (n := n) (by omega)
    have e0 : decide (n < 0) = true := by simpa using h0
    clear ht h0
    go_enter Tryd.func5, Tryd.ntmps5
    go_wp2
    go_ret
    exact ⟨by rw [hf]; rfl, rfl⟩
  · have e0 : decide (n < 0) = false := by simpa using h0
    by_cases h1 : 6 < n
    · have hf := TrCode.name_no (n := n) (by omega)
      have e1 : decide (6 < n) = true := by simpa using h1
      clear ht h0 h1
      go_enter Tryd.func5, Tryd.ntmps5
      go_wp2
      go_ret
      exact ⟨by rw [hf]; rfl, rfl⟩
    · have e1 : decide (6 < n) = false := by simpa using h1
      obtain ⟨m, rfl⟩ := Int.eq_ofNat_of_zero_le (show 0 ≤ n by omega)
      have hcell := ht.cell m (by omega)
      have hm : m < 7 := by omega
      clear ht h0 h1
      go_enter Tryd.func5, Tryd.ntmps5
      go_wp2
      go_ret
      exact ⟨rfl, rfl⟩

end Go.Proofs.YtgokllaeggdndaaDoor
