/- Contracts (WidthI). -/
import Derived.Test.YtbdhhmcebjpgeaaDoorC1P
import Derived.Test.YtbdhhmcebjpgeaaDoorBase
namespace Go.Proofs.YtbdhhmcebjpgeaaDoor
open Go.RowKit
set_option linter.unusedVariables false

set_option maxHeartbeats 400000 in
theorem widthOk_any (x : Int) (w : World) :
    Calls Tryd.prog 24 #[.int .i64 x] w fun e w' => e = .returned (.bool (decide (1 ≤ x ∧ x ≤ 7))) ∧ w = w' := by
  go_enter Tryd.func24, Tryd.ntmps24
  go_wp2
  all_goals go_ret
  all_goals exact ⟨Kit.ret_bool (by simp; try omega), rfl⟩

end Go.Proofs.YtbdhhmcebjpgeaaDoor
