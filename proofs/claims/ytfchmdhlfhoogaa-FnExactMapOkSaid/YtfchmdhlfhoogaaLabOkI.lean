/- Contracts (LabOkI). -/
import Derived.Test.YtfchmdhlfhoogaaRows
import Derived.Test.YtfchmdhlfhoogaaLab
namespace Go.Proofs.Ytfchmdhlfhoogaa
open Go.RowKit
set_option linter.unusedVariables false

set_option maxHeartbeats 400000 in
theorem implLabelOk_any (n : Int) (w : World) :
    Calls Try.prog 90 #[.int .i64 n] w fun e w' => e = .returned (.bool (Lab.ok n)) ∧ w = w' := by
  go_enter Try.func90, Try.ntmps90
  go_wp2
  all_goals go_ret
  all_goals exact ⟨Kit.ret_bool (by unfold Lab.ok; first | (rw [decide_eq_decide]; omega) | (symm; rw [decide_eq_false_iff_not]; omega)), rfl⟩

end Go.Proofs.Ytfchmdhlfhoogaa
