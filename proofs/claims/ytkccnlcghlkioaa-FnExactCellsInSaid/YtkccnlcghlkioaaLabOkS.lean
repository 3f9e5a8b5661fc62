/- Contracts (LabOkS). -/
import Derived.Test.YtkccnlcghlkioaaInS
import Derived.Test.YtkccnlcghlkioaaLab
namespace Go.Proofs.Ytkccnlcghlkioaa
open Go.RowKit
set_option linter.unusedVariables false

set_option maxHeartbeats 400000 in
theorem specLabelOk_any (n : Int) (w : World) :
    Calls Try.prog 51 #[.int .i64 n] w fun e w' => e = .returned (.bool (Lab.ok n)) ∧ w = w' := by
  go_enter Try.func51, Try.ntmps51
  go_wp2_with fail
  refine (l1In_any _ _ _ _).mono ?_
  rintro e w' ⟨rfl, rfl⟩
  go_wp2
  go_ret
  exact ⟨Kit.ret_bool (by simp [Lab.ok]), rfl⟩

end Go.Proofs.Ytkccnlcghlkioaa
