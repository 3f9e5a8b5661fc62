/- Contracts (ExLabelOk). -/
import Derived.Test.YtaingeimdcamgaaLabOkS
import Derived.Test.YtaingeimdcamgaaLabOkI
namespace Go.Proofs.Ytaingeimdcamgaa
open Go.RowKit
set_option linter.unusedVariables false

set_option maxHeartbeats 400000 in
theorem exactLabelOk_walk (n : Int) (_hn : (Lit.int .i64 n).wf = true) (w : World) :
    Calls Try.prog 3 #[.int .i64 n] w fun e w' => e = .returned (.bool true) ∧ Below w.heap.size w w' := by
  clear _hn
  go_enter Try.func3, Try.ntmps3
  go_wp2_with fail
  refine (specLabelOk_any n _).mono ?_
  rintro e w1 ⟨rfl, rfl⟩
  go_wp2_with fail
  refine (implLabelOk_any n _).mono ?_
  rintro e w2 ⟨rfl, rfl⟩
  go_wp2
  go_ret
  exact ⟨rfl, Below.refl _ _⟩

end Go.Proofs.Ytaingeimdcamgaa
