/- Contracts (ExTreeCode). -/
import Derived.Test.YtgokllaeggdndaaDoorCodeS
import Derived.Test.YtgokllaeggdndaaDoorCodeI
import Derived.Deep.DeepHandedRow
namespace Go.Proofs.YtgokllaeggdndaaDoor
open Go.RowKit
set_option linter.unusedVariables false

set_option maxHeartbeats 400000 in
theorem exactTreeCode_walk (n : Int) (hn : (Lit.int .i64 n).wf = true) (w : World) (hL : laidMetH Tryd.prog Rows.fnExactTreeCodeRow.laid w) :
    Calls Tryd.prog 3 #[.int .i64 n] w fun e w' => e = .returned (.bool true) ∧ Below w.heap.size w w' := by
  have hL' : laidMet Tryd.prog Rows.fnExactTreeCodeRow.laid w := hL
  have ht : HasCodes w := hasCodes hL'
  clear hn hL hL'
  go_enter Tryd.func3, Tryd.ntmps3
  go_wp2_with fail
  refine (specTreeCode_any n _).mono ?_
  rintro e w1 ⟨rfl, hb1⟩
  have ht1 := ht.below hb1
  go_wp2_with fail
  refine (implTreeCode_any n _ ht1).mono ?_
  rintro e w2 ⟨rfl, rfl⟩
  go_wp2
  go_ret
  exact ⟨rfl, hb1⟩

end Go.Proofs.YtgokllaeggdndaaDoor
