/- Contracts (ExLabelOf). -/
import Derived.Test.YtaingeimdcamgaaDoorLabOfS
import Derived.Test.YtaingeimdcamgaaDoorLabOfI
import Derived.Deep.DeepHandedRow
namespace Go.Proofs.YtaingeimdcamgaaDoor
open Go.RowKit
set_option linter.unusedVariables false

set_option maxHeartbeats 400000 in
theorem exactLabelOf_walk (s : ByteArray) (hs : s.size ≤ maxLen) (w : World) (hL : laidMetH Tryd.prog Rows.fnExactLabelOfRow.laid w) :
    Calls Tryd.prog 4 #[.string s] w fun e w' => e = .returned (.bool true) ∧ Below w.heap.size w w' := by
  have hL' : laidMet Tryd.prog Rows.fnExactLabelOfRow.laid w := hL
  have ht : HasNames w := hasNames hL'
  clear hL hL'
  unfold maxLen at hs
  by_cases hbig : 1048576 < s.size
  · clear ht
    go_enter Tryd.func4, Tryd.ntmps4
    go_wp2
    go_ret
    exact ⟨rfl, Below.refl _ _⟩
  · go_enter Tryd.func4, Tryd.ntmps4
    go_wp2_with fail
    refine (specLabelOf_any s _).mono ?_
    rintro e w1 ⟨rfl, hb1⟩
    have ht1 := ht.below hb1
    go_wp2_with fail
    refine (implLabelOf_any s _ ht1).mono ?_
    rintro e w2 ⟨rfl, rfl⟩
    go_wp2
    go_ret
    exact ⟨rfl, hb1⟩

end Go.Proofs.YtaingeimdcamgaaDoor
