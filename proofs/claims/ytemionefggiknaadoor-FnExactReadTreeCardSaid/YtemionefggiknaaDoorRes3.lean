/- Contracts (Res3). -/
import Derived.Test.YtemionefggiknaaDoorRes
namespace Go.Proofs.YtemionefggiknaaDoor
open Go.RowKit
set_option linter.unusedVariables false

/-- the answer is a row of nodes of the call's own, and a yes or no -/
def OwnNodesB (E : TypeId) (r : Tr × Bool) (w : World) (e : Ending) (w' : World) : Prop :=
  ∃ A c, e = .returned (.tuple #[.slice A r.1.length c, .bool r.2]) ∧ w'.ownsRow w.heap.size E 2 (.slice A r.1.length c) r.1.length (Tr.cells r.1) ∧ Below w.heap.size w w'
theorem ba_eq (a b : ByteArray) : (a.toList == b.toList) = decide (a = b) := by
  rw [ByteArray.toList_eq, ByteArray.toList_eq, Bool.eq_iff_iff]
  simp only [beq_iff_eq, decide_eq_true_eq]
  constructor
  · intro h
    have := Array.toList_inj.1 h
    cases a; cases b; simpa using this
  · rintro rfl; rfl

end Go.Proofs.YtemionefggiknaaDoor
