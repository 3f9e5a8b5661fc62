/- Contracts (OwnB). -/
import Derived.Test.YtpdpkcadolcbmaaHarB
import Derived.Test.YtpdpkcadolcbmaaGetM
namespace Go.Proofs.Ytpdpkcadolcbmaa
open Go.RowKit
set_option linter.unusedVariables false

/-- the answer is a cost of the call's own and a Bool -/
def OwnCoB (r : Co × Bool) (w : World) (e : Ending) (w' : World) : Prop :=
  ∃ A0 A1 A2 c0 c1 c2, e = .returned (.tuple #[.agg #[.slice A0 r.1.d.length c0, .slice A1 r.1.i.length c1, .slice A2 r.1.r.length c2], .bool r.2]) ∧ OwnC w' w.heap.size A0 A1 A2 c0 c1 c2 r.1 ∧ Below w.heap.size w w'
theorem OwnC.nil (w : World) (base : Nat) : OwnC w base none none none 0 0 0 Co.none := ⟨own_nil, own_nil, own_nil, .inl rfl, .inl rfl, .inl rfl⟩

end Go.Proofs.Ytpdpkcadolcbmaa
