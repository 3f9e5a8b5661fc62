/- Contracts (Res4). -/
import Derived.Test.YtemionefggiknaaDoorRes
import Derived.Test.YtemionefggiknaaDoorNames
import Derived.Lib.OthersKept
namespace Go.Proofs.YtemionefggiknaaDoor
open Go.RowKit
set_option linter.unusedVariables false

/-- the answer is a row of nodes of blocks from base on -/
def OwnAt (base : Nat) (E : TypeId) (Y : Tr) (w : World) (e : Ending) (w' : World) : Prop :=
  ∃ A c, e = .returned (.slice A Y.length c) ∧ w'.ownsRow base E 2 (.slice A Y.length c) Y.length (Tr.cells Y) ∧ Below base w w'
theorem iter_grown {w : World} {k : Nat} (s : ByteArray) (pos : Nat) : w.grownBy (w.iterAt k s pos) (some k) :=
  ⟨rfl, rfl, rfl, by rw [Lib.iterAt_size]; exact Nat.le_refl _, fun i hi hne => Lib.iterAt_other w k i s pos (fun e => hne (by rw [e]))⟩
theorem own_iter {w : World} {base n size : Nat} {e : TypeId} {v : Value} {ys : List Value} (h : w.ownsRow base e size v n ys) {k : Nat} (hk : k < base) (s : ByteArray) (pos : Nat) : (w.iterAt k s pos).ownsRow base e size v n ys :=
  own_grown h (iter_grown s pos) (fun g hg => by injection hg with hg; omega)

end Go.Proofs.YtemionefggiknaaDoor
