/- Draws: what a call that moves the cursor leaves of rows of the caller's own. -/
import Derived.Test.YtpdpkcadolcbmaaDraw2
import Derived.Test.YtpdpkcadolcbmaaBase
import Derived.Test.YtpdpkcadolcbmaaKit
import Derived.Laws.OwnMore
import Derived.Laws.AppendOwn
namespace Go.Proofs.Ytpdpkcadolcbmaa
open Go.RowKit
set_option linter.unusedVariables false

theorem Kit.grown_alloc (w : World) (o : Obj) (r : Option Nat) : w.grownBy (w.alloc o) r := ⟨rfl, rfl, rfl, by simp, fun k hk _ => Below.heap_alloc _ _ _ hk⟩
theorem Kit.keptRow {w w' : World} {base e n size B : Nat} {v : Value} {xs : List Value} (h : w.ownsRow base e size v n xs) (hB : B < base) (hg : w.grownBy w' (some B)) : w'.ownsRow base e size v n xs := by
  refine h.kept hg (Or.inr ?_)
  intro he
  have := h.lt B (by rw [he])
  omega
/-- what an append of the call's own leaves, seen from the call's beginning -/
theorem Kit.grown_own {w0 wr w1 : World} {B base e n size : Nat} {o : Obj} {v : Value} {xs : List Value} (hg : w0.grownBy wr (some B)) (hb : w0.heap.size ≤ base) (hown : wr.ownsRow base e size v n xs)
    (h : (wr.alloc o).grownBy w1 v.ownBlock) : w0.grownBy w1 (some B) := by
  have h1 : w0.grownBy (wr.alloc o) (some B) := Kit.grown_trans hg ⟨rfl, rfl, rfl, by simp, fun k hk _ => Below.heap_alloc _ _ _ hk⟩
  exact h1.andThen h (fun j hj => Or.inl (by have := (hown.lt j hj).1; omega))

end Go.Proofs.Ytpdpkcadolcbmaa
