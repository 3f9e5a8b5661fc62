/- Contracts (BoxC). -/
import Derived.Test.YtlndaflhlkbedaaRows
import Derived.Test.YtlndaflhlkbedaaMem
namespace Go.Proofs.Ytlndaflhlkbedaa
open Go.RowKit
set_option linter.unusedVariables false

/-- a block of three cells -/
def Box3 (w : World) (g : Nat) (v0 v1 v2 : Value) : Prop := w.cell? ⟨g, 0, none⟩ = some v0 ∧ w.cell? ⟨g, 1, none⟩ = some v1 ∧ w.cell? ⟨g, 2, none⟩ = some v2
theorem Box3.drawn {w w' : World} {g : Nat} {v0 v1 v2 : Value} (h : Box3 w g v0 v1 v2) (hd : Drawn w w') : Box3 w' g v0 v1 v2 := ⟨(hd.cell _).trans h.1, (hd.cell _).trans h.2.1, (hd.cell _).trans h.2.2⟩
theorem Box3.below {w w' : World} {g B : Nat} {v0 v1 v2 : Value} (h : Box3 w g v0 v1 v2) (hb : Below B w w') (hg : g < B) : Box3 w' g v0 v1 v2 := ⟨(hb.cell (p := ⟨g, 0, none⟩) hg).trans h.1, (hb.cell (p := ⟨g, 1, none⟩) hg).trans h.2.1, (hb.cell (p := ⟨g, 2, none⟩) hg).trans h.2.2⟩
theorem Box3.made (w : World) (v0 v1 v2 : Value) (e : TypeId) : Box3 (w.alloc (.cells #[v0, v1, v2] e)) w.heap.size v0 v1 v2 := ⟨by simp, by simp, by simp⟩
theorem Box3.free (w : World) (v0 v1 v2 : Value) (e : TypeId) (off : Nat) : (w.alloc (.cells #[v0, v1, v2] e)).frozen? ⟨w.heap.size, off, none⟩ = false := by simp
theorem free_below {w w' : World} {g B : Nat} (hb : Below B w w') (hg : g < B) (h : ∀ off, w.frozen? ⟨g, off, none⟩ = false) (off : Nat) : w'.frozen? ⟨g, off, none⟩ = false := by
  have e := hb.block g hg
  have := h off
  unfold World.frozen? at this ⊢
  simp only [e]
  exact this
theorem Box3.alloc {w : World} {g : Nat} {v0 v1 v2 : Value} (h : Box3 w g v0 v1 v2) (hg : g < w.heap.size) (o : Obj) : Box3 (w.alloc o) g v0 v1 v2 :=
  ⟨(World.cell?_alloc_lt w o ⟨g, 0, none⟩ hg).trans h.1, (World.cell?_alloc_lt w o ⟨g, 1, none⟩ hg).trans h.2.1, (World.cell?_alloc_lt w o ⟨g, 2, none⟩ hg).trans h.2.2⟩

end Go.Proofs.Ytlndaflhlkbedaa
