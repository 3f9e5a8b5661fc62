/- Contracts (HarB). -/
import Derived.Test.YtpdpkcadolcbmaaSameCS
import Derived.Test.YtpdpkcadolcbmaaThree
import Derived.Test.YtpdpkcadolcbmaaUnitS
import Derived.Outline
namespace Go.Proofs.Ytpdpkcadolcbmaa
open Go.RowKit
set_option linter.unusedVariables false

/-- three rows of the call's own, apart -/
def OwnC (w : World) (base : Nat) (A0 A1 A2 : Option Addr) (c0 c1 c2 : Nat) (k : Co) : Prop :=
  w.ownsRow base 3 1 (.slice A0 k.d.length c0) k.d.length (ints k.d) ∧ w.ownsRow base 3 1 (.slice A1 k.i.length c1) k.i.length (ints k.i) ∧ w.ownsRow base 3 1 (.slice A2 k.r.length c2) k.r.length (ints k.r) ∧
  Apart (.slice A0 k.d.length c0) (.slice A1 k.i.length c1) ∧ Apart (.slice A0 k.d.length c0) (.slice A2 k.r.length c2) ∧ Apart (.slice A1 k.i.length c1) (.slice A2 k.r.length c2)
theorem OwnC.to_in {w : World} {base : Nat} {A0 A1 A2 : Option Addr} {c0 c1 c2 : Nat} {k : Co} (h : OwnC w base A0 A1 A2 c0 c1 c2 k) : CoIn w w.heap.size A0 A1 A2 k.d.length k.i.length k.r.length k := ⟨IntIn.of_own h.1, IntIn.of_own h.2.1, IntIn.of_own h.2.2.1⟩
theorem OwnC.below {w w' : World} {base : Nat} {A0 A1 A2 : Option Addr} {c0 c1 c2 : Nat} {k : Co} (h : OwnC w base A0 A1 A2 c0 c1 c2 k) (hb : Below w.heap.size w w') : OwnC w' base A0 A1 A2 c0 c1 c2 k :=
  ⟨own_below h.1 hb, own_below h.2.1 hb, own_below h.2.2.1 hb, h.2.2.2⟩
/-- the old blocks but those of three rows stand as they did -/
def Only3 (v0 v1 v2 : Value) (w w' : World) : Prop := ∀ i, i < w.heap.size → v0.ownBlock ≠ some i → v1.ownBlock ≠ some i → v2.ownBlock ≠ some i → w'.heap[i]? = w.heap[i]?
theorem OwnC.lt {w : World} {base : Nat} {A0 A1 A2 : Option Addr} {c0 c1 c2 : Nat} {k : Co} (h : OwnC w base A0 A1 A2 c0 c1 c2 k) {s : Nat} (hs : w.heap.size ≤ s) :
    (Value.slice A0 k.d.length c0).ownBlock ≠ some s ∧ (Value.slice A1 k.i.length c1).ownBlock ≠ some s ∧ (Value.slice A2 k.r.length c2).ownBlock ≠ some s :=
  ⟨fun e => by have := (h.1.lt s e).2; omega, fun e => by have := (h.2.1.lt s e).2; omega, fun e => by have := (h.2.2.1.lt s e).2; omega⟩
theorem Box3.only {w w' : World} {g : Nat} {u0 u1 u2 v0 v1 v2 : Value} (h : Box3 w g v0 v1 v2) (ho : Only3 u0 u1 u2 w w') (hl : g < w.heap.size) (hn : u0.ownBlock ≠ some g ∧ u1.ownBlock ≠ some g ∧ u2.ownBlock ≠ some g) : Box3 w' g v0 v1 v2 := by
  have e := ho g hl hn.1 hn.2.1 hn.2.2
  exact ⟨(World.cell?_of_block (a := ⟨g, 0, none⟩) e).trans h.1, (World.cell?_of_block (a := ⟨g, 1, none⟩) e).trans h.2.1, (World.cell?_of_block (a := ⟨g, 2, none⟩) e).trans h.2.2⟩
def Co.marks (k0 : Int) (k : Co) : Co := ⟨Zs.marks k0 k.d.length, Zs.marks (k0 + k.d.length) k.i.length, Zs.marks (k0 + k.d.length + k.i.length) k.r.length⟩
theorem Co.marks_d (k0 : Int) (k : Co) : (Co.marks k0 k).d.length = k.d.length := Zs.marks_length _ _
theorem Co.marks_i (k0 : Int) (k : Co) : (Co.marks k0 k).i.length = k.i.length := Zs.marks_length _ _
theorem Co.marks_r (k0 : Int) (k : Co) : (Co.marks k0 k).r.length = k.r.length := Zs.marks_length _ _
theorem Box3.grown {w w' : World} {g : Nat} {r : Option Nat} {v0 v1 v2 : Value} (h : Box3 w g v0 v1 v2) (hg : w.grownBy w' r) (hl : g < w.heap.size) (hr : ∀ b, r = some b → b ≠ g) : Box3 w' g v0 v1 v2 := by
  have e := hg.block g hl (fun e => hr g e.symm rfl)
  exact ⟨(World.cell?_of_block (a := ⟨g, 0, none⟩) e).trans h.1, (World.cell?_of_block (a := ⟨g, 1, none⟩) e).trans h.2.1, (World.cell?_of_block (a := ⟨g, 2, none⟩) e).trans h.2.2⟩

end Go.Proofs.Ytpdpkcadolcbmaa
