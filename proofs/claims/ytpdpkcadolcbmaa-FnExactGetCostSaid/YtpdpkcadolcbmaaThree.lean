/- Contracts (Three). -/
import Derived.Test.YtpdpkcadolcbmaaBoxC
import Derived.Test.YtpdpkcadolcbmaaMem3
import Derived.Test.YtpdpkcadolcbmaaGrow
namespace Go.Proofs.Ytpdpkcadolcbmaa
open Go.RowKit
set_option linter.unusedVariables false

theorem Apart.symm {a b : Value} (h : Apart a b) : Apart b a := by
  rcases hb : b.ownBlock with _ | g
  · exact .inl hb
  · refine .inr fun e => ?_
    rcases h with h | h
    · rw [hb, h] at e; cases e
    · exact h e.symm
/-- a struct of three rows of ints that a call builds: in block g; the rows behind it, apart from one another -/
def ThreeAt (w0 : World) (g n0 n1 n2 : Nat) (L0 L1 L2 : List Int) (v0 v1 v2 : Value) (w : World) : Prop :=
  Box3 w g v0 v1 v2 ∧ (∀ off, w.frozen? ⟨g, off, none⟩ = false) ∧ w.ownsRow (g + 1) 3 1 v0 n0 (ints L0) ∧ w.ownsRow (g + 1) 3 1 v1 n1 (ints L1) ∧ w.ownsRow (g + 1) 3 1 v2 n2 (ints L2) ∧
  Apart v0 v1 ∧ Apart v0 v2 ∧ Apart v1 v2 ∧ Below w0.heap.size w0 w ∧ g < w.heap.size
theorem Three.push0 {w0 w w' : World} {g : Nat} {n0 n1 n2 n' : Nat} {L0 L1 L2 L' : List Int} {v0 v1 v2 v' : Value} {o : Obj} (hg : w0.heap.size ≤ g) (h : ThreeAt w0 g n0 n1 n2 L0 L1 L2 v0 v1 v2 w)
    (hown : w'.ownsRow (g + 1) 3 1 v' n' (ints L')) (hgrow : (w.alloc o).grownBy w' v0.ownBlock) (hw : v'.ownBlock = v0.ownBlock ∨ v'.ownBlock = some (w.heap.size + 1)) :
    ThreeAt w0 g n' n1 n2 L' L1 L2 v' v1 v2 (w'.setCell ⟨g, 0, none⟩ v') := by
  obtain ⟨hb, hf, o0, o1, o2, a01, a02, a12, hB, hgl⟩ := h
  have hsz : (w.alloc o).heap.size = w.heap.size + 1 := by simp
  have hgw : g < w'.heap.size := by have := hgrow.size; omega
  have hw' : v'.ownBlock = v0.ownBlock ∨ v'.ownBlock = some (w.alloc o).heap.size := by rw [hsz]; exact hw
  have hc : ∀ off, w'.cell? ⟨g, off, none⟩ = w.cell? ⟨g, off, none⟩ := fun off => by
    rw [World.cell?_of_block (hgrow.block g (by omega) (fun e => by have := (o0.lt g e.symm).1; omega))]
    exact World.cell?_alloc_lt w o ⟨g, off, none⟩ hgl
  have hfz : ∀ off, w'.frozen? ⟨g, off, none⟩ = w.frozen? ⟨g, off, none⟩ := fun off => by
    have e := hgrow.block g (by omega) (fun e => by have := (o0.lt g e.symm).1; omega)
    have e2 : (w.alloc o).heap[g]? = w.heap[g]? := Below.heap_alloc w o g hgl
    unfold World.frozen?
    simp only [e, e2]
  have hgs := Kit.grown_set w' g 0 v'
  have keep : ∀ {v : Value} {n : Nat} {ys : List Value}, w'.ownsRow (g + 1) 3 1 v n ys → (w'.setCell ⟨g, 0, none⟩ v').ownsRow (g + 1) 3 1 v n ys := fun k => own_grown k hgs (fun b hb => by injection hb with hb; omega)
  have hB' : Below w0.heap.size w0 w' := (hB.alloc hB.size o).grown hgrow (by have := hB.size; omega) (fun b hb => by have := (o0.lt b hb).1; omega)
  refine ⟨?_, fun off => ?_, ?_, ?_, ?_, (a01.symm.grew (o1.alloc o) hw').symm, (a02.symm.grew (o2.alloc o) hw').symm, a12, hB'.setCell (by exact hg) _, by simpa using hgw⟩
  · obtain ⟨b0, b1, b2⟩ := hb
    rw [← hc 0] at b0
    rw [← hc 1] at b1
    rw [← hc 2] at b2
    refine ⟨?_, ?_, ?_⟩
    · exact World.cell?_setCell_same' _ _ _ (by rw [b0]; rfl)
    · rw [World.cell?_setCell_other _ _ _ _ (fun e => by injection e with e1 e2; omega)]; exact b1
    · rw [World.cell?_setCell_other _ _ _ _ (fun e => by injection e with e1 e2; omega)]; exact b2
  · rw [World.frozen?_setCell, hfz]; exact hf off
  · exact keep hown
  · exact keep (World.ownsRow.kept (o1.alloc o) hgrow a01.symm)
  · exact keep (World.ownsRow.kept (o2.alloc o) hgrow a02.symm)
theorem Three.push1 {w0 w w' : World} {g : Nat} {n0 n1 n2 n' : Nat} {L0 L1 L2 L' : List Int} {v0 v1 v2 v' : Value} {o : Obj} (hg : w0.heap.size ≤ g) (h : ThreeAt w0 g n0 n1 n2 L0 L1 L2 v0 v1 v2 w)
    (hown : w'.ownsRow (g + 1) 3 1 v' n' (ints L')) (hgrow : (w.alloc o).grownBy w' v1.ownBlock) (hw : v'.ownBlock = v1.ownBlock ∨ v'.ownBlock = some (w.heap.size + 1)) :
    ThreeAt w0 g n0 n' n2 L0 L' L2 v0 v' v2 (w'.setCell ⟨g, 1, none⟩ v') := by
  obtain ⟨hb, hf, o0, o1, o2, a01, a02, a12, hB, hgl⟩ := h
  have hsz : (w.alloc o).heap.size = w.heap.size + 1 := by simp
  have hgw : g < w'.heap.size := by have := hgrow.size; omega
  have hw' : v'.ownBlock = v1.ownBlock ∨ v'.ownBlock = some (w.alloc o).heap.size := by rw [hsz]; exact hw
  have hc : ∀ off, w'.cell? ⟨g, off, none⟩ = w.cell? ⟨g, off, none⟩ := fun off => by
    rw [World.cell?_of_block (hgrow.block g (by omega) (fun e => by have := (o1.lt g e.symm).1; omega))]
    exact World.cell?_alloc_lt w o ⟨g, off, none⟩ hgl
  have hfz : ∀ off, w'.frozen? ⟨g, off, none⟩ = w.frozen? ⟨g, off, none⟩ := fun off => by
    have e := hgrow.block g (by omega) (fun e => by have := (o1.lt g e.symm).1; omega)
    have e2 : (w.alloc o).heap[g]? = w.heap[g]? := Below.heap_alloc w o g hgl
    unfold World.frozen?
    simp only [e, e2]
  have hgs := Kit.grown_set w' g 1 v'
  have keep : ∀ {v : Value} {n : Nat} {ys : List Value}, w'.ownsRow (g + 1) 3 1 v n ys → (w'.setCell ⟨g, 1, none⟩ v').ownsRow (g + 1) 3 1 v n ys := fun k => own_grown k hgs (fun b hb => by injection hb with hb; omega)
  have hB' : Below w0.heap.size w0 w' := (hB.alloc hB.size o).grown hgrow (by have := hB.size; omega) (fun b hb => by have := (o1.lt b hb).1; omega)
  refine ⟨?_, fun off => ?_, ?_, ?_, ?_, a01.grew (o0.alloc o) hw', a02, (a12.symm.grew (o2.alloc o) hw').symm, hB'.setCell (by exact hg) _, by simpa using hgw⟩
  · obtain ⟨b0, b1, b2⟩ := hb
    rw [← hc 0] at b0
    rw [← hc 1] at b1
    rw [← hc 2] at b2
    refine ⟨?_, ?_, ?_⟩
    · rw [World.cell?_setCell_other _ _ _ _ (fun e => by injection e with e1 e2; omega)]; exact b0
    · exact World.cell?_setCell_same' _ _ _ (by rw [b1]; rfl)
    · rw [World.cell?_setCell_other _ _ _ _ (fun e => by injection e with e1 e2; omega)]; exact b2
  · rw [World.frozen?_setCell, hfz]; exact hf off
  · exact keep (World.ownsRow.kept (o0.alloc o) hgrow a01)
  · exact keep hown
  · exact keep (World.ownsRow.kept (o2.alloc o) hgrow a12.symm)
theorem Three.push2 {w0 w w' : World} {g : Nat} {n0 n1 n2 n' : Nat} {L0 L1 L2 L' : List Int} {v0 v1 v2 v' : Value} {o : Obj} (hg : w0.heap.size ≤ g) (h : ThreeAt w0 g n0 n1 n2 L0 L1 L2 v0 v1 v2 w)
    (hown : w'.ownsRow (g + 1) 3 1 v' n' (ints L')) (hgrow : (w.alloc o).grownBy w' v2.ownBlock) (hw : v'.ownBlock = v2.ownBlock ∨ v'.ownBlock = some (w.heap.size + 1)) :
    ThreeAt w0 g n0 n1 n' L0 L1 L' v0 v1 v' (w'.setCell ⟨g, 2, none⟩ v') := by
  obtain ⟨hb, hf, o0, o1, o2, a01, a02, a12, hB, hgl⟩ := h
  have hsz : (w.alloc o).heap.size = w.heap.size + 1 := by simp
  have hgw : g < w'.heap.size := by have := hgrow.size; omega
  have hw' : v'.ownBlock = v2.ownBlock ∨ v'.ownBlock = some (w.alloc o).heap.size := by rw [hsz]; exact hw
  have hc : ∀ off, w'.cell? ⟨g, off, none⟩ = w.cell? ⟨g, off, none⟩ := fun off => by
    rw [World.cell?_of_block (hgrow.block g (by omega) (fun e => by have := (o2.lt g e.symm).1; omega))]
    exact World.cell?_alloc_lt w o ⟨g, off, none⟩ hgl
  have hfz : ∀ off, w'.frozen? ⟨g, off, none⟩ = w.frozen? ⟨g, off, none⟩ := fun off => by
    have e := hgrow.block g (by omega) (fun e => by have := (o2.lt g e.symm).1; omega)
    have e2 : (w.alloc o).heap[g]? = w.heap[g]? := Below.heap_alloc w o g hgl
    unfold World.frozen?
    simp only [e, e2]
  have hgs := Kit.grown_set w' g 2 v'
  have keep : ∀ {v : Value} {n : Nat} {ys : List Value}, w'.ownsRow (g + 1) 3 1 v n ys → (w'.setCell ⟨g, 2, none⟩ v').ownsRow (g + 1) 3 1 v n ys := fun k => own_grown k hgs (fun b hb => by injection hb with hb; omega)
  have hB' : Below w0.heap.size w0 w' := (hB.alloc hB.size o).grown hgrow (by have := hB.size; omega) (fun b hb => by have := (o2.lt b hb).1; omega)
  refine ⟨?_, fun off => ?_, ?_, ?_, ?_, a01, a02.grew (o0.alloc o) hw', a12.grew (o1.alloc o) hw', hB'.setCell (by exact hg) _, by simpa using hgw⟩
  · obtain ⟨b0, b1, b2⟩ := hb
    rw [← hc 0] at b0
    rw [← hc 1] at b1
    rw [← hc 2] at b2
    refine ⟨?_, ?_, ?_⟩
    · rw [World.cell?_setCell_other _ _ _ _ (fun e => by injection e with e1 e2; omega)]; exact b0
    · rw [World.cell?_setCell_other _ _ _ _ (fun e => by injection e with e1 e2; omega)]; exact b1
    · exact World.cell?_setCell_same' _ _ _ (by rw [b2]; rfl)
  · rw [World.frozen?_setCell, hfz]; exact hf off
  · exact keep (World.ownsRow.kept (o0.alloc o) hgrow a02)
  · exact keep (World.ownsRow.kept (o1.alloc o) hgrow a12)
  · exact keep hown
theorem Three.mid0 {w0 w w' : World} {g : Nat} {n0 n1 n2 : Nat} {L0 L1 L2 : List Int} {v0 v1 v2 : Value} {o : Obj} (h : ThreeAt w0 g n0 n1 n2 L0 L1 L2 v0 v1 v2 w) (hgrow : (w.alloc o).grownBy w' v0.ownBlock) :
    (∀ off, w'.cell? ⟨g, off, none⟩ = w.cell? ⟨g, off, none⟩) ∧ ∀ off, w'.frozen? ⟨g, off, none⟩ = false := by
  obtain ⟨hb, hf, o0, o1, o2, a01, a02, a12, hB, hgl⟩ := h
  have hsz : (w.alloc o).heap.size = w.heap.size + 1 := by simp
  have e := hgrow.block g (by omega) (fun e => by have := (o0.lt g e.symm).1; omega)
  refine ⟨fun off => ?_, fun off => ?_⟩
  · rw [World.cell?_of_block e]
    exact World.cell?_alloc_lt w o ⟨g, off, none⟩ hgl
  · have e2 : (w.alloc o).heap[g]? = w.heap[g]? := Below.heap_alloc w o g hgl
    have := hf off
    unfold World.frozen? at this ⊢
    simp only [e, e2]
    exact this
theorem Three.mid1 {w0 w w' : World} {g : Nat} {n0 n1 n2 : Nat} {L0 L1 L2 : List Int} {v0 v1 v2 : Value} {o : Obj} (h : ThreeAt w0 g n0 n1 n2 L0 L1 L2 v0 v1 v2 w) (hgrow : (w.alloc o).grownBy w' v1.ownBlock) :
    (∀ off, w'.cell? ⟨g, off, none⟩ = w.cell? ⟨g, off, none⟩) ∧ ∀ off, w'.frozen? ⟨g, off, none⟩ = false := by
  obtain ⟨hb, hf, o0, o1, o2, a01, a02, a12, hB, hgl⟩ := h
  have hsz : (w.alloc o).heap.size = w.heap.size + 1 := by simp
  have e := hgrow.block g (by omega) (fun e => by have := (o1.lt g e.symm).1; omega)
  refine ⟨fun off => ?_, fun off => ?_⟩
  · rw [World.cell?_of_block e]
    exact World.cell?_alloc_lt w o ⟨g, off, none⟩ hgl
  · have e2 : (w.alloc o).heap[g]? = w.heap[g]? := Below.heap_alloc w o g hgl
    have := hf off
    unfold World.frozen? at this ⊢
    simp only [e, e2]
    exact this
theorem Three.mid2 {w0 w w' : World} {g : Nat} {n0 n1 n2 : Nat} {L0 L1 L2 : List Int} {v0 v1 v2 : Value} {o : Obj} (h : ThreeAt w0 g n0 n1 n2 L0 L1 L2 v0 v1 v2 w) (hgrow : (w.alloc o).grownBy w' v2.ownBlock) :
    (∀ off, w'.cell? ⟨g, off, none⟩ = w.cell? ⟨g, off, none⟩) ∧ ∀ off, w'.frozen? ⟨g, off, none⟩ = false := by
  obtain ⟨hb, hf, o0, o1, o2, a01, a02, a12, hB, hgl⟩ := h
  have hsz : (w.alloc o).heap.size = w.heap.size + 1 := by simp
  have e := hgrow.block g (by omega) (fun e => by have := (o2.lt g e.symm).1; omega)
  refine ⟨fun off => ?_, fun off => ?_⟩
  · rw [World.cell?_of_block e]
    exact World.cell?_alloc_lt w o ⟨g, off, none⟩ hgl
  · have e2 : (w.alloc o).heap[g]? = w.heap[g]? := Below.heap_alloc w o g hgl
    have := hf off
    unfold World.frozen? at this ⊢
    simp only [e, e2]
    exact this
/-- the struct as it is made: three empty rows -/
theorem Three.new (w0 : World) (e : TypeId) : ThreeAt w0 w0.heap.size 0 0 0 [] [] [] (.slice none 0 0) (.slice none 0 0) (.slice none 0 0) (w0.alloc (.cells #[.slice none 0 0, .slice none 0 0, .slice none 0 0] e)) :=
  ⟨Box3.made _ _ _ _ _, Box3.free _ _ _ _ _, own_nil, own_nil, own_nil, .inl rfl, .inl rfl, .inl rfl, (Below.refl _ _).alloc (Nat.le_refl _) _, by simp⟩
/-- its three rows, as they lie behind a store of it into another struct -/
theorem Three.out {w0 w : World} {g n0 n1 n2 s : Nat} {L0 L1 L2 : List Int} {v0 v1 v2 u0 u1 u2 : Value} (h : ThreeAt w0 g n0 n1 n2 L0 L1 L2 v0 v1 v2 w) (hs : s ≤ g) {base : Nat} (hb : base ≤ g) :
    let W := ((w.setCell ⟨s, 0, none⟩ u0).setCell ⟨s, 1, none⟩ u1).setCell ⟨s, 2, none⟩ u2
    W.ownsRow base 3 1 v0 n0 (ints L0) ∧ W.ownsRow base 3 1 v1 n1 (ints L1) ∧ W.ownsRow base 3 1 v2 n2 (ints L2) ∧ Apart v0 v1 ∧ Apart v0 v2 ∧ Apart v1 v2 := by
  obtain ⟨hx, hf, o0, o1, o2, a01, a02, a12, hB, hgl⟩ := h
  have keep : ∀ (v : Value) (n : Nat) (ys : List Value), w.ownsRow (g + 1) 3 1 v n ys → (((w.setCell ⟨s, 0, none⟩ u0).setCell ⟨s, 1, none⟩ u1).setCell ⟨s, 2, none⟩ u2).ownsRow base 3 1 v n ys := fun _ _ _ k =>
    own_base (own_grown (own_grown (own_grown k (Kit.grown_set _ _ _ _) (fun b hb => by injection hb with hb; omega)) (Kit.grown_set _ _ _ _) (fun b hb => by injection hb with hb; omega)) (Kit.grown_set _ _ _ _) (fun b hb => by injection hb with hb; omega)) (by omega)
  exact ⟨keep _ _ _ o0, keep _ _ _ o1, keep _ _ _ o2, a01, a02, a12⟩

end Go.Proofs.Ytpdpkcadolcbmaa
