/- Contracts (Three2). -/
import Derived.Test.YtpdpkcadolcbmaaThree
namespace Go.Proofs.Ytpdpkcadolcbmaa
open Go.RowKit
set_option linter.unusedVariables false

theorem Apart.of_new {v v' : Value} {w w' : World} {base size n n' : Nat} {e e' : TypeId} {ys ys' : List Value} (h : w.ownsRow base e size v n ys) (h' : w'.ownsRow w.heap.size e' size v' n' ys') : Apart v v' := by
  rcases hb : v.ownBlock with _ | g
  · exact .inl hb
  · refine .inr fun e => ?_
    have h1 := (h.lt g hb).2
    rw [hb] at e
    have h2 := (h'.lt g e.symm).1
    omega
theorem Three.put0 {w0 w w' : World} {g n0 n1 n2 n' : Nat} {L0 L1 L2 L' : List Int} {v0 v1 v2 v' : Value} (hg : w0.heap.size ≤ g) (h : ThreeAt w0 g n0 n1 n2 L0 L1 L2 v0 v1 v2 w)
    (hb : Below w.heap.size w w') (hown : w'.ownsRow w.heap.size 3 1 v' n' (ints L')) :
    ThreeAt w0 g n' n1 n2 L' L1 L2 v' v1 v2 (w'.setCell ⟨g, 0, none⟩ v') := by
  obtain ⟨hx, hf, o0, o1, o2, a01, a02, a12, hB, hgl⟩ := h
  have hgw : g < w'.heap.size := by have := hb.size; omega
  have hgs := Kit.grown_set w' g 0 v'
  have keep : ∀ {v : Value} {n : Nat} {ys : List Value}, w'.ownsRow (g + 1) 3 1 v n ys → (w'.setCell ⟨g, 0, none⟩ v').ownsRow (g + 1) 3 1 v n ys := fun k => own_grown k hgs (fun b hb => by injection hb with hb; omega)
  obtain ⟨b0, b1, b2⟩ := hx.below hb hgl
  refine ⟨⟨?_, ?_, ?_⟩, fun off => ?_, ?_, ?_, ?_, (Apart.of_new o1 hown).symm, (Apart.of_new o2 hown).symm, a12, (hB.trans (hb.mono hB.size)).setCell (by exact hg) _, by simpa using hgw⟩
  · exact World.cell?_setCell_same' _ _ _ (by rw [b0]; rfl)
  · rw [World.cell?_setCell_other _ _ _ _ (fun e => by injection e with e1 e2; omega)]; exact b1
  · rw [World.cell?_setCell_other _ _ _ _ (fun e => by injection e with e1 e2; omega)]; exact b2
  · rw [World.frozen?_setCell]
    have e := hb.block g hgl
    have := hf off
    unfold World.frozen? at this ⊢
    simp only [e]
    exact this
  · exact keep (own_base hown (by omega))
  · exact keep (own_below o1 hb)
  · exact keep (own_below o2 hb)
theorem Three.put1 {w0 w w' : World} {g n0 n1 n2 n' : Nat} {L0 L1 L2 L' : List Int} {v0 v1 v2 v' : Value} (hg : w0.heap.size ≤ g) (h : ThreeAt w0 g n0 n1 n2 L0 L1 L2 v0 v1 v2 w)
    (hb : Below w.heap.size w w') (hown : w'.ownsRow w.heap.size 3 1 v' n' (ints L')) :
    ThreeAt w0 g n0 n' n2 L0 L' L2 v0 v' v2 (w'.setCell ⟨g, 1, none⟩ v') := by
  obtain ⟨hx, hf, o0, o1, o2, a01, a02, a12, hB, hgl⟩ := h
  have hgw : g < w'.heap.size := by have := hb.size; omega
  have hgs := Kit.grown_set w' g 1 v'
  have keep : ∀ {v : Value} {n : Nat} {ys : List Value}, w'.ownsRow (g + 1) 3 1 v n ys → (w'.setCell ⟨g, 1, none⟩ v').ownsRow (g + 1) 3 1 v n ys := fun k => own_grown k hgs (fun b hb => by injection hb with hb; omega)
  obtain ⟨b0, b1, b2⟩ := hx.below hb hgl
  refine ⟨⟨?_, ?_, ?_⟩, fun off => ?_, ?_, ?_, ?_, (Apart.of_new o0 hown), a02, (Apart.of_new o2 hown).symm, (hB.trans (hb.mono hB.size)).setCell (by exact hg) _, by simpa using hgw⟩
  · rw [World.cell?_setCell_other _ _ _ _ (fun e => by injection e with e1 e2; omega)]; exact b0
  · exact World.cell?_setCell_same' _ _ _ (by rw [b1]; rfl)
  · rw [World.cell?_setCell_other _ _ _ _ (fun e => by injection e with e1 e2; omega)]; exact b2
  · rw [World.frozen?_setCell]
    have e := hb.block g hgl
    have := hf off
    unfold World.frozen? at this ⊢
    simp only [e]
    exact this
  · exact keep (own_below o0 hb)
  · exact keep (own_base hown (by omega))
  · exact keep (own_below o2 hb)
theorem Three.put2 {w0 w w' : World} {g n0 n1 n2 n' : Nat} {L0 L1 L2 L' : List Int} {v0 v1 v2 v' : Value} (hg : w0.heap.size ≤ g) (h : ThreeAt w0 g n0 n1 n2 L0 L1 L2 v0 v1 v2 w)
    (hb : Below w.heap.size w w') (hown : w'.ownsRow w.heap.size 3 1 v' n' (ints L')) :
    ThreeAt w0 g n0 n1 n' L0 L1 L' v0 v1 v' (w'.setCell ⟨g, 2, none⟩ v') := by
  obtain ⟨hx, hf, o0, o1, o2, a01, a02, a12, hB, hgl⟩ := h
  have hgw : g < w'.heap.size := by have := hb.size; omega
  have hgs := Kit.grown_set w' g 2 v'
  have keep : ∀ {v : Value} {n : Nat} {ys : List Value}, w'.ownsRow (g + 1) 3 1 v n ys → (w'.setCell ⟨g, 2, none⟩ v').ownsRow (g + 1) 3 1 v n ys := fun k => own_grown k hgs (fun b hb => by injection hb with hb; omega)
  obtain ⟨b0, b1, b2⟩ := hx.below hb hgl
  refine ⟨⟨?_, ?_, ?_⟩, fun off => ?_, ?_, ?_, ?_, a01, (Apart.of_new o0 hown), (Apart.of_new o1 hown), (hB.trans (hb.mono hB.size)).setCell (by exact hg) _, by simpa using hgw⟩
  · rw [World.cell?_setCell_other _ _ _ _ (fun e => by injection e with e1 e2; omega)]; exact b0
  · rw [World.cell?_setCell_other _ _ _ _ (fun e => by injection e with e1 e2; omega)]; exact b1
  · exact World.cell?_setCell_same' _ _ _ (by rw [b2]; rfl)
  · rw [World.frozen?_setCell]
    have e := hb.block g hgl
    have := hf off
    unfold World.frozen? at this ⊢
    simp only [e]
    exact this
  · exact keep (own_below o0 hb)
  · exact keep (own_below o1 hb)
  · exact keep (own_base hown (by omega))

end Go.Proofs.Ytpdpkcadolcbmaa
