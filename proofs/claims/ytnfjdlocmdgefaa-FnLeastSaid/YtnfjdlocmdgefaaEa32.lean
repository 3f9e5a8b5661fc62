/- Texts of one claim laid into one file, in build order: HarB, CoD. -/
import Derived.Test.YtnfjdlocmdgefaaEa1
import Derived.Test.YtnfjdlocmdgefaaEa11
import Derived.Test.YtnfjdlocmdgefaaEa12
import Derived.Test.YtnfjdlocmdgefaaEa28
import Derived.Test.YtnfjdlocmdgefaaEa31
import Derived.Test.YtnfjdlocmdgefaaEa4
import Derived.Outline
/- Contracts (HarB). -/
namespace Go.Proofs.Ytnfjdlocmdgefaa
open Go.RowKit
set_option linter.unusedVariables false

/-- three rows of the call's own, apart -/
def OwnC (w : World) (base : Nat) (A0 A1 A2 : Option Addr) (c0 c1 c2 : Nat) (k : Co) : Prop :=
  w.ownsRow base 3 1 (.slice A0 k.d.length c0) k.d.length (ints k.d) ∧ w.ownsRow base 3 1 (.slice A1 k.i.length c1) k.i.length (ints k.i) ∧ w.ownsRow base 3 1 (.slice A2 k.r.length c2) k.r.length (ints k.r) ∧
  Apart (.slice A0 k.d.length c0) (.slice A1 k.i.length c1) ∧ Apart (.slice A0 k.d.length c0) (.slice A2 k.r.length c2) ∧ Apart (.slice A1 k.i.length c1) (.slice A2 k.r.length c2)
theorem OwnC.below {w w' : World} {base : Nat} {A0 A1 A2 : Option Addr} {c0 c1 c2 : Nat} {k : Co} (h : OwnC w base A0 A1 A2 c0 c1 c2 k) (hb : Below w.heap.size w w') : OwnC w' base A0 A1 A2 c0 c1 c2 k :=
  ⟨own_below h.1 hb, own_below h.2.1 hb, own_below h.2.2.1 hb, h.2.2.2⟩
/-- the old blocks but those of three rows stand as they did -/
def Only3 (v0 v1 v2 : Value) (w w' : World) : Prop := ∀ i, i < w.heap.size → v0.ownBlock ≠ some i → v1.ownBlock ≠ some i → v2.ownBlock ≠ some i → w'.heap[i]? = w.heap[i]?
theorem OwnC.lt {w : World} {base : Nat} {A0 A1 A2 : Option Addr} {c0 c1 c2 : Nat} {k : Co} (h : OwnC w base A0 A1 A2 c0 c1 c2 k) {s : Nat} (hs : w.heap.size ≤ s) :
    (Value.slice A0 k.d.length c0).ownBlock ≠ some s ∧ (Value.slice A1 k.i.length c1).ownBlock ≠ some s ∧ (Value.slice A2 k.r.length c2).ownBlock ≠ some s :=
  ⟨fun e => by have := (h.1.lt s e).2; omega, fun e => by have := (h.2.1.lt s e).2; omega, fun e => by have := (h.2.2.1.lt s e).2; omega⟩
theorem Box3.only {w w' : World} {g : Nat} {u0 u1 u2 v0 v1 v2 : Value} (h : Box3 w g v0 v1 v2) (ho : Only3 u0 u1 u2 w w') (hl : g < w.heap.size) (hn : u0.ownBlock ≠ some g ∧ u1.ownBlock ≠ some g ∧ u2.ownBlock ≠ some g) : Box3 w' g v0 v1 v2 := by
  have e := ho g hl hn.1 hn.2.1 hn.2.2
  exact ⟨(World.cell?_of_block (a := ⟨g, 0, none⟩) e).trans h.1, (World.cell?_of_block (a := ⟨g, 1, none⟩) e).trans h.2.1, (World.cell?_of_block (a := ⟨g, 2, none⟩) e).trans h.2.2⟩
theorem Box3.grown {w w' : World} {g : Nat} {r : Option Nat} {v0 v1 v2 : Value} (h : Box3 w g v0 v1 v2) (hg : w.grownBy w' r) (hl : g < w.heap.size) (hr : ∀ b, r = some b → b ≠ g) : Box3 w' g v0 v1 v2 := by
  have e := hg.block g hl (fun e => hr g e.symm rfl)
  exact ⟨(World.cell?_of_block (a := ⟨g, 0, none⟩) e).trans h.1, (World.cell?_of_block (a := ⟨g, 1, none⟩) e).trans h.2.1, (World.cell?_of_block (a := ⟨g, 2, none⟩) e).trans h.2.2⟩

end Go.Proofs.Ytnfjdlocmdgefaa

/- Contracts (CoD). -/
namespace Go.Proofs.Ytnfjdlocmdgefaa
open Go.RowKit
set_option linter.unusedVariables false

/-- a variable of three rows in block g, the result's variable in block s, a cursor in block B -/
def CoD (w0 : World) (B s g : Nat) (k : Code) (h0 h1 h2 c0 c1 c2 : Nat) (L0 L1 L2 : List Int) (w : World) : Prop :=
  Box3 w s (.slice none 0 0) (.slice none 0 0) (.slice none 0 0) ∧ (∀ off, w.frozen? ⟨s, off, none⟩ = false) ∧ Box3 w g (.slice (some ⟨h0, 0, none⟩) 6 c0) (.slice (some ⟨h1, 0, none⟩) 6 c1) (.slice (some ⟨h2, 0, none⟩) 36 c2) ∧ (∀ off, w.frozen? ⟨g, off, none⟩ = false) ∧
  w.ownsRow w0.heap.size 3 1 (.slice (some ⟨h0, 0, none⟩) 6 c0) 6 (ints L0) ∧ w.ownsRow w0.heap.size 3 1 (.slice (some ⟨h1, 0, none⟩) 6 c1) 6 (ints L1) ∧ w.ownsRow w0.heap.size 3 1 (.slice (some ⟨h2, 0, none⟩) 36 c2) 36 (ints L2) ∧ (h0 ≠ h1 ∧ h0 ≠ h2 ∧ h1 ≠ h2) ∧
  CurX w B k ∧ w0.grownBy w (some B) ∧ (B < w0.heap.size ∧ w0.heap.size ≤ s ∧ w0.heap.size ≤ g ∧ s ≠ g ∧ s < w.heap.size ∧ g < w.heap.size) ∧ (∀ b, b = h0 ∨ b = h1 ∨ b = h2 → b ≠ s ∧ b ≠ g)
theorem free_kept {w w' : World} {g : Nat} {r : Option Nat} (hg : w.grownBy w' r) (hl : g < w.heap.size) (hr : ∀ b, r = some b → b ≠ g) (h : ∀ off, w.frozen? ⟨g, off, none⟩ = false) (off : Nat) : w'.frozen? ⟨g, off, none⟩ = false := by
  have e := hg.block g hl (fun e => hr g e.symm rfl)
  have := h off
  unfold World.frozen? at this ⊢
  simp only [e]
  exact this
/-- the cursor has moved -/
theorem CoD.cur {w0 w : World} {B s g : Nat} {k : Code} {h0 h1 h2 c0 c1 c2 : Nat} {L0 L1 L2 : List Int} {w' : World} (h : CoD w0 B s g k h0 h1 h2 c0 c1 c2 L0 L1 L2 w) (hg : w.grownBy w' (some B)) (hc' : CurX w' B k) : CoD w0 B s g k h0 h1 h2 c0 c1 c2 L0 L1 L2 w' := by
  obtain ⟨hx, hf, hy, hfy, o0, o1, o2, hh, hc, hG, ⟨hB, hs0, hg0, hsg, hsl, hgl⟩, hn⟩ := h
  have l0 := o0.lt h0 rfl
  have l1 := o1.lt h1 rfl
  have l2 := o2.lt h2 rfl
  exact ⟨hx.grown hg hsl (fun b e => by injection e with e; omega), free_kept hg hsl (fun b e => by injection e with e; omega) hf, hy.grown hg hgl (fun b e => by injection e with e; omega), free_kept hg hgl (fun b e => by injection e with e; omega) hfy,
    Kit.keptRow o0 hB hg, Kit.keptRow o1 hB hg, Kit.keptRow o2 hB hg, hh, hc', Kit.grown_trans hG hg, ⟨hB, hs0, hg0, hsg, Nat.lt_of_lt_of_le hsl hg.size, Nat.lt_of_lt_of_le hgl hg.size⟩, hn⟩
theorem CoD.cursor {w0 w : World} {B s g : Nat} {k : Code} {h0 h1 h2 c0 c1 c2 : Nat} {L0 L1 L2 : List Int} (h : CoD w0 B s g k h0 h1 h2 c0 c1 c2 L0 L1 L2 w) : CurX w B k := h.2.2.2.2.2.2.2.2.1
theorem CoD.drew {w0 w : World} {B s g : Nat} {k : Code} {h0 h1 h2 c0 c1 c2 : Nat} {L0 L1 L2 : List Int} (h : CoD w0 B s g k h0 h1 h2 c0 c1 c2 L0 L1 L2 w) : CoD w0 B s g k h0 h1 h2 c0 c1 c2 L0 L1 L2 w.drew := h.cur (Kit.grown_drewN w 1 _) h.cursor
theorem CoD.alloc {w0 w : World} {B s g : Nat} {k : Code} {h0 h1 h2 c0 c1 c2 : Nat} {L0 L1 L2 : List Int} (h : CoD w0 B s g k h0 h1 h2 c0 c1 c2 L0 L1 L2 w) (o : Obj) : CoD w0 B s g k h0 h1 h2 c0 c1 c2 L0 L1 L2 (w.alloc o) := h.cur (Kit.grown_alloc w o _) (h.cursor.alloc o)
/-- the variable's three cells -/
theorem CoD.held {w0 w : World} {B s g : Nat} {k : Code} {h0 h1 h2 c0 c1 c2 : Nat} {L0 L1 L2 : List Int} (h : CoD w0 B s g k h0 h1 h2 c0 c1 c2 L0 L1 L2 w) : w.cell? ⟨g, 0, none⟩ = some (.slice (some ⟨h0, 0, none⟩) 6 c0) ∧ w.cell? ⟨g, 1, none⟩ = some (.slice (some ⟨h1, 0, none⟩) 6 c1) ∧ w.cell? ⟨g, 2, none⟩ = some (.slice (some ⟨h2, 0, none⟩) 36 c2) := h.2.2.1
theorem CoD.len {w0 w : World} {B s g : Nat} {k : Code} {h0 h1 h2 c0 c1 c2 : Nat} {L0 L1 L2 : List Int} (h : CoD w0 B s g k h0 h1 h2 c0 c1 c2 L0 L1 L2 w) : L0.length = 6 ∧ L1.length = 6 ∧ L2.length = 36 := by
  obtain ⟨hx, hf, hy, hfy, o0, o1, o2, h⟩ := h
  exact ⟨by have := o0.1; rwa [ints_length] at this, by have := o1.1; rwa [ints_length] at this, by have := o2.1; rwa [ints_length] at this⟩
theorem CoD.cell0 {w0 w : World} {B s g : Nat} {k : Code} {h0 h1 h2 c0 c1 c2 : Nat} {L0 L1 L2 : List Int} (h : CoD w0 B s g k h0 h1 h2 c0 c1 c2 L0 L1 L2 w) {j : Nat} (hj : j < 6) : w.cell? ⟨h0, j, none⟩ = some (.int .i64 (Zs.at L0 j)) ∧ w.frozen? ⟨h0, j, none⟩ = false := ⟨own_int h.2.2.2.2.1 (by rw [h.len.1]; exact hj), h.2.2.2.2.1.frozenAt j⟩
theorem CoD.cell1 {w0 w : World} {B s g : Nat} {k : Code} {h0 h1 h2 c0 c1 c2 : Nat} {L0 L1 L2 : List Int} (h : CoD w0 B s g k h0 h1 h2 c0 c1 c2 L0 L1 L2 w) {j : Nat} (hj : j < 6) : w.cell? ⟨h1, j, none⟩ = some (.int .i64 (Zs.at L1 j)) ∧ w.frozen? ⟨h1, j, none⟩ = false := ⟨own_int h.2.2.2.2.2.1 (by rw [h.len.2.1]; exact hj), h.2.2.2.2.2.1.frozenAt j⟩
theorem CoD.cell2 {w0 w : World} {B s g : Nat} {k : Code} {h0 h1 h2 c0 c1 c2 : Nat} {L0 L1 L2 : List Int} (h : CoD w0 B s g k h0 h1 h2 c0 c1 c2 L0 L1 L2 w) {j : Nat} (hj : j < 36) : w.cell? ⟨h2, j, none⟩ = some (.int .i64 (Zs.at L2 j)) ∧ w.frozen? ⟨h2, j, none⟩ = false := ⟨own_int h.2.2.2.2.2.2.1 (by rw [h.len.2.2]; exact hj), h.2.2.2.2.2.2.1.frozenAt j⟩
theorem CoD.put0 {w0 w : World} {B s g : Nat} {k : Code} {h0 h1 h2 c0 c1 c2 : Nat} {L0 L1 L2 : List Int} (h : CoD w0 B s g k h0 h1 h2 c0 c1 c2 L0 L1 L2 w) (p : Nat) (z : Int) : CoD w0 B s g k h0 h1 h2 c0 c1 c2 (L0.set p z) L1 L2 (w.setCell ⟨h0, p, none⟩ (.int .i64 z)) := by
  obtain ⟨hx, hf, hy, hfy, o0, o1, o2, ⟨n01, n02, n12⟩, hc, hG, ⟨hB, hs0, hg0, hsg, hsl, hgl⟩, hn⟩ := h
  have hs := o0.stored p (.int .i64 z)
  have hl := (o0.lt h0 rfl)
  have e1 : h0 ≠ s ∧ h0 ≠ g := hn h0 (by simp)
  refine ⟨hx.grown hs.2 hsl (fun b e => by injection e with e; omega), free_kept hs.2 hsl (fun b e => by injection e with e; omega) hf, hy.grown hs.2 hgl (fun b e => by injection e with e; omega), free_kept hs.2 hgl (fun b e => by injection e with e; omega) hfy, ?_, ?_, ?_, ⟨n01, n02, n12⟩, hc.kept hs.2 (fun b e => by injection e with e; omega), hG.andThen hs.2 (fun j hj => .inl (by injection hj with hj; omega)), ⟨hB, hs0, hg0, hsg, Nat.lt_of_lt_of_le hsl hs.2.size, Nat.lt_of_lt_of_le hgl hs.2.size⟩, hn⟩
  · exact (by have := hs.1; rw [ints_set] at this; exact this)
  · exact World.ownsRow.kept o1 hs.2 (.inr (by simp [Value.ownBlock]; omega))
  · exact World.ownsRow.kept o2 hs.2 (.inr (by simp [Value.ownBlock]; omega))
theorem CoD.put1 {w0 w : World} {B s g : Nat} {k : Code} {h0 h1 h2 c0 c1 c2 : Nat} {L0 L1 L2 : List Int} (h : CoD w0 B s g k h0 h1 h2 c0 c1 c2 L0 L1 L2 w) (p : Nat) (z : Int) : CoD w0 B s g k h0 h1 h2 c0 c1 c2 L0 (L1.set p z) L2 (w.setCell ⟨h1, p, none⟩ (.int .i64 z)) := by
  obtain ⟨hx, hf, hy, hfy, o0, o1, o2, ⟨n01, n02, n12⟩, hc, hG, ⟨hB, hs0, hg0, hsg, hsl, hgl⟩, hn⟩ := h
  have hs := o1.stored p (.int .i64 z)
  have hl := (o1.lt h1 rfl)
  have e1 : h1 ≠ s ∧ h1 ≠ g := hn h1 (by simp)
  refine ⟨hx.grown hs.2 hsl (fun b e => by injection e with e; omega), free_kept hs.2 hsl (fun b e => by injection e with e; omega) hf, hy.grown hs.2 hgl (fun b e => by injection e with e; omega), free_kept hs.2 hgl (fun b e => by injection e with e; omega) hfy, ?_, ?_, ?_, ⟨n01, n02, n12⟩, hc.kept hs.2 (fun b e => by injection e with e; omega), hG.andThen hs.2 (fun j hj => .inl (by injection hj with hj; omega)), ⟨hB, hs0, hg0, hsg, Nat.lt_of_lt_of_le hsl hs.2.size, Nat.lt_of_lt_of_le hgl hs.2.size⟩, hn⟩
  · exact World.ownsRow.kept o0 hs.2 (.inr (by simp [Value.ownBlock]; omega))
  · exact (by have := hs.1; rw [ints_set] at this; exact this)
  · exact World.ownsRow.kept o2 hs.2 (.inr (by simp [Value.ownBlock]; omega))
theorem CoD.put2 {w0 w : World} {B s g : Nat} {k : Code} {h0 h1 h2 c0 c1 c2 : Nat} {L0 L1 L2 : List Int} (h : CoD w0 B s g k h0 h1 h2 c0 c1 c2 L0 L1 L2 w) (p : Nat) (z : Int) : CoD w0 B s g k h0 h1 h2 c0 c1 c2 L0 L1 (L2.set p z) (w.setCell ⟨h2, p, none⟩ (.int .i64 z)) := by
  obtain ⟨hx, hf, hy, hfy, o0, o1, o2, ⟨n01, n02, n12⟩, hc, hG, ⟨hB, hs0, hg0, hsg, hsl, hgl⟩, hn⟩ := h
  have hs := o2.stored p (.int .i64 z)
  have hl := (o2.lt h2 rfl)
  have e1 : h2 ≠ s ∧ h2 ≠ g := hn h2 (by simp)
  refine ⟨hx.grown hs.2 hsl (fun b e => by injection e with e; omega), free_kept hs.2 hsl (fun b e => by injection e with e; omega) hf, hy.grown hs.2 hgl (fun b e => by injection e with e; omega), free_kept hs.2 hgl (fun b e => by injection e with e; omega) hfy, ?_, ?_, ?_, ⟨n01, n02, n12⟩, hc.kept hs.2 (fun b e => by injection e with e; omega), hG.andThen hs.2 (fun j hj => .inl (by injection hj with hj; omega)), ⟨hB, hs0, hg0, hsg, Nat.lt_of_lt_of_le hsl hs.2.size, Nat.lt_of_lt_of_le hgl hs.2.size⟩, hn⟩
  · exact World.ownsRow.kept o0 hs.2 (.inr (by simp [Value.ownBlock]; omega))
  · exact World.ownsRow.kept o1 hs.2 (.inr (by simp [Value.ownBlock]; omega))
  · exact (by have := hs.1; rw [ints_set] at this; exact this)
/-- a cost of the call's own, drawn -/
def CostD (w : World) (B : Nat) (k : Code) (e : Ending) (w' : World) : Prop :=
  ∃ h0 h1 h2 c0 c1 c2 L0 L1 L2, e = .returned (.agg #[.slice (some ⟨h0, 0, none⟩) 6 c0, .slice (some ⟨h1, 0, none⟩) 6 c1, .slice (some ⟨h2, 0, none⟩) 36 c2]) ∧ w'.ownsRow w.heap.size 3 1 (.slice (some ⟨h0, 0, none⟩) 6 c0) 6 (ints L0) ∧ w'.ownsRow w.heap.size 3 1 (.slice (some ⟨h1, 0, none⟩) 6 c1) 6 (ints L1) ∧ w'.ownsRow w.heap.size 3 1 (.slice (some ⟨h2, 0, none⟩) 36 c2) 36 (ints L2) ∧ (h0 ≠ h1 ∧ h0 ≠ h2 ∧ h1 ≠ h2) ∧ CurX w' B k ∧ w.grownBy w' (some B)
theorem CoD.done {w0 w : World} {B s g : Nat} {k : Code} {h0 h1 h2 c0 c1 c2 : Nat} {L0 L1 L2 : List Int} (h : CoD w0 B s g k h0 h1 h2 c0 c1 c2 L0 L1 L2 w) (u0 u1 u2 : Value) : CostD w0 B k (.returned (.agg #[.slice (some ⟨h0, 0, none⟩) 6 c0, .slice (some ⟨h1, 0, none⟩) 6 c1, .slice (some ⟨h2, 0, none⟩) 36 c2])) (((w.setCell ⟨s, 0, none⟩ u0).setCell ⟨s, 1, none⟩ u1).setCell ⟨s, 2, none⟩ u2) := by
  obtain ⟨hx, hf, hy, hfy, o0, o1, o2, hh, hc, hG, ⟨hB, hs0, hg0, hsg, hsl, hgl⟩, hn⟩ := h
  have hs : w.grownBy (((w.setCell ⟨s, 0, none⟩ u0).setCell ⟨s, 1, none⟩ u1).setCell ⟨s, 2, none⟩ u2) (some s) := Kit.grown_then_set (Kit.grown_then_set (Kit.grown_set _ _ _ _) _ _) _ _
  have e0 := hn h0 (by simp)
  have e1 := hn h1 (by simp)
  have e2 := hn h2 (by simp)
  exact ⟨h0, h1, h2, c0, c1, c2, L0, L1, L2, rfl, World.ownsRow.kept o0 hs (.inr (by simp [Value.ownBlock]; omega)), World.ownsRow.kept o1 hs (.inr (by simp [Value.ownBlock]; omega)), World.ownsRow.kept o2 hs (.inr (by simp [Value.ownBlock]; omega)), hh, hc.kept hs (fun b e => by injection e with e; omega), hG.andThen hs (fun j hj => .inl (by injection hj with hj; omega))⟩
/-- the variable is made: rows of the call's own, new since the world wz -/
theorem CoD.made {w0 wz w1 : World} {B s : Nat} {k : Code} {h0 h1 h2 c0 c1 c2 : Nat} {L0 L1 L2 : List Int} (hc : CurX w1 B k) (hG : w0.grownBy w1 (some B)) (hB : B < w0.heap.size) (hs0 : w0.heap.size ≤ s) (hsz : s < wz.heap.size)
    (hx : Box3 w1 s (.slice none 0 0) (.slice none 0 0) (.slice none 0 0)) (hf : ∀ off, w1.frozen? ⟨s, off, none⟩ = false) (hsl : s < w1.heap.size)
    (o0 : w1.ownsRow wz.heap.size 3 1 (.slice (some ⟨h0, 0, none⟩) 6 c0) 6 (ints L0)) (o1 : w1.ownsRow wz.heap.size 3 1 (.slice (some ⟨h1, 0, none⟩) 6 c1) 6 (ints L1)) (o2 : w1.ownsRow wz.heap.size 3 1 (.slice (some ⟨h2, 0, none⟩) 36 c2) 36 (ints L2)) (hh : h0 ≠ h1 ∧ h0 ≠ h2 ∧ h1 ≠ h2) :
    CoD w0 B s w1.heap.size k h0 h1 h2 c0 c1 c2 L0 L1 L2 (w1.alloc (.cells #[.slice (some ⟨h0, 0, none⟩) 6 c0, .slice (some ⟨h1, 0, none⟩) 6 c1, .slice (some ⟨h2, 0, none⟩) 36 c2] 27)) := by
  have l0 := o0.lt h0 rfl
  have l1 := o1.lt h1 rfl
  have l2 := o2.lt h2 rfl
  exact ⟨hx.alloc hsl _, free_kept (World.grownBy_alloc w1 _ none) hsl (fun b e => by cases e) hf, Box3.made _ _ _ _ _, fun off => by simp, own_base (o0.alloc _) (by omega), own_base (o1.alloc _) (by omega), own_base (o2.alloc _) (by omega), hh, hc.alloc _, Kit.grown_trans hG (Kit.grown_alloc _ _ _), ⟨hB, hs0, hG.size, by omega, by simp; omega, by simp⟩, fun b hb => by rcases hb with rfl | rfl | rfl <;> omega⟩
theorem own_h {w : World} {base n : Nat} {e : TypeId} {A : Option Addr} {c : Nat} {ys : List Value} (h : w.ownsRow base e 1 (.slice A n c) n ys) (hn : 0 < n) : ∃ g, A = some ⟨g, 0, none⟩ := by
  obtain ⟨g, e, _⟩ := own_form h hn
  exact ⟨g, e⟩
theorem Apart.ne {a b n m c d : Nat} (h : Apart (.slice (some ⟨a, 0, none⟩) n c) (.slice (some ⟨b, 0, none⟩) m d)) : a ≠ b := by
  rcases h with h | h
  · simp [Value.ownBlock] at h
  · intro e; exact h (by rw [e]; rfl)
theorem Kit.grown_of_below {w w' : World} (h : Below w.heap.size w w') : w.grownBy w' none := ⟨h.os, h.tape, h.output, h.size, fun k hk _ => h.block k hk⟩

end Go.Proofs.Ytnfjdlocmdgefaa
