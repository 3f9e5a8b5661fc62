/- Texts of one claim laid into one file, in build order: CoSm, HarB, CoD, CostD, StepF, AnyCD, DrawCo. -/
import Derived.Test.YtlndaflhlkbedaaMc1
import Derived.Test.YtlndaflhlkbedaaMg12
import Derived.Deep.RegionHeld3
import Derived.Outline
import Derived.StillTailTactics
import Derived.Test.YtlndaflhlkbedaaRows
/- Contracts (CoSm). -/
namespace Go.Proofs.Ytlndaflhlkbedaa
open Go.RowKit
set_option linter.unusedVariables false

def Co.same (a b : Co) : Bool := decide (a.d = b.d) && decide (a.i = b.i) && decide (a.r = b.r)

end Go.Proofs.Ytlndaflhlkbedaa

/- Contracts (HarB). -/
namespace Go.Proofs.Ytlndaflhlkbedaa
open Go.RowKit
set_option linter.unusedVariables false

/-- three rows of the call's own, apart -/
def OwnC (w : World) (base : Nat) (A0 A1 A2 : Option Addr) (c0 c1 c2 : Nat) (k : Co) : Prop :=
  w.ownsRow base 3 1 (.slice A0 k.d.length c0) k.d.length (ints k.d) ∧ w.ownsRow base 3 1 (.slice A1 k.i.length c1) k.i.length (ints k.i) ∧ w.ownsRow base 3 1 (.slice A2 k.r.length c2) k.r.length (ints k.r) ∧
  Apart (.slice A0 k.d.length c0) (.slice A1 k.i.length c1) ∧ Apart (.slice A0 k.d.length c0) (.slice A2 k.r.length c2) ∧ Apart (.slice A1 k.i.length c1) (.slice A2 k.r.length c2)
theorem OwnC.to_in {w : World} {base : Nat} {A0 A1 A2 : Option Addr} {c0 c1 c2 : Nat} {k : Co} (h : OwnC w base A0 A1 A2 c0 c1 c2 k) : CoIn w w.heap.size A0 A1 A2 k.d.length k.i.length k.r.length k := ⟨IntIn.of_own h.1, IntIn.of_own h.2.1, IntIn.of_own h.2.2.1⟩
theorem OwnC.below {w w' : World} {base : Nat} {A0 A1 A2 : Option Addr} {c0 c1 c2 : Nat} {k : Co} (h : OwnC w base A0 A1 A2 c0 c1 c2 k) (hb : Below w.heap.size w w') : OwnC w' base A0 A1 A2 c0 c1 c2 k :=
  ⟨own_below h.1 hb, own_below h.2.1 hb, own_below h.2.2.1 hb, h.2.2.2⟩
/-- the old blocks but those of three rows stand as they did -/
def Only3 (v0 v1 v2 : Value) (w w' : World) : Prop := ∀ i, i < w.heap.size → v0.ownBlock ≠ some i → v1.ownBlock ≠ some i → v2.ownBlock ≠ some i → w'.heap[i]? = w.heap[i]?
theorem OwnC.lt {w : World} {base : Nat} {A0 A1 A2 : Option Addr} {c0 c1 c2 : Nat} {k : Co} (h : OwnC w base A0 A1 A2 c0 c1 c2 k) {s : Nat} (hs : w.heap.size ≤ s) :
    (Value.slice A0 k.d.length c0).ownBlock ≠ some s ∧ (Value.slice A1 k.i.length c1).ownBlock ≠ some s ∧ (Value.slice A2 k.r.length c2).ownBlock ≠ some s :=
  ⟨fun e => by have := (h.1.lt s e).2; omega, fun e => by have := (h.2.1.lt s e).2; omega, fun e => by have := (h.2.2.1.lt s e).2; omega⟩
theorem Box3.only {w w' : World} {g : Nat} {u0 u1 u2 v0 v1 v2 : Value} (h : Box3 w g v0 v1 v2) (ho : Only3 u0 u1 u2 w w') (hl : g < w.heap.size) (hn : u0.ownBlock ≠ some g ∧ u1.ownBlock ≠ some g ∧ u2.ownBlock ≠ some g) : Box3 w' g v0 v1 v2 := by
  have e := ho g hl hn.1 hn.2.1 hn.2.2
  exact ⟨(World.cell?_of_block (a := ⟨g, 0, none⟩) e).trans h.1, (World.cell?_of_block (a := ⟨g, 1, none⟩) e).trans h.2.1, (World.cell?_of_block (a := ⟨g, 2, none⟩) e).trans h.2.2⟩
def Co.marks (k0 : Int) (k : Co) : Co := ⟨Zs.marks k0 k.d.length, Zs.marks (k0 + k.d.length) k.i.length, Zs.marks (k0 + k.d.length + k.i.length) k.r.length⟩
theorem Co.marks_d (k0 : Int) (k : Co) : (Co.marks k0 k).d.length = k.d.length := Zs.marks_length _ _
theorem Co.marks_i (k0 : Int) (k : Co) : (Co.marks k0 k).i.length = k.i.length := Zs.marks_length _ _
theorem Co.marks_r (k0 : Int) (k : Co) : (Co.marks k0 k).r.length = k.r.length := Zs.marks_length _ _
theorem Box3.grown {w w' : World} {g : Nat} {r : Option Nat} {v0 v1 v2 : Value} (h : Box3 w g v0 v1 v2) (hg : w.grownBy w' r) (hl : g < w.heap.size) (hr : ∀ b, r = some b → b ≠ g) : Box3 w' g v0 v1 v2 := by
  have e := hg.block g hl (fun e => hr g e.symm rfl)
  exact ⟨(World.cell?_of_block (a := ⟨g, 0, none⟩) e).trans h.1, (World.cell?_of_block (a := ⟨g, 1, none⟩) e).trans h.2.1, (World.cell?_of_block (a := ⟨g, 2, none⟩) e).trans h.2.2⟩

end Go.Proofs.Ytlndaflhlkbedaa

/- Contracts (CoD). -/
namespace Go.Proofs.Ytlndaflhlkbedaa
open Go.RowKit
set_option linter.unusedVariables false

/-- a variable of three rows in block g, the result's variable in block s, a cursor in block B -/
def CoD (w0 : World) (B s g : Nat) (k : Code) (h0 h1 h2 c0 c1 c2 : Nat) (L0 L1 L2 : List Int) (w : World) : Prop :=
  Box3 w s (.slice none 0 0) (.slice none 0 0) (.slice none 0 0) ∧ (∀ off, w.frozen? ⟨s, off, none⟩ = false) ∧ Box3 w g (.slice (some ⟨h0, 0, none⟩) 6 c0) (.slice (some ⟨h1, 0, none⟩) 6 c1) (.slice (some ⟨h2, 0, none⟩) 36 c2) ∧ (∀ off, w.frozen? ⟨g, off, none⟩ = false) ∧
  w.ownsRow w0.heap.size 3 1 (.slice (some ⟨h0, 0, none⟩) 6 c0) 6 (ints L0) ∧ w.ownsRow w0.heap.size 3 1 (.slice (some ⟨h1, 0, none⟩) 6 c1) 6 (ints L1) ∧ w.ownsRow w0.heap.size 3 1 (.slice (some ⟨h2, 0, none⟩) 36 c2) 36 (ints L2) ∧ (h0 ≠ h1 ∧ h0 ≠ h2 ∧ h1 ≠ h2) ∧
  CurX w B k ∧ w0.grownBy w (some B) ∧ (B < w0.heap.size ∧ w0.heap.size ≤ s ∧ w0.heap.size ≤ g ∧ s ≠ g ∧ s < w.heap.size ∧ g < w.heap.size) ∧ (∀ b, b = h0 ∨ b = h1 ∨ b = h2 → b ≠ s ∧ b ≠ g)
theorem free_kept {w w' : World} {g : Nat} {r : Option Nat} (hg : w.grownBy w' r) (hl : g < w.heap.size) (hr : ∀ b, r = some b → b ≠ g) (h : ∀ off, w.frozen? ⟨g, off, none⟩ = false) (off : Nat) : w'.frozen? ⟨g, off, none⟩ = false := by
  have e := hg.block g hl (fun e => hr g e.symm rfl)
  have := h off
  unfold World.frozen? at this ⊢
  simp only [e]
  exact this
/-- the cursor has moved -/
theorem CoD.cur {w0 w : World} {B s g : Nat} {k : Code} {h0 h1 h2 c0 c1 c2 : Nat} {L0 L1 L2 : List Int} {w' : World} (h : CoD w0 B s g k h0 h1 h2 c0 c1 c2 L0 L1 L2 w) (hg : w.grownBy w' (some B)) (hc' : CurX w' B k) : CoD w0 B s g k h0 h1 h2 c0 c1 c2 L0 L1 L2 w' := by
  obtain ⟨hx, hf, hy, hfy, o0, o1, o2, hh, hc, hG, ⟨hB, hs0, hg0, hsg, hsl, hgl⟩, hn⟩ := h
  have l0 := o0.lt h0 rfl
  have l1 := o1.lt h1 rfl
  have l2 := o2.lt h2 rfl
  exact ⟨hx.grown hg hsl (fun b e => by injection e with e; omega), free_kept hg hsl (fun b e => by injection e with e; omega) hf, hy.grown hg hgl (fun b e => by injection e with e; omega), free_kept hg hgl (fun b e => by injection e with e; omega) hfy,
    Kit.keptRow o0 hB hg, Kit.keptRow o1 hB hg, Kit.keptRow o2 hB hg, hh, hc', Kit.grown_trans hG hg, ⟨hB, hs0, hg0, hsg, Nat.lt_of_lt_of_le hsl hg.size, Nat.lt_of_lt_of_le hgl hg.size⟩, hn⟩
theorem CoD.cursor {w0 w : World} {B s g : Nat} {k : Code} {h0 h1 h2 c0 c1 c2 : Nat} {L0 L1 L2 : List Int} (h : CoD w0 B s g k h0 h1 h2 c0 c1 c2 L0 L1 L2 w) : CurX w B k := h.2.2.2.2.2.2.2.2.1
theorem CoD.drew {w0 w : World} {B s g : Nat} {k : Code} {h0 h1 h2 c0 c1 c2 : Nat} {L0 L1 L2 : List Int} (h : CoD w0 B s g k h0 h1 h2 c0 c1 c2 L0 L1 L2 w) : CoD w0 B s g k h0 h1 h2 c0 c1 c2 L0 L1 L2 w.drew := h.cur (Kit.grown_drewN w 1 _) h.cursor
theorem CoD.alloc {w0 w : World} {B s g : Nat} {k : Code} {h0 h1 h2 c0 c1 c2 : Nat} {L0 L1 L2 : List Int} (h : CoD w0 B s g k h0 h1 h2 c0 c1 c2 L0 L1 L2 w) (o : Obj) : CoD w0 B s g k h0 h1 h2 c0 c1 c2 L0 L1 L2 (w.alloc o) := h.cur (Kit.grown_alloc w o _) (h.cursor.alloc o)
/-- the variable's three cells -/
theorem CoD.held {w0 w : World} {B s g : Nat} {k : Code} {h0 h1 h2 c0 c1 c2 : Nat} {L0 L1 L2 : List Int} (h : CoD w0 B s g k h0 h1 h2 c0 c1 c2 L0 L1 L2 w) : w.cell? ⟨g, 0, none⟩ = some (.slice (some ⟨h0, 0, none⟩) 6 c0) ∧ w.cell? ⟨g, 1, none⟩ = some (.slice (some ⟨h1, 0, none⟩) 6 c1) ∧ w.cell? ⟨g, 2, none⟩ = some (.slice (some ⟨h2, 0, none⟩) 36 c2) := h.2.2.1
theorem CoD.len {w0 w : World} {B s g : Nat} {k : Code} {h0 h1 h2 c0 c1 c2 : Nat} {L0 L1 L2 : List Int} (h : CoD w0 B s g k h0 h1 h2 c0 c1 c2 L0 L1 L2 w) : L0.length = 6 ∧ L1.length = 6 ∧ L2.length = 36 := by
  obtain ⟨hx, hf, hy, hfy, o0, o1, o2, h⟩ := h
  exact ⟨by have := o0.1; rwa [ints_length] at this, by have := o1.1; rwa [ints_length] at this, by have := o2.1; rwa [ints_length] at this⟩
theorem CoD.cell0 {w0 w : World} {B s g : Nat} {k : Code} {h0 h1 h2 c0 c1 c2 : Nat} {L0 L1 L2 : List Int} (h : CoD w0 B s g k h0 h1 h2 c0 c1 c2 L0 L1 L2 w) {j : Nat} (hj : j < 6) : w.cell? ⟨h0, j, none⟩ = some (.int .i64 (Zs.at L0 j)) ∧ w.frozen? ⟨h0, j, none⟩ = false := ⟨own_int h.2.2.2.2.1 (by rw [h.len.1]; exact hj), h.2.2.2.2.1.frozenAt j⟩
theorem CoD.cell1 {w0 w : World} {B s g : Nat} {k : Code} {h0 h1 h2 c0 c1 c2 : Nat} {L0 L1 L2 : List Int} (h : CoD w0 B s g k h0 h1 h2 c0 c1 c2 L0 L1 L2 w) {j : Nat} (hj : j < 6) : w.cell? ⟨h1, j, none⟩ = some (.int .i64 (Zs.at L1 j)) ∧ w.frozen? ⟨h1, j, none⟩ = false := ⟨own_int h.2.2.2.2.2.1 (by rw [h.len.2.1]; exact hj), h.2.2.2.2.2.1.frozenAt j⟩
theorem CoD.cell2 {w0 w : World} {B s g : Nat} {k : Code} {h0 h1 h2 c0 c1 c2 : Nat} {L0 L1 L2 : List Int} (h : CoD w0 B s g k h0 h1 h2 c0 c1 c2 L0 L1 L2 w) {j : Nat} (hj : j < 36) : w.cell? ⟨h2, j, none⟩ = some (.int .i64 (Zs.at L2 j)) ∧ w.frozen? ⟨h2, j, none⟩ = false := ⟨own_int h.2.2.2.2.2.2.1 (by rw [h.len.2.2]; exact hj), h.2.2.2.2.2.2.1.frozenAt j⟩
theorem CoD.put0 {w0 w : World} {B s g : Nat} {k : Code} {h0 h1 h2 c0 c1 c2 : Nat} {L0 L1 L2 : List Int} (h : CoD w0 B s g k h0 h1 h2 c0 c1 c2 L0 L1 L2 w) (p : Nat) (z : Int) : CoD w0 B s g k h0 h1 h2 c0 c1 c2 (L0.set p z) L1 L2 (w.setCell ⟨h0, p, none⟩ (.int .i64 z)) := by
  obtain ⟨hx, hf, hy, hfy, o0, o1, o2, ⟨n01, n02, n12⟩, hc, hG, ⟨hB, hs0, hg0, hsg, hsl, hgl⟩, hn⟩ := h
  have hs := o0.stored p (.int .i64 z)
  have hl := (o0.lt h0 rfl)
  have e1 : h0 ≠ s ∧ h0 ≠ g := hn h0 (by simp)
  refine ⟨hx.grown hs.2 hsl (fun b e => by injection e with e; omega), free_kept hs.2 hsl (fun b e => by injection e with e; omega) hf, hy.grown hs.2 hgl (fun b e => by injection e with e; omega), free_kept hs.2 hgl (fun b e => by injection e with e; omega) hfy, ?_, ?_, ?_, ⟨n01, n02, n12⟩, hc.kept hs.2 (fun b e => by injection e with e; omega), hG.andThen hs.2 (fun j hj => .inl (by injection hj with hj; omega)), ⟨hB, hs0, hg0, hsg, Nat.lt_of_lt_of_le hsl hs.2.size, Nat.lt_of_lt_of_le hgl hs.2.size⟩, hn⟩
  · exact (by have := hs.1; rw [ints_set] at this; exact this)
  · exact World.ownsRow.kept o1 hs.2 (.inr (by simp [Value.ownBlock]; omega))
  · exact World.ownsRow.kept o2 hs.2 (.inr (by simp [Value.ownBlock]; omega))
theorem CoD.put1 {w0 w : World} {B s g : Nat} {k : Code} {h0 h1 h2 c0 c1 c2 : Nat} {L0 L1 L2 : List Int} (h : CoD w0 B s g k h0 h1 h2 c0 c1 c2 L0 L1 L2 w) (p : Nat) (z : Int) : CoD w0 B s g k h0 h1 h2 c0 c1 c2 L0 (L1.set p z) L2 (w.setCell ⟨h1, p, none⟩ (.int .i64 z)) := by
  obtain ⟨hx, hf, hy, hfy, o0, o1, o2, ⟨n01, n02, n12⟩, hc, hG, ⟨hB, hs0, hg0, hsg, hsl, hgl⟩, hn⟩ := h
  have hs := o1.stored p (.int .i64 z)
  have hl := (o1.lt h1 rfl)
  have e1 : h1 ≠ s ∧ h1 ≠ g := hn h1 (by simp)
  refine ⟨hx.grown hs.2 hsl (fun b e => by injection e with e; omega), free_kept hs.2 hsl (fun b e => by injection e with e; omega) hf, hy.grown hs.2 hgl (fun b e => by injection e with e; omega), free_kept hs.2 hgl (fun b e => by injection e with e; omega) hfy, ?_, ?_, ?_, ⟨n01, n02, n12⟩, hc.kept hs.2 (fun b e => by injection e with e; omega), hG.andThen hs.2 (fun j hj => .inl (by injection hj with hj; omega)), ⟨hB, hs0, hg0, hsg, Nat.lt_of_lt_of_le hsl hs.2.size, Nat.lt_of_lt_of_le hgl hs.2.size⟩, hn⟩
  · exact World.ownsRow.kept o0 hs.2 (.inr (by simp [Value.ownBlock]; omega))
  · exact (by have := hs.1; rw [ints_set] at this; exact this)
  · exact World.ownsRow.kept o2 hs.2 (.inr (by simp [Value.ownBlock]; omega))
theorem CoD.put2 {w0 w : World} {B s g : Nat} {k : Code} {h0 h1 h2 c0 c1 c2 : Nat} {L0 L1 L2 : List Int} (h : CoD w0 B s g k h0 h1 h2 c0 c1 c2 L0 L1 L2 w) (p : Nat) (z : Int) : CoD w0 B s g k h0 h1 h2 c0 c1 c2 L0 L1 (L2.set p z) (w.setCell ⟨h2, p, none⟩ (.int .i64 z)) := by
  obtain ⟨hx, hf, hy, hfy, o0, o1, o2, ⟨n01, n02, n12⟩, hc, hG, ⟨hB, hs0, hg0, hsg, hsl, hgl⟩, hn⟩ := h
  have hs := o2.stored p (.int .i64 z)
  have hl := (o2.lt h2 rfl)
  have e1 : h2 ≠ s ∧ h2 ≠ g := hn h2 (by simp)
  refine ⟨hx.grown hs.2 hsl (fun b e => by injection e with e; omega), free_kept hs.2 hsl (fun b e => by injection e with e; omega) hf, hy.grown hs.2 hgl (fun b e => by injection e with e; omega), free_kept hs.2 hgl (fun b e => by injection e with e; omega) hfy, ?_, ?_, ?_, ⟨n01, n02, n12⟩, hc.kept hs.2 (fun b e => by injection e with e; omega), hG.andThen hs.2 (fun j hj => .inl (by injection hj with hj; omega)), ⟨hB, hs0, hg0, hsg, Nat.lt_of_lt_of_le hsl hs.2.size, Nat.lt_of_lt_of_le hgl hs.2.size⟩, hn⟩
  · exact World.ownsRow.kept o0 hs.2 (.inr (by simp [Value.ownBlock]; omega))
  · exact World.ownsRow.kept o1 hs.2 (.inr (by simp [Value.ownBlock]; omega))
  · exact (by have := hs.1; rw [ints_set] at this; exact this)
/-- a cost of the call's own, drawn -/
def CostD (w : World) (B : Nat) (k : Code) (e : Ending) (w' : World) : Prop :=
  ∃ h0 h1 h2 c0 c1 c2 L0 L1 L2, e = .returned (.agg #[.slice (some ⟨h0, 0, none⟩) 6 c0, .slice (some ⟨h1, 0, none⟩) 6 c1, .slice (some ⟨h2, 0, none⟩) 36 c2]) ∧ w'.ownsRow w.heap.size 3 1 (.slice (some ⟨h0, 0, none⟩) 6 c0) 6 (ints L0) ∧ w'.ownsRow w.heap.size 3 1 (.slice (some ⟨h1, 0, none⟩) 6 c1) 6 (ints L1) ∧ w'.ownsRow w.heap.size 3 1 (.slice (some ⟨h2, 0, none⟩) 36 c2) 36 (ints L2) ∧ (h0 ≠ h1 ∧ h0 ≠ h2 ∧ h1 ≠ h2) ∧ CurX w' B k ∧ w.grownBy w' (some B)
theorem CoD.done {w0 w : World} {B s g : Nat} {k : Code} {h0 h1 h2 c0 c1 c2 : Nat} {L0 L1 L2 : List Int} (h : CoD w0 B s g k h0 h1 h2 c0 c1 c2 L0 L1 L2 w) (u0 u1 u2 : Value) : CostD w0 B k (.returned (.agg #[.slice (some ⟨h0, 0, none⟩) 6 c0, .slice (some ⟨h1, 0, none⟩) 6 c1, .slice (some ⟨h2, 0, none⟩) 36 c2])) (((w.setCell ⟨s, 0, none⟩ u0).setCell ⟨s, 1, none⟩ u1).setCell ⟨s, 2, none⟩ u2) := by
  obtain ⟨hx, hf, hy, hfy, o0, o1, o2, hh, hc, hG, ⟨hB, hs0, hg0, hsg, hsl, hgl⟩, hn⟩ := h
  have hs : w.grownBy (((w.setCell ⟨s, 0, none⟩ u0).setCell ⟨s, 1, none⟩ u1).setCell ⟨s, 2, none⟩ u2) (some s) := Kit.grown_then_set (Kit.grown_then_set (Kit.grown_set _ _ _ _) _ _) _ _
  have e0 := hn h0 (by simp)
  have e1 := hn h1 (by simp)
  have e2 := hn h2 (by simp)
  exact ⟨h0, h1, h2, c0, c1, c2, L0, L1, L2, rfl, World.ownsRow.kept o0 hs (.inr (by simp [Value.ownBlock]; omega)), World.ownsRow.kept o1 hs (.inr (by simp [Value.ownBlock]; omega)), World.ownsRow.kept o2 hs (.inr (by simp [Value.ownBlock]; omega)), hh, hc.kept hs (fun b e => by injection e with e; omega), hG.andThen hs (fun j hj => .inl (by injection hj with hj; omega))⟩
/-- the variable is made: rows of the call's own, new since the world wz -/
theorem CoD.made {w0 wz w1 : World} {B s : Nat} {k : Code} {h0 h1 h2 c0 c1 c2 : Nat} {L0 L1 L2 : List Int} (hc : CurX w1 B k) (hG : w0.grownBy w1 (some B)) (hB : B < w0.heap.size) (hs0 : w0.heap.size ≤ s) (hsz : s < wz.heap.size)
    (hx : Box3 w1 s (.slice none 0 0) (.slice none 0 0) (.slice none 0 0)) (hf : ∀ off, w1.frozen? ⟨s, off, none⟩ = false) (hsl : s < w1.heap.size)
    (o0 : w1.ownsRow wz.heap.size 3 1 (.slice (some ⟨h0, 0, none⟩) 6 c0) 6 (ints L0)) (o1 : w1.ownsRow wz.heap.size 3 1 (.slice (some ⟨h1, 0, none⟩) 6 c1) 6 (ints L1)) (o2 : w1.ownsRow wz.heap.size 3 1 (.slice (some ⟨h2, 0, none⟩) 36 c2) 36 (ints L2)) (hh : h0 ≠ h1 ∧ h0 ≠ h2 ∧ h1 ≠ h2) :
    CoD w0 B s w1.heap.size k h0 h1 h2 c0 c1 c2 L0 L1 L2 (w1.alloc (.cells #[.slice (some ⟨h0, 0, none⟩) 6 c0, .slice (some ⟨h1, 0, none⟩) 6 c1, .slice (some ⟨h2, 0, none⟩) 36 c2] 27)) := by
  have l0 := o0.lt h0 rfl
  have l1 := o1.lt h1 rfl
  have l2 := o2.lt h2 rfl
  exact ⟨hx.alloc hsl _, free_kept (World.grownBy_alloc w1 _ none) hsl (fun b e => by cases e) hf, Box3.made _ _ _ _ _, fun off => by simp, own_base (o0.alloc _) (by omega), own_base (o1.alloc _) (by omega), own_base (o2.alloc _) (by omega), hh, hc.alloc _, Kit.grown_trans hG (Kit.grown_alloc _ _ _), ⟨hB, hs0, hG.size, by omega, by simp; omega, by simp⟩, fun b hb => by rcases hb with rfl | rfl | rfl <;> omega⟩
theorem own_h {w : World} {base n : Nat} {e : TypeId} {A : Option Addr} {c : Nat} {ys : List Value} (h : w.ownsRow base e 1 (.slice A n c) n ys) (hn : 0 < n) : ∃ g, A = some ⟨g, 0, none⟩ := by
  obtain ⟨g, e, _⟩ := own_form h hn
  exact ⟨g, e⟩
theorem Apart.ne {a b n m c d : Nat} (h : Apart (.slice (some ⟨a, 0, none⟩) n c) (.slice (some ⟨b, 0, none⟩) m d)) : a ≠ b := by
  rcases h with h | h
  · simp [Value.ownBlock] at h
  · intro e; exact h (by rw [e]; rfl)
theorem Kit.grown_of_below {w w' : World} (h : Below w.heap.size w w') : w.grownBy w' none := ⟨h.os, h.tape, h.output, h.size, fun k hk _ => h.block k hk⟩

end Go.Proofs.Ytlndaflhlkbedaa

/- Contracts (CostD). -/
namespace Go.Proofs.Ytlndaflhlkbedaa
open Go.RowKit
set_option linter.unusedVariables false

set_option maxHeartbeats 3200000 in
set_option maxRecDepth 100000 in
theorem l7Cost_ex (w : World) (B : Nat) (k : Code) (c : CurX w B k) :
    Calls Try.prog 113 #[.pointer (some ⟨B, 0, none⟩)] w (CostD w B k) := by
  have HC := Lib.hid c
  have hBB := Lib.hid c.lt
  clear c
  obtain ⟨wz, hwz⟩ : ∃ wz, wz = w.alloc (.cells #[.slice none 0 0, .slice none 0 0, .slice none 0 0] 27) := ⟨_, rfl⟩
  have HX := Lib.hid (show Box3 wz w.heap.size (.slice none 0 0) (.slice none 0 0) (.slice none 0 0) by rw [hwz]; exact Box3.made _ _ _ _ _)
  have HF := Lib.hid (show ∀ off, wz.frozen? ⟨w.heap.size, off, none⟩ = false by rw [hwz]; exact fun off => by simp)
  have HG := Lib.hid (show w.grownBy wz (some B) by rw [hwz]; exact Kit.grown_alloc _ _ _)
  have HS := Lib.hid (show w.heap.size < wz.heap.size by rw [hwz]; simp)
  have HC := Lib.hid (show CurX wz B k by rw [hwz]; exact HC.out.alloc _)
  go_enter Try.func113, Try.ntmps113
  go_wp2_with fail
  rw [← hwz]
  clear hwz
  refine (specUnitCost_any _).mono ?_
  rintro e w1 ⟨A0, A1, A2, c0, c1, c2, rfl, o0, o1, o2, a01, a02, a12, hb⟩
  obtain ⟨h0, rfl⟩ := own_h o0 (by decide)
  obtain ⟨h1, rfl⟩ := own_h o1 (by decide)
  obtain ⟨h2, rfl⟩ := own_h o2 (by decide)
  have hsl := HS.out
  have hzs := hb.size
  have gb := Kit.grown_of_below hb
  have HD := Lib.hid (CoD.made (k := k) (w0 := w) (wz := wz) (w1 := w1) (B := B) (s := w.heap.size) (HC.out.kept gb (fun b e => by cases e)) (Kit.grown_trans HG.out (Kit.grown_none gb)) hBB.out (Nat.le_refl _) HS.out (HX.out.below hb HS.out) (free_kept gb HS.out (fun b e => by cases e) HF.out) (by omega) o0 o1 o2 ⟨a01.ne, a02.ne, a12.ne⟩)
  obtain ⟨g, eg⟩ : ∃ g, g = w1.heap.size := ⟨_, rfl⟩
  obtain ⟨wc, hwc⟩ : ∃ wc, wc = w1.alloc (.cells #[.slice (some ⟨h0, 0, none⟩) 6 c0, .slice (some ⟨h1, 0, none⟩) 6 c1, .slice (some ⟨h2, 0, none⟩) 36 c2] 27) := ⟨_, rfl⟩
  obtain ⟨L0, eL0⟩ : ∃ L, L = Co.unit.d := ⟨_, rfl⟩
  obtain ⟨L1, eL1⟩ : ∃ L, L = Co.unit.i := ⟨_, rfl⟩
  obtain ⟨L2, eL2⟩ : ∃ L, L = Co.unit.r := ⟨_, rfl⟩
  rw [← eg, ← eL0, ← eL1, ← eL2] at HD
  have HD := Lib.hid (show CoD w B w.heap.size g k h0 h1 h2 c0 c1 c2 L0 L1 L2 wc by rw [hwc]; exact HD.out)
  clear o0 o1 o2 a01 a02 a12 hb gb hsl hzs HX HF HG HS HC eL0 eL1 eL2
  go_wp2_with fail
  rw [show (Co.unit.d.length) = 6 from rfl, show Co.unit.i.length = 6 from rfl, show Co.unit.r.length = 36 from rfl]
  rw [← hwc]
  rw [← eg]
  clear hwc eg
  refine (l1Below_ex _ B k _ HD.out.cursor).mono ?_
  rintro e w2 ⟨u, rfl, hu, cv, gv⟩
  have hd := CoD.cur HD.out gv cv
  clear HD cv gv
  by_cases u0 : u = 0
  · have e0 : ((u : Int) == 0) = true := by simp [u0]
    have E := Lib.hid fun u0 u1 u2 => CoD.done hd u0 u1 u2
    obtain ⟨⟨x0, x1, x2⟩, hf, ⟨y0, y1, y2⟩, _⟩ := hd
    have f0 := hf 0
    have f1 := hf 1
    have f2 := hf 2
    clear hf
    go_wp2
    (try simp only [Exit.inBlock, Exit.then])
    refine bodyPost_ret (v := .agg #[.slice (some ⟨h0, 0, none⟩) 6 c0, .slice (some ⟨h1, 0, none⟩) 6 c1, .slice (some ⟨h2, 0, none⟩) 36 c2]) ?_ rfl ?_
    · rw [results_cell1 rfl]
      go_simp
    · exact E.out _ _ _
  · have e0 : ((u : Int) == 0) = false := beq_eq_false_iff_ne.2 (by omega)
    by_cases u1 : u = 1
    · have e1 : ((u : Int) == 1) = true := by simp [u1]
      have HD := Lib.hid hd
      clear hd
      go_wp2
      go_loopw [4] (fun iv wr => ∃ (i : Nat) (L : List Int), i ≤ 36 ∧ iv = .int .i64 i ∧ CoD w B w.heap.size g k h0 h1 h2 c0 c1 c2 L0 L1 L wr) (fun i _ => 36 - (intOf i).toNat)
      case atStart => exact ⟨0, L2, Nat.zero_le _, rfl, HD.out⟩
      case round =>
        clear HD
        obtain ⟨i, L, hi, rfl, hd⟩ := hrel
        have HD := Lib.hid hd
        clear hd
        by_cases hlt : i < 36
        · have k0 : decide ((i : Int) < 36) = true := by simp; omega
          have k1 : (0 : Int) ≤ (i : Int) := by omega
          have k2 : (i : Int) < 36 := by omega
          obtain ⟨x0, x1, x2⟩ := CoD.held HD.out
          obtain ⟨ec, ef⟩ := CoD.cell2 HD.out (j := i) hlt
          obtain ⟨z, hz⟩ : ∃ z, z = Zs.at L i := ⟨_, rfl⟩
          rw [← hz] at ec
          clear hz
          go_wp2_with fail
          go_still_tail 10, (by kernel_rfl)
          change wpList _ _ _ _ _ wr.drew
          go_wp2
          go_roundw
          case rel => exact ⟨i + 1, _, by omega, by go_num, CoD.put2 HD.out.drew i _⟩
          case measure => simp [intOf]; omega
        · obtain rfl : i = 36 := by omega
          have k0 : decide (((36 : Nat) : Int) < 36) = false := rfl
          have hd := HD.out
          obtain ⟨xx0, xx1, xx2⟩ := CoD.held HD.out
          clear HD
          have E := Lib.hid fun u0 u1 u2 => CoD.done hd u0 u1 u2
          obtain ⟨⟨x0, x1, x2⟩, hf, ⟨y0, y1, y2⟩, _⟩ := hd
          have f0 := hf 0
          have f1 := hf 1
          have f2 := hf 2
          clear hf
          go_wp2
          (try simp only [Exit.inBlock, Exit.then])
          refine bodyPost_ret (v := .agg #[.slice (some ⟨h0, 0, none⟩) 6 c0, .slice (some ⟨h1, 0, none⟩) 6 c1, .slice (some ⟨h2, 0, none⟩) 36 c2]) ?_ rfl ?_
          · rw [results_cell1 rfl]
            go_simp
          · exact E.out _ _ _
    · have e1 : ((u : Int) == 1) = false := beq_eq_false_iff_ne.2 (by omega)
      have HD := Lib.hid hd
      clear hd
      go_wp2
      go_loopw [5] (fun iv wr => ∃ (i : Nat) (K0 K1 K2 : List Int), i ≤ 6 ∧ iv = .int .i64 i ∧ CoD w B w.heap.size g k h0 h1 h2 c0 c1 c2 K0 K1 K2 wr) (fun i _ => 6 - (intOf i).toNat)
      case atStart => exact ⟨0, L0, L1, L2, Nat.zero_le _, rfl, HD.out⟩
      case round =>
        clear HD
        obtain ⟨i, K0, K1, K2, hi, rfl, hd⟩ := hrel
        have HD := Lib.hid hd
        clear hd
        by_cases hlt : i < 6
        · have k0 : decide ((i : Int) < 6) = true := by simp; omega
          have k1 : (0 : Int) ≤ (i : Int) := by omega
          have k2 : (i : Int) < 6 := by omega
          go_wp2_with fail
          have S0 := Lib.hid (CoD.held HD.out.drew)
          go_region_held3 (fun wq => wq.cell? ⟨g, 0, none⟩ = some (.slice (some ⟨h0, 0, none⟩) 6 c0) ∧ wq.cell? ⟨g, 1, none⟩ = some (.slice (some ⟨h1, 0, none⟩) 6 c1) ∧ wq.cell? ⟨g, 2, none⟩ = some (.slice (some ⟨h2, 0, none⟩) 36 c2)) (first | exact S0.out | exact CoD.held hd | exact CoD.held (CoD.put0 hd _ _) | exact CoD.held (CoD.alloc HD.out.drew _)) (first | (go_at_call 87; refine (l1Below_ex _ B k _ (CoD.cursor HD.out.drew)).mono ?_; rintro e w5 ⟨v, rfl, hvv, cv, gv⟩; have hd := CoD.cur HD.out.drew gv cv; obtain ⟨e0c, e0f⟩ := CoD.cell0 hd (j := i) (by omega)))
          have hd := CoD.put0 hd i (v : Int)
          have HD := Lib.hid hd
          clear hd S0 cv gv hvv e0c e0f
          go_wp2_with fail
          have S0 := Lib.hid (CoD.held HD.out.drew)
          go_region_held3 (fun wq => wq.cell? ⟨g, 0, none⟩ = some (.slice (some ⟨h0, 0, none⟩) 6 c0) ∧ wq.cell? ⟨g, 1, none⟩ = some (.slice (some ⟨h1, 0, none⟩) 6 c1) ∧ wq.cell? ⟨g, 2, none⟩ = some (.slice (some ⟨h2, 0, none⟩) 36 c2)) (first | exact S0.out | exact CoD.held hd | exact CoD.held (CoD.put1 hd _ _) | exact CoD.held (CoD.alloc HD.out.drew _)) (first | (go_at_call 87; refine (l1Below_ex _ B k _ (CoD.cursor HD.out.drew)).mono ?_; rintro e w6 ⟨x, rfl, hvx, cv, gv⟩; have hd := CoD.cur HD.out.drew gv cv; obtain ⟨e1c, e1f⟩ := CoD.cell1 hd (j := i) (by omega)))
          have hd := CoD.put1 hd i (x : Int)
          have HD := Lib.hid hd
          clear hd S0 cv gv hvx e1c e1f
          go_wp2
          go_loopw [6] (fun jv wq => ∃ (j : Nat) (K0 K1 K2 : List Int), j ≤ 6 ∧ jv = .int .i64 j ∧ CoD w B w.heap.size g k h0 h1 h2 c0 c1 c2 K0 K1 K2 wq) (fun j _ => 6 - (intOf j).toNat)
          case atStart => exact ⟨0, _, _, _, Nat.zero_le _, rfl, HD.out⟩
          case round =>
            clear HD
            obtain ⟨j, M0, M1, M2, hj, rfl, hd⟩ := hrel
            have HD := Lib.hid hd
            clear hd
            by_cases hlj : j < 6
            · have q0 : decide ((j : Int) < 6) = true := by simp; omega
              have q1 : (0 : Int) ≤ (j : Int) := by omega
              by_cases hij : i = j
              · have q3 : ((i : Int) != (j : Int)) = false := by simp [hij]
                go_wp2
                go_roundw
                case rel => exact ⟨j + 1, M0, M1, M2, by omega, by go_num, HD.out⟩
                case measure => simp [intOf]; omega
              · have q3 : ((i : Int) != (j : Int)) = true := by simp; omega
                obtain ⟨q, hq⟩ : ∃ q, q = i * 6 := ⟨_, rfl⟩
                obtain ⟨p, hp⟩ : ∃ p, p = q + j := ⟨_, rfl⟩
                have m1 : IntKind.i64.wrap ((i : Int) * 6) = (i : Int) * 6 := Kit.w64 (by omega) (by omega)
                have m2 : IntKind.i64.wrap ((i : Int) * 6 + (j : Int)) = (p : Int) := by rw [Kit.w64 (by omega) (by omega)]; omega
                have p0 : (0 : Int) ≤ (p : Int) := by omega
                have p1 : (p : Int) < 36 := by omega
                have hp36 : p < 36 := by omega
                clear hp hq
                go_wp2_with fail
                have S0 := Lib.hid (CoD.held HD.out.drew)
                go_region_held3 (fun wq => wq.cell? ⟨g, 0, none⟩ = some (.slice (some ⟨h0, 0, none⟩) 6 c0) ∧ wq.cell? ⟨g, 1, none⟩ = some (.slice (some ⟨h1, 0, none⟩) 6 c1) ∧ wq.cell? ⟨g, 2, none⟩ = some (.slice (some ⟨h2, 0, none⟩) 36 c2)) (first | exact S0.out | exact CoD.held hd | exact CoD.held (CoD.put2 hd _ _) | exact CoD.held (CoD.alloc HD.out.drew _)) (first | (go_at_call 89; refine (l1PickInt_lit _ B k (CoD.cursor HD.out.drew) _ _ [0, 1, 4, 9, 1000] 5 rfl rfl (by decide) (by decide)).mono ?_; rintro e w7 ⟨y, rfl, cv, gv⟩; have hd := CoD.cur HD.out.drew gv cv; obtain ⟨e2c, e2f⟩ := CoD.cell2 hd (j := p) hp36))
                have hd := CoD.put2 hd p y
                go_wp2
                go_roundw
                case rel => exact ⟨j + 1, _, _, _, by omega, by go_num, hd⟩
                case measure => simp [intOf]; omega
            · obtain rfl : j = 6 := by omega
              have q0 : decide (((6 : Nat) : Int) < 6) = false := rfl
              go_wp2
              go_roundw
              case rel => exact ⟨i + 1, M0, M1, M2, by omega, by go_num, HD.out⟩
              case measure => simp [intOf]; omega
        · obtain rfl : i = 6 := by omega
          have k0 : decide (((6 : Nat) : Int) < 6) = false := rfl
          have hd := HD.out
          clear HD
          have E := Lib.hid fun u0 u1 u2 => CoD.done hd u0 u1 u2
          obtain ⟨⟨x0, x1, x2⟩, hf, ⟨y0, y1, y2⟩, _⟩ := hd
          have f0 := hf 0
          have f1 := hf 1
          have f2 := hf 2
          clear hf
          go_wp2
          (try simp only [Exit.inBlock, Exit.then])
          refine bodyPost_ret (v := .agg #[.slice (some ⟨h0, 0, none⟩) 6 c0, .slice (some ⟨h1, 0, none⟩) 6 c1, .slice (some ⟨h2, 0, none⟩) 36 c2]) ?_ rfl ?_
          · rw [results_cell1 rfl]
            go_simp
          · exact E.out _ _ _

end Go.Proofs.Ytlndaflhlkbedaa

/- Contracts (StepF). -/
namespace Go.Proofs.Ytlndaflhlkbedaa
open Go.RowKit
set_option linter.unusedVariables false

/-- out = append([]int{}, x...), x not empty, as one step of a region that draws: the row is new -/
theorem step_append_fresh {P : Program} {ops : Array Oper} {o : Oper} {a : Act} (w : World) {K : Act → World → Prop} {Q : Exit → Act → World → Prop} {E : Prop} (hgd : o.guard = none) (s x : Operand) (t : TypeId)
    (ho : o.op = .call { callee := .builtin .append, args := #[s, x], argTypes := #[t, t] })
    (e : TypeId) (i : TypeInfo) (ht : P.underlying t = some (.slice e)) (hi : P.info? e = some i) (hz : i.zero = some (.int .i64 0))
    (hsize : i.size = 1) (hby : i.bytes = 8) (ad0 : Addr) (m : Nat) (zs : List Int) (hs : a.eval s = .slice (some ad0) 0 0)
    {B : Nat} (A : Option Addr) (c : Nat) (hx : a.eval x = .slice A m c) (hin : IntIn w B A m zs) (hpos : 0 < m) (h63 : m ≤ 1073741824)
    (h : ∀ g c' w', g = w.heap.size → w'.ownsRow g e 1 (.slice (some ⟨g, 0, none⟩) m c') m (ints zs) → w.grownBy w' none → K (a.put o.dst (.slice (some ⟨g, 0, none⟩) m c')) w') :
    if Region.wanted o (yielded ops a.tmps) = true then Oper.wp P o a w K Q else E := by
  have hw : Region.wanted o (yielded ops a.tmps) = true := by simp [Region.wanted, hgd]
  rw [if_pos hw]
  obtain ⟨ad, rfl, _⟩ := hin.2.1 hpos
  have hlen : (ints zs).length = m * i.size := by rw [ints_length, hin.1, hsize, Nat.mul_one]
  have hr := run_append_grow (P := P) w t o.type e i (.int .i64 0) ht hi hz ad0 0 0 [] (by simp) (fun j v h => by simp at h) ad m c (ints zs) hlen hin.cells_at (by omega) (by omega) (growslice_fits (by omega) (by rw [hby]; omega))
  have hge := grownCap_ge w (0 + m) 0 e
  have hcm : grownCap w (0 + m) 0 e ≤ maxLen := grownCap_le_maxLen w (0 + m) 0 e (by unfold maxLen; omega)
  rw [Nat.zero_add] at hr hge hcm
  unfold Oper.wp execOp
  simp only [ho, resolve, invoke, builtin, Sem.run_bind, Sem.run_pure, Result.andThen_ok, List.map_toArray, List.map_cons, List.map_nil, hs, hx, hr]
  refine h _ _ _ rfl ⟨by rw [hlen, hsize], .inr ⟨w.heap.size, _, _, rfl, Nat.le_refl _, heap_alloc_new w.drew _, hge, hcm, ?_, ?_⟩⟩ ⟨rfl, rfl, rfl, by simp, fun k hk _ => heap_alloc_old w.drew _ hk⟩
  · simp only [Array.size_append, List.size_toArray, size_zeroCells, List.length_nil, hlen, hsize]
    simp [Value.cells]
    omega
  · simp only [Array.toList_append, List.nil_append]
    rw [Nat.mul_one, ← hin.1, ← ints_length]
    exact List.take_left
/-- the world has only grown since -/
def BelS (w0 wq : World) : Prop := Below w0.heap.size w0 wq
theorem BelS.alloc' {w0 wx : World} (h : BelS w0 wx) (o : Obj) : BelS w0 (wx.alloc o) := Below.alloc h h.size o
theorem BelS.alloc_drew {w0 wx : World} (h : BelS w0 wx.drew) (o : Obj) : BelS w0 (wx.alloc o).drew := BelS.alloc' h o
theorem BelS.on {w0 wx wq : World} (h : BelS w0 wx) (hb : Below wx.heap.size wx wq) : BelS w0 wq := Below.trans h (hb.mono h.size)
theorem BelS.set3 {w0 wx : World} {g : Nat} (h : BelS w0 wx) (hg : w0.heap.size ≤ g) (u0 u1 u2 : Value) : BelS w0 (((wx.setCell ⟨g, 0, none⟩ u0).setCell ⟨g, 1, none⟩ u1).setCell ⟨g, 2, none⟩ u2) :=
  ((Below.setCell h hg u0).setCell hg u1).setCell hg u2
theorem BelS.le {w0 wq : World} (h : BelS w0 wq) : w0.heap.size ≤ wq.heap.size := h.size
/-- a new variable of three cells, nothing stored yet -/
def Zero3 (w : World) (g : Nat) : Prop := w.heap[g]? = some (.cells #[.slice none 0 0, .slice none 0 0, .slice none 0 0] 27 (0, 0))
theorem Zero3.new {w : World} {g : Nat} (h : w.heap.size = g) : Zero3 (w.alloc (.cells #[.slice none 0 0, .slice none 0 0, .slice none 0 0] 27)) g := by subst h; exact heap_alloc_new w _
theorem Zero3.lt {w : World} {g : Nat} (h : Zero3 w g) : g < w.heap.size := by
  rcases Nat.lt_or_ge g w.heap.size with h' | h'
  · exact h'
  · unfold Zero3 at h; rw [Array.getElem?_eq_none h'] at h; cases h
theorem Zero3.on {w w' : World} {g : Nat} (h : Zero3 w g) (hg : w.grownBy w' none) : Zero3 w' g := (hg.block g h.lt (fun e => by cases e)).trans h
theorem Zero3.alloc {w : World} {g : Nat} (h : Zero3 w g) (o : Obj) : Zero3 (w.alloc o) g := h.on (World.grownBy_alloc w o none)
theorem Zero3.drew {w : World} {g : Nat} (h : Zero3 w g) : Zero3 w.drew g := h
theorem Zero3.cells {w : World} {g : Nat} (h : Zero3 w g) : w.cell? ⟨g, 0, none⟩ = some (.slice none 0 0) ∧ w.cell? ⟨g, 1, none⟩ = some (.slice none 0 0) ∧ w.cell? ⟨g, 2, none⟩ = some (.slice none 0 0) ∧ w.frozen? ⟨g, 0, none⟩ = false ∧ w.frozen? ⟨g, 1, none⟩ = false ∧ w.frozen? ⟨g, 2, none⟩ = false := by
  unfold Zero3 at h
  simp [World.cell?, World.frozen?, h]
theorem region_cut {P : Program} {c : Go.Code} {Q : Exit → Act → World → Prop} {a : Act} {w : World} (R : Act → World → Prop) (h : ∀ a w, R a w → Q .normal a w) (h1 : c.wp P (fun e a w => e = .normal ∧ R a w) a w) : c.wp P Q a w :=
  Go.Code.wp_mono (fun e a w hh => by obtain ⟨rfl, hh⟩ := hh; exact h a w hh) h1
/-- three rows of the call's own and the variable that holds them: what the region leaves -/
def DoneS (w0 wq : World) (D0 D1 D2 : List Int) (g10 G0 G1 G2 e0 e1 e2 : Nat) : Prop :=
  Box3 wq g10 (.slice (some ⟨G0, 0, none⟩) 6 e0) (.slice (some ⟨G1, 0, none⟩) 6 e1) (.slice (some ⟨G2, 0, none⟩) 36 e2) ∧ wq.ownsRow w0.heap.size 3 1 (.slice (some ⟨G0, 0, none⟩) 6 e0) 6 (ints D0) ∧ wq.ownsRow w0.heap.size 3 1 (.slice (some ⟨G1, 0, none⟩) 6 e1) 6 (ints D1) ∧ wq.ownsRow w0.heap.size 3 1 (.slice (some ⟨G2, 0, none⟩) 36 e2) 36 (ints D2) ∧
  (G0 ≠ G1 ∧ G0 ≠ G2 ∧ G1 ≠ G2) ∧ BelS w0 wq ∧ w0.heap.size ≤ g10 ∧ g10 < wq.heap.size
theorem DoneS.made {w0 w7 : World} {D0 D1 D2 : List Int} {G0 G1 G2 e0 e1 e2 : Nat} (o0 : w7.ownsRow G0 3 1 (.slice (some ⟨G0, 0, none⟩) 6 e0) 6 (ints D0)) (o1 : w7.ownsRow G1 3 1 (.slice (some ⟨G1, 0, none⟩) 6 e1) 6 (ints D1)) (o2 : w7.ownsRow G2 3 1 (.slice (some ⟨G2, 0, none⟩) 36 e2) 36 (ints D2))
    (h : w0.heap.size ≤ G0 ∧ G0 < G1 ∧ G1 < G2) (hB : BelS w0 w7) : DoneS w0 (w7.alloc (.cells #[.slice (some ⟨G0, 0, none⟩) 6 e0, .slice (some ⟨G1, 0, none⟩) 6 e1, .slice (some ⟨G2, 0, none⟩) 36 e2] 27)) D0 D1 D2 w7.heap.size G0 G1 G2 e0 e1 e2 :=
  ⟨Box3.made _ _ _ _ _, own_base (o0.alloc _) (by omega), own_base (o1.alloc _) (by omega), own_base (o2.alloc _) (by omega), by omega, hB.alloc' _, hB.le, by simp⟩
theorem DoneS.stored {w0 w7 : World} {D0 D1 D2 : List Int} {g10 G0 G1 G2 e0 e1 e2 : Nat} (o0 : w7.ownsRow G0 3 1 (.slice (some ⟨G0, 0, none⟩) 6 e0) 6 (ints D0)) (o1 : w7.ownsRow G1 3 1 (.slice (some ⟨G1, 0, none⟩) 6 e1) 6 (ints D1)) (o2 : w7.ownsRow G2 3 1 (.slice (some ⟨G2, 0, none⟩) 36 e2) 36 (ints D2))
    (h : w0.heap.size ≤ G0 ∧ G0 < G1 ∧ G1 < G2) (hB : BelS w0 w7) (hz : Zero3 w7 g10) (hg : w0.heap.size ≤ g10) (hne : g10 ≠ G0 ∧ g10 ≠ G1 ∧ g10 ≠ G2) :
    DoneS w0 (((w7.setCell ⟨g10, 0, none⟩ (.slice (some ⟨G0, 0, none⟩) 6 e0)).setCell ⟨g10, 1, none⟩ (.slice (some ⟨G1, 0, none⟩) 6 e1)).setCell ⟨g10, 2, none⟩ (.slice (some ⟨G2, 0, none⟩) 36 e2)) D0 D1 D2 g10 G0 G1 G2 e0 e1 e2 := by
  have hs : ∀ u0 u1 u2, w7.grownBy (((w7.setCell ⟨g10, 0, none⟩ u0).setCell ⟨g10, 1, none⟩ u1).setCell ⟨g10, 2, none⟩ u2) (some g10) := fun _ _ _ => Kit.grown_then_set (Kit.grown_then_set (Kit.grown_set _ _ _ _) _ _) _ _
  have hl := hz.lt
  refine ⟨?_, own_base (World.ownsRow.kept o0 (hs _ _ _) (.inr (by simp [Value.ownBlock]; omega))) (by omega), own_base (World.ownsRow.kept o1 (hs _ _ _) (.inr (by simp [Value.ownBlock]; omega))) (by omega), own_base (World.ownsRow.kept o2 (hs _ _ _) (.inr (by simp [Value.ownBlock]; omega))) (by omega), by omega, BelS.set3 hB hg _ _ _, hg, by simpa using hl⟩
  unfold Zero3 at hz
  refine ⟨?_, ?_, ?_⟩ <;> simp [World.cell?, World.setCell, Array.getElem?_modify, hz]
/-- a part of a row -/
theorem IntIn.part {w : World} {B n m k : Nat} {ad : Addr} {zs : List Int} (h : IntIn w B (some ad) n zs) (hk : k + m ≤ n) (hm : 0 < m) : IntIn w B (some (ad.add k)) m ((zs.take (k + m)).drop k) := by
  refine ⟨?_, fun _ => ?_, fun a ea j hj => ?_⟩
  · have := h.1
    rw [List.length_drop, List.length_take]
    omega
  · obtain ⟨a, ea, hlt⟩ := h.2.1 (by omega)
    injection ea with ea
    subst ea
    exact ⟨_, rfl, by rw [show (ad.add k).block = ad.block by unfold Addr.add; split <;> rfl]; exact hlt⟩
  · injection ea with ea
    subst ea
    have := h.2.2 ad rfl (k + j) (by omega)
    rw [Addr.add_add, this]
    congr 2
    simp only [Zs.at, List.getD_eq_getElem?_getD, List.getElem?_drop]
    rw [List.getElem?_take_of_lt (by omega)]

end Go.Proofs.Ytlndaflhlkbedaa

/- Contracts (AnyCD). -/
namespace Go.Proofs.Ytlndaflhlkbedaa
open Go.RowKit
set_option linter.unusedVariables false

/-- a cost that a draw has laid; of the second row the first cell may be cut off -/
def CostA (w : World) (B : Nat) (k : Code) (e : Ending) (w' : World) : Prop :=
  ∃ h0 h1 h2 c0 c1 c2 L0 L1 L2 v1, e = .returned (.agg #[.slice (some ⟨h0, 0, none⟩) 6 c0, v1, .slice (some ⟨h2, 0, none⟩) 36 c2]) ∧ (v1 = .slice (some ⟨h1, 0, none⟩) 6 c1 ∨ v1 = .slice (some ⟨h1, 1, none⟩) 5 (c1 - 1)) ∧ w'.ownsRow w.heap.size 3 1 (.slice (some ⟨h0, 0, none⟩) 6 c0) 6 (ints L0) ∧ w'.ownsRow w.heap.size 3 1 (.slice (some ⟨h1, 0, none⟩) 6 c1) 6 (ints L1) ∧ w'.ownsRow w.heap.size 3 1 (.slice (some ⟨h2, 0, none⟩) 36 c2) 36 (ints L2) ∧ CurX w' B k ∧ w.grownBy w' (some B)
theorem CostD.any {w w' : World} {B : Nat} {k : Code} {e : Ending} (h : CostD w B k e w') : CostA w B k e w' := by
  obtain ⟨h0, h1, h2, c0, c1, c2, L0, L1, L2, rfl, o0, o1, o2, hh, hc, hG⟩ := h
  exact ⟨h0, h1, h2, c0, c1, c2, L0, L1, L2, _, rfl, .inl rfl, o0, o1, o2, hc, hG⟩
theorem CoD.tail {w0 w : World} {B s g : Nat} {k : Code} {h0 h1 h2 c0 c1 c2 : Nat} {L0 L1 L2 : List Int} (h : CoD w0 B s g k h0 h1 h2 c0 c1 c2 L0 L1 L2 w) (u u0 u1 u2 : Value) : CostA w0 B k (.returned (.agg #[.slice (some ⟨h0, 0, none⟩) 6 c0, .slice (some ⟨h1, 1, none⟩) 5 (c1 - 1), .slice (some ⟨h2, 0, none⟩) 36 c2])) ((((w.setCell ⟨g, 1, none⟩ u).setCell ⟨s, 0, none⟩ u0).setCell ⟨s, 1, none⟩ u1).setCell ⟨s, 2, none⟩ u2) := by
  obtain ⟨hx, hf, hy, hfy, o0, o1, o2, hh, hc, hG, ⟨hB, hs0, hg0, hsg, hsl, hgl⟩, hn⟩ := h
  have e0 := hn h0 (by simp)
  have e1 := hn h1 (by simp)
  have e2 := hn h2 (by simp)
  have hg : w.grownBy (w.setCell ⟨g, 1, none⟩ u) (some g) := Kit.grown_set _ _ _ _
  have hs : (w.setCell ⟨g, 1, none⟩ u).grownBy ((((w.setCell ⟨g, 1, none⟩ u).setCell ⟨s, 0, none⟩ u0).setCell ⟨s, 1, none⟩ u1).setCell ⟨s, 2, none⟩ u2) (some s) := Kit.grown_then_set (Kit.grown_then_set (Kit.grown_set _ _ _ _) _ _) _ _
  have kp : ∀ {v : Value} {n : Nat} {ys : List Value} {b : Nat}, v.ownBlock = some b → b ≠ s ∧ b ≠ g → w.ownsRow w0.heap.size 3 1 v n ys → ((((w.setCell ⟨g, 1, none⟩ u).setCell ⟨s, 0, none⟩ u0).setCell ⟨s, 1, none⟩ u1).setCell ⟨s, 2, none⟩ u2).ownsRow w0.heap.size 3 1 v n ys := fun hv hb o =>
    World.ownsRow.kept (World.ownsRow.kept o hg (.inr (by rw [hv]; intro e; injection e with e; exact hb.2 e))) hs (.inr (by rw [hv]; intro e; injection e with e; exact hb.1 e))
  exact ⟨h0, h1, h2, c0, c1, c2, L0, L1, L2, _, rfl, .inr rfl, kp rfl e0 o0, kp rfl e1 o1, kp rfl e2 o2, (hc.kept hg (fun b e => by injection e with e; omega)).kept hs (fun b e => by injection e with e; omega), (hG.andThen hg (fun j hj => .inl (by injection hj with hj; omega))).andThen hs (fun j hj => .inl (by injection hj with hj; omega))⟩
/-- a literal's cells stand behind a draw -/
theorem lit_kept {w w' : World} {B : Nat} {C : Array Value} {t : TypeId} {xs : List Int} (hC : C = (xs.map (Value.int .i64)).toArray) (hB : B < w.heap.size) (hg : (w.alloc (.cells C t)).grownBy w' (some B)) : ∀ j, j < xs.length → w'.cell? ⟨w.heap.size, j, none⟩ = some (.int .i64 (xs.getD j 0)) := by
  intro j hj
  refine hg.cell (a := ⟨w.heap.size, j, none⟩) ?_ (fun e => by injection e with e; simp only at e; omega)
  rw [World.cell?_alloc_at (hn := rfl), hC]
  simp [List.getD_eq_getElem?_getD, hj]
theorem lit_lt {w w' : World} {B : Nat} {o : Obj} (hg : (w.alloc o).grownBy w' (some B)) : w.heap.size < w'.heap.size := by
  have := hg.size
  rw [World.size_alloc] at this
  omega
set_option maxHeartbeats 3200000 in
set_option maxRecDepth 100000 in
theorem l7Any_ex (w : World) (B : Nat) (k : Code) (c : CurX w B k) :
    Calls Try.prog 115 #[.pointer (some ⟨B, 0, none⟩)] w (CostA w B k) := by
  have HC := Lib.hid c
  have hBB := Lib.hid c.lt
  clear c
  obtain ⟨wz, hwz⟩ : ∃ wz, wz = w.alloc (.cells #[.slice none 0 0, .slice none 0 0, .slice none 0 0] 27) := ⟨_, rfl⟩
  have HX := Lib.hid (show Box3 wz w.heap.size (.slice none 0 0) (.slice none 0 0) (.slice none 0 0) by rw [hwz]; exact Box3.made _ _ _ _ _)
  have HF := Lib.hid (show ∀ off, wz.frozen? ⟨w.heap.size, off, none⟩ = false by rw [hwz]; exact fun off => by simp)
  have HG := Lib.hid (show w.grownBy wz (some B) by rw [hwz]; exact Kit.grown_alloc _ _ _)
  have HS := Lib.hid (show w.heap.size < wz.heap.size by rw [hwz]; simp)
  have HC := Lib.hid (show CurX wz B k by rw [hwz]; exact HC.out.alloc _)
  go_enter Try.func115, Try.ntmps115
  go_wp2_with fail
  rw [← hwz]
  clear hwz
  have hBz : B < wz.heap.size := HC.out.lt
  refine (l7Cost_ex _ B k HC.out).mono ?_
  rintro e w1 ⟨h0, h1, h2, c0, c1, c2, L0, L1, L2, rfl, o0, o1, o2, hh, hc, gc⟩
  have hsl := Nat.lt_of_lt_of_le HS.out gc.size
  have HD := Lib.hid (CoD.made (k := k) (w0 := w) (wz := wz) (w1 := w1) (B := B) (s := w.heap.size) hc (Kit.grown_trans HG.out gc) hBB.out (Nat.le_refl _) HS.out (HX.out.grown gc HS.out (fun b e => by injection e with e; have := hBB.out; omega)) (free_kept gc HS.out (fun b e => by injection e with e; have := hBB.out; omega) HF.out) hsl o0 o1 o2 hh)
  obtain ⟨g, eg⟩ : ∃ g, g = w1.heap.size := ⟨_, rfl⟩
  obtain ⟨wc, hwc⟩ : ∃ wc, wc = w1.alloc (.cells #[.slice (some ⟨h0, 0, none⟩) 6 c0, .slice (some ⟨h1, 0, none⟩) 6 c1, .slice (some ⟨h2, 0, none⟩) 36 c2] 27) := ⟨_, rfl⟩
  rw [← eg, ← hwc] at HD
  clear o0 o1 o2 hh hc gc hsl HX HF HG HS HC hBz
  go_wp2_with fail
  rw [← hwc]
  rw [← eg]
  clear hwc eg
  refine (l1Below_ex _ B k _ HD.out.cursor).mono ?_
  rintro e w2 ⟨u, rfl, hu, cv, gv⟩
  have HD := Lib.hid (CoD.cur HD.out gv cv)
  clear cv gv
  by_cases u0 : u = 0
  · have e0 : ((u : Int) == 0) = true := by simp [u0]
    go_wp2_with fail
    have S0 := Lib.hid (CoD.held HD.out.drew)
    go_region_held3 (fun wq => wq.cell? ⟨g, 0, none⟩ = some (.slice (some ⟨h0, 0, none⟩) 6 c0) ∧ wq.cell? ⟨g, 1, none⟩ = some (.slice (some ⟨h1, 0, none⟩) 6 c1) ∧ wq.cell? ⟨g, 2, none⟩ = some (.slice (some ⟨h2, 0, none⟩) 36 c2)) (first | exact S0.out | exact CoD.held (CoD.put0 hd _ _) | exact CoD.held hd | exact CoD.held (CoD.alloc hd _) | exact CoD.held (CoD.alloc HD.out.drew _)) (first | (go_at_call 87; (fail_if_success (have := hvv)); refine (l1Below_ex _ B k 6 (CoD.cursor HD.out.drew)).mono ?_; rintro e w5 ⟨v, rfl, hvv, cv, gv⟩; have hd := CoD.cur HD.out.drew gv cv; have hvl : v < 6 := (by omega); have i0 : (0 : Int) ≤ (v : Int) := (by omega); have i1 : (v : Int) < 6 := (by omega)) | (go_at_call 87; (fail_if_success (have := hvv)); refine (l1Below_ex _ B k 6 (CoD.cursor (CoD.alloc HD.out.drew _))).mono ?_; rintro e w5 ⟨v, rfl, hvv, cv, gv⟩; have hd := CoD.cur (CoD.alloc HD.out.drew _) gv cv; have hvl : v < 6 := (by omega); have i0 : (0 : Int) ≤ (v : Int) := (by omega); have i1 : (v : Int) < 6 := (by omega); have hB2 : B < (World.heap w2.drew).size := CurX.lt (CoD.cursor HD.out.drew); have kc := lit_kept (xs := [-1, 1001, 1000]) rfl hB2 gv; have kl := lit_lt gv) | (go_at_call 89; have := kc; refine (l1PickInt_ex _ B _ k (CoD.cursor hd) [-1, 1001, 1000] 3 rfl (by decide) (by decide) hB2 kl kc).mono ?_; rintro e w6 ⟨y, rfl, cy, gy⟩; have hd := CoD.cur hd gy cy; obtain ⟨e0c, e0f⟩ := CoD.cell0 hd hvl) | (go_at_call 89; (fail_if_success (have := kc)); refine (l1PickInt_lit _ B k (CoD.cursor hd) _ _ [-1, 1001, 1000] 3 rfl rfl (by decide) (by decide)).mono ?_; rintro e w6 ⟨y, rfl, cy, gy⟩; have hd := CoD.cur hd gy cy; obtain ⟨e0c, e0f⟩ := CoD.cell0 hd hvl))
    all_goals have hd := CoD.put0 hd v y
    all_goals clear S0 cv gv cy gy e0c e0f
    all_goals
      have E := Lib.hid fun u0 u1 u2 => CoD.done hd u0 u1 u2
      obtain ⟨⟨x0, x1, x2⟩, hf, ⟨y0, y1, y2⟩, _⟩ := hd
      have f0 := hf 0
      have f1 := hf 1
      have f2 := hf 2
      clear hf
      go_wp2
      (try simp only [Exit.inBlock, Exit.then])
      refine bodyPost_ret (v := .agg #[.slice (some ⟨h0, 0, none⟩) 6 c0, .slice (some ⟨h1, 0, none⟩) 6 c1, .slice (some ⟨h2, 0, none⟩) 36 c2]) ?_ rfl ?_
      · rw [results_cell1 rfl]
        go_simp
      · exact (E.out _ _ _).any
  · have e0 : ((u : Int) == 0) = false := beq_eq_false_iff_ne.2 (by omega)
    by_cases u1 : u = 1
    · have e1 : ((u : Int) == 1) = true := by simp [u1]
      go_wp2_with fail
      have S0 := Lib.hid (CoD.held HD.out.drew)
      go_region_held3 (fun wq => wq.cell? ⟨g, 0, none⟩ = some (.slice (some ⟨h0, 0, none⟩) 6 c0) ∧ wq.cell? ⟨g, 1, none⟩ = some (.slice (some ⟨h1, 0, none⟩) 6 c1) ∧ wq.cell? ⟨g, 2, none⟩ = some (.slice (some ⟨h2, 0, none⟩) 36 c2)) (first | exact S0.out | exact CoD.held (CoD.put2 hd _ _) | exact CoD.held hd) ((go_at_call 87; (fail_if_success (have := hvv)); refine (l1Below_ex _ B k 36 (CoD.cursor HD.out.drew)).mono ?_; rintro e w5 ⟨v, rfl, hvv, cv, gv⟩; have hd := CoD.cur HD.out.drew gv cv; have hvl : v < 36 := (by omega); have i0 : (0 : Int) ≤ (v : Int) := (by omega); have i1 : (v : Int) < 36 := (by omega); obtain ⟨e0c, e0f⟩ := CoD.cell2 hd hvl))
      have hd := CoD.put2 hd v 5
      clear S0 cv gv e0c e0f
      have E := Lib.hid fun u0 u1 u2 => CoD.done hd u0 u1 u2
      obtain ⟨⟨x0, x1, x2⟩, hf, ⟨y0, y1, y2⟩, _⟩ := hd
      have f0 := hf 0
      have f1 := hf 1
      have f2 := hf 2
      clear hf
      go_wp2
      (try simp only [Exit.inBlock, Exit.then])
      refine bodyPost_ret (v := .agg #[.slice (some ⟨h0, 0, none⟩) 6 c0, .slice (some ⟨h1, 0, none⟩) 6 c1, .slice (some ⟨h2, 0, none⟩) 36 c2]) ?_ rfl ?_
      · rw [results_cell1 rfl]
        go_simp
      · exact (E.out _ _ _).any
    · have e1 : ((u : Int) == 1) = false := beq_eq_false_iff_ne.2 (by omega)
      have hd := HD.out
      clear HD
      by_cases u2 : u = 2
      · have e2 : ((u : Int) == 2) = true := by simp [u2]
        have E := Lib.hid fun u u0 u1 u2 => CoD.tail hd u u0 u1 u2
        have hcap := own_cap hd.2.2.2.2.2.1
        have k1 : (1 : Int) ≤ (c1 : Int) := by omega
        have k2 : ¬ c1 = 1 := by omega
        have k3 : (1 : Int) ≤ 6 := by omega
        obtain ⟨⟨x0, x1, x2⟩, hf, ⟨y0, y1, y2⟩, hfy, _, _, _, _, _, _, ⟨_, _, _, hsg, _, _⟩, _⟩ := hd
        have f0 := hf 0
        have f1 := hf 1
        have f2 := hf 2
        have fy := hfy 1
        clear hf hfy hcap
        go_wp2
        (try simp only [Exit.inBlock, Exit.then])
        refine bodyPost_ret (v := .agg #[.slice (some ⟨h0, 0, none⟩) 6 c0, .slice (some ⟨h1, 1, none⟩) 5 (c1 - 1), .slice (some ⟨h2, 0, none⟩) 36 c2]) ?_ rfl ?_
        · rw [results_cell1 rfl]
          go_simp
        · exact E.out _ _ _ _
      · have e2 : ((u : Int) == 2) = false := beq_eq_false_iff_ne.2 (by omega)
        have E := Lib.hid fun u0 u1 u2 => CoD.done hd u0 u1 u2
        obtain ⟨⟨x0, x1, x2⟩, hf, ⟨y0, y1, y2⟩, _⟩ := hd
        have f0 := hf 0
        have f1 := hf 1
        have f2 := hf 2
        clear hf
        go_wp2
        (try simp only [Exit.inBlock, Exit.then])
        refine bodyPost_ret (v := .agg #[.slice (some ⟨h0, 0, none⟩) 6 c0, .slice (some ⟨h1, 0, none⟩) 6 c1, .slice (some ⟨h2, 0, none⟩) 36 c2]) ?_ rfl ?_
        · rw [results_cell1 rfl]
          go_simp
        · exact (E.out _ _ _).any

end Go.Proofs.Ytlndaflhlkbedaa

/- Contracts (DrawCo). -/
namespace Go.Proofs.Ytlndaflhlkbedaa
open Go.RowKit
set_option linter.unusedVariables false

theorem CodeIn.onto {w w' : World} {B : Nat} {a : Option Addr} {cs : List Int} (h : CodeIn w B a cs) (hb : Below B w w') (hB : B ≤ w'.heap.size) : CodeIn w' w'.heap.size a cs := by
  intro j hj
  obtain ⟨b, off, h1, h2, h3, h4⟩ := h j hj
  exact ⟨b, off, h1, by omega, (hb.cell (p := ⟨b, off + j, none⟩) h2).trans h3, h4⟩
/-- a drawn cost, and two numbers -/
def DrawRC (w : World) (e : Ending) (w' : World) : Prop := ∃ a b : Int, ∃ (h0 h1 h2 c0 c2 : Nat) (A1 : Option Addr) (n1 q1 : Nat) (K : Co), e = .returned (.tuple #[.agg #[.slice (some ⟨h0, 0, none⟩) 6 c0, .slice A1 n1 q1, .slice (some ⟨h2, 0, none⟩) 36 c2], .int .i64 a, .int .i64 b]) ∧ (n1 = 6 ∧ A1 = some ⟨h1, 0, none⟩ ∨ n1 = 5) ∧ CoIn w' w'.heap.size (some ⟨h0, 0, none⟩) A1 (some ⟨h2, 0, none⟩) 6 n1 36 K ∧ Below w.heap.size w w'
/-- a drawn cost -/
def DrawPC (w : World) (e : Ending) (w' : World) : Prop := ∃ (h0 h1 h2 c0 c2 : Nat) (A1 : Option Addr) (n1 q1 : Nat) (K : Co), e = .returned (.agg #[.slice (some ⟨h0, 0, none⟩) 6 c0, .slice A1 n1 q1, .slice (some ⟨h2, 0, none⟩) 36 c2]) ∧ (n1 = 6 ∧ A1 = some ⟨h1, 0, none⟩ ∨ n1 = 5) ∧ CoIn w' w'.heap.size (some ⟨h0, 0, none⟩) A1 (some ⟨h2, 0, none⟩) 6 n1 36 K ∧ Below w.heap.size w w'
theorem results_cell_two {fn : Func} {p u v : Tmp} {ty : TypeId} (h : fn.results = #[.cell p ty, .tmp u, .tmp v]) (tmps : Array Value) (P : Program) (w : World) :
    (results fn tmps).run P w =
      ((asAddr (tmps.getD p undef)).run P w).andThen fun a w₁ => ((loadVar ty a).run P w₁).andThen fun x w₂ => .ok (.tuple #[x, tmps.getD u undef, tmps.getD v undef]) w₂ := by
  simp only [results, h]
  simp [Sem.run_bind, Result.andThen]
/-- a drawn cost behind the writing of the result's variable -/
theorem cost_out {w w1 wx : World} {s h0 h1 h2 c0 c1 c2 : Nat} {L0 L1 L2 : List Int} {v1 : Value} (o0 : wx.ownsRow w1.heap.size 3 1 (.slice (some ⟨h0, 0, none⟩) 6 c0) 6 (ints L0)) (o1 : wx.ownsRow w1.heap.size 3 1 (.slice (some ⟨h1, 0, none⟩) 6 c1) 6 (ints L1)) (o2 : wx.ownsRow w1.heap.size 3 1 (.slice (some ⟨h2, 0, none⟩) 36 c2) 36 (ints L2))
    (hs : s < w1.heap.size) (hv : v1 = .slice (some ⟨h1, 0, none⟩) 6 c1 ∨ v1 = .slice (some ⟨h1, 1, none⟩) 5 (c1 - 1)) (hB : Below s w wx) (u0 u1 u2 : Value) :
    ∃ A1 n1 q1 K, v1 = .slice A1 n1 q1 ∧ (n1 = 6 ∧ A1 = some ⟨h1, 0, none⟩ ∨ n1 = 5) ∧ CoIn (((wx.setCell ⟨s, 0, none⟩ u0).setCell ⟨s, 1, none⟩ u1).setCell ⟨s, 2, none⟩ u2) (((wx.setCell ⟨s, 0, none⟩ u0).setCell ⟨s, 1, none⟩ u1).setCell ⟨s, 2, none⟩ u2).heap.size (some ⟨h0, 0, none⟩) A1 (some ⟨h2, 0, none⟩) 6 n1 36 K ∧ Below s w (((wx.setCell ⟨s, 0, none⟩ u0).setCell ⟨s, 1, none⟩ u1).setCell ⟨s, 2, none⟩ u2) := by
  have hg : wx.grownBy (((wx.setCell ⟨s, 0, none⟩ u0).setCell ⟨s, 1, none⟩ u1).setCell ⟨s, 2, none⟩ u2) (some s) := Kit.grown_then_set (Kit.grown_then_set (Kit.grown_set _ _ _ _) _ _) _ _
  have hb := ((hB.setCell (p := ⟨s, 0, none⟩) (Nat.le_refl _) u0).setCell (p := ⟨s, 1, none⟩) (Nat.le_refl _) u1).setCell (p := ⟨s, 2, none⟩) (Nat.le_refl _) u2
  have k0 := IntIn.of_own (Kit.keptRow o0 hs hg)
  have k1 := IntIn.of_own (Kit.keptRow o1 hs hg)
  have k2 := IntIn.of_own (Kit.keptRow o2 hs hg)
  rcases hv with rfl | rfl
  · exact ⟨_, _, _, ⟨L0, L1, L2⟩, rfl, .inl ⟨rfl, rfl⟩, ⟨k0, k1, k2⟩, hb⟩
  · exact ⟨_, _, _, ⟨L0, _, L2⟩, rfl, .inr rfl, ⟨k0, IntIn.part (k := 1) (m := 5) k1 (by decide) (by decide), k2⟩, hb⟩

end Go.Proofs.Ytlndaflhlkbedaa
