/- Texts of one claim laid into one file, in build order: OpGx. -/
import Derived.Test.YtgkkeejhfofcaaaHf2
import Derived.Test.YtgkkeejhfofcaaaHf3
import Derived.Test.YtgkkeejhfofcaaaHf4
/- Contracts (OpGx). -/
namespace Go.Proofs.Ytgkkeejhfofcaaa
open Go.RowKit
set_option linter.unusedVariables false

theorem Bx5.put0 {w : World} {b : Nat} {v0 v1 v2 v3 v4 : Value} (h : Bx5 w b v0 v1 v2 v3 v4) (u : Value) : Bx5 (w.setCell ⟨b, 0, none⟩ u) b u v1 v2 v3 v4 := ⟨World.cell?_setCell_same _ _ _ h.1, by rw [World.cell?_setCell_other _ _ _ _ (by simp)]; exact h.2.1, by rw [World.cell?_setCell_other _ _ _ _ (by simp)]; exact h.2.2.1, by rw [World.cell?_setCell_other _ _ _ _ (by simp)]; exact h.2.2.2.1, by rw [World.cell?_setCell_other _ _ _ _ (by simp)]; exact h.2.2.2.2⟩
theorem Bx5.put1 {w : World} {b : Nat} {v0 v1 v2 v3 v4 : Value} (h : Bx5 w b v0 v1 v2 v3 v4) (u : Value) : Bx5 (w.setCell ⟨b, 1, none⟩ u) b v0 u v2 v3 v4 := ⟨by rw [World.cell?_setCell_other _ _ _ _ (by simp)]; exact h.1, World.cell?_setCell_same _ _ _ h.2.1, by rw [World.cell?_setCell_other _ _ _ _ (by simp)]; exact h.2.2.1, by rw [World.cell?_setCell_other _ _ _ _ (by simp)]; exact h.2.2.2.1, by rw [World.cell?_setCell_other _ _ _ _ (by simp)]; exact h.2.2.2.2⟩
theorem Bx5.put2 {w : World} {b : Nat} {v0 v1 v2 v3 v4 : Value} (h : Bx5 w b v0 v1 v2 v3 v4) (u : Value) : Bx5 (w.setCell ⟨b, 2, none⟩ u) b v0 v1 u v3 v4 := ⟨by rw [World.cell?_setCell_other _ _ _ _ (by simp)]; exact h.1, by rw [World.cell?_setCell_other _ _ _ _ (by simp)]; exact h.2.1, World.cell?_setCell_same _ _ _ h.2.2.1, by rw [World.cell?_setCell_other _ _ _ _ (by simp)]; exact h.2.2.2.1, by rw [World.cell?_setCell_other _ _ _ _ (by simp)]; exact h.2.2.2.2⟩
theorem Bx5.put3 {w : World} {b : Nat} {v0 v1 v2 v3 v4 : Value} (h : Bx5 w b v0 v1 v2 v3 v4) (u : Value) : Bx5 (w.setCell ⟨b, 3, none⟩ u) b v0 v1 v2 u v4 := ⟨by rw [World.cell?_setCell_other _ _ _ _ (by simp)]; exact h.1, by rw [World.cell?_setCell_other _ _ _ _ (by simp)]; exact h.2.1, by rw [World.cell?_setCell_other _ _ _ _ (by simp)]; exact h.2.2.1, World.cell?_setCell_same _ _ _ h.2.2.2.1, by rw [World.cell?_setCell_other _ _ _ _ (by simp)]; exact h.2.2.2.2⟩
theorem Bx5.put4 {w : World} {b : Nat} {v0 v1 v2 v3 v4 : Value} (h : Bx5 w b v0 v1 v2 v3 v4) (u : Value) : Bx5 (w.setCell ⟨b, 4, none⟩ u) b v0 v1 v2 v3 u := ⟨by rw [World.cell?_setCell_other _ _ _ _ (by simp)]; exact h.1, by rw [World.cell?_setCell_other _ _ _ _ (by simp)]; exact h.2.1, by rw [World.cell?_setCell_other _ _ _ _ (by simp)]; exact h.2.2.1, by rw [World.cell?_setCell_other _ _ _ _ (by simp)]; exact h.2.2.2.1, World.cell?_setCell_same _ _ _ h.2.2.2.2⟩

theorem free_kept13 {w w' : World} {g : Nat} {r : Option Nat} (hg : w.grownBy w' r) (hl : g < w.heap.size) (hr : ∀ b, r = some b → b ≠ g) (h : ∀ off, w.frozen? ⟨g, off, none⟩ = false) (off : Nat) : w'.frozen? ⟨g, off, none⟩ = false := by
  have e := hg.block g hl (fun e => hr g e.symm rfl)
  have := h off
  unfold World.frozen? at this ⊢
  simp only [e]
  exact this
theorem Bx5.kept {w w' : World} {b : Nat} {v0 v1 v2 v3 v4 : Value} {row : Option Nat} (h : Bx5 w b v0 v1 v2 v3 v4) (hg : w.grownBy w' row) (hne : some b ≠ row) : Bx5 w' b v0 v1 v2 v3 v4 := by
  have e := hg.block b h.lt hne
  exact ⟨(World.cell?_of_block (a := ⟨b, 0, none⟩) e).trans h.1, (World.cell?_of_block (a := ⟨b, 1, none⟩) e).trans h.2.1, (World.cell?_of_block (a := ⟨b, 2, none⟩) e).trans h.2.2.1, (World.cell?_of_block (a := ⟨b, 3, none⟩) e).trans h.2.2.2.1, (World.cell?_of_block (a := ⟨b, 4, none⟩) e).trans h.2.2.2.2⟩
/-- nodes in blocks from lo up to hi -/
def NdLo (w : World) (lo hi : Nat) (A : Option Addr) (n : Nat) (xs : Tr) : Prop := NdIn w hi A n xs ∧ ∀ ad, A = some ad → lo ≤ ad.block
theorem NdLo.grown {w w' : World} {lo hi n : Nat} {A : Option Addr} {xs : Tr} {row : Option Nat} (h : NdLo w lo hi A n xs) (hg : w.grownBy w' row) (hh : hi ≤ w.heap.size) (hr : ∀ b, row = some b → b < lo) : NdLo w' lo hi A n xs := by
  refine ⟨⟨h.1.1, h.1.2.1, fun ad e k hk => ?_⟩, h.2⟩
  have hlo := h.2 ad e
  have hhi : ad.block < hi := by obtain ⟨ad', e', hb⟩ := h.1.2.1 (by omega); rw [e'] at e; injection e with e; rw [← e]; exact hb
  have hx := h.1.2.2 ad e k hk
  have blk : w'.heap[ad.block]? = w.heap[ad.block]? := hg.block ad.block (by omega) (fun e2 => by have := hr _ e2.symm; omega)
  exact ⟨(World.cell?_of_block (a := ad.add (k * 2)) (by rw [block_of_add]; exact blk)).trans hx.1, (World.cell?_of_block (a := ad.add (k * 2 + 1)) (by rw [block_of_add]; exact blk)).trans hx.2⟩
theorem NdLo.below {w w' : World} {lo hi n : Nat} {A : Option Addr} {xs : Tr} (h : NdLo w lo hi A n xs) (hb : Below w.heap.size w w') (hh : hi ≤ w.heap.size) : NdLo w' lo hi A n xs := ⟨h.1.keep fun p hp => hb.cell (by omega), h.2⟩
theorem NdLo.set {w : World} {lo hi n : Nat} {A : Option Addr} {xs : Tr} (h : NdLo w lo hi A n xs) {p : Addr} (hp : hi ≤ p.block) (u : Value) : NdLo (w.setCell p u) lo hi A n xs := ⟨h.1.setCell hp u, h.2⟩
theorem NdLo.here {w : World} {lo hi n : Nat} {A : Option Addr} {xs : Tr} (h : NdLo w lo hi A n xs) (hh : hi ≤ w.heap.size) : NdIn w w.heap.size A n xs := h.1.more hh
theorem og_set {w0 wq : World} {B t : Nat} (h : w0.grownBy wq (some B)) (ht : w0.heap.size ≤ t) (i : Nat) (u : Value) : w0.grownBy (wq.setCell ⟨t, i, none⟩ u) (some B) :=
  ⟨h.os, h.tape, h.output, by simpa using h.size, fun b hb hne => by
    have := (Kit.grown_set wq t i u).block b (Nat.lt_of_lt_of_le hb h.size) (fun e => by injection e with e; omega)
    exact this.trans (h.block b hb hne)⟩
/-- an operation under way: its variable t, the answer's variable r, the cursor B -/
def OpG (w0 : World) (B r t : Nat) (k : Code) (A : Option Addr) (n : Nat) (xs : Tr) (mb : Nat) (wq : World) : Prop :=
  ∃ (kd a f z : Int) (p : List Int) (P : Option Addr) (m q : Nat), Bx5 wq t (.int .i64 kd) (.slice P m q) (.int .i64 a) (.int .i64 f) (.int .i64 z) ∧ (∀ off, wq.frozen? ⟨t, off, none⟩ = false) ∧ Bx5 wq r (.int .i64 0) (.slice none 0 0) (.int .i64 0) (.int .i64 0) (.int .i64 0) ∧ (∀ off, wq.frozen? ⟨r, off, none⟩ = false) ∧
    wq.ownsRow (r + 1) 3 1 (.slice P m q) m (ints p) ∧ (Value.slice P m q).ownBlock ≠ some t ∧ m ≤ mb ∧ NdLo wq (B + 1) w0.heap.size A n xs ∧ CurX wq B k ∧ w0.grownBy wq (some B) ∧ B < w0.heap.size ∧ w0.heap.size ≤ r ∧ r < t
section
variable {w0 wq wy : World} {B r t n mb mb' : Nat} {k : Code} {A : Option Addr} {xs : Tr}
theorem OpG.put0 (h : OpG w0 B r t k A n xs mb wq) (u : Int) : OpG w0 B r t k A n xs mb (wq.setCell ⟨t, 0, none⟩ (.int .i64 u)) := by
  obtain ⟨kd, a, f, z, p, P, m, q, h1, h2, h3, h4, h5, h6, h7, h8, h9, h10, l1, l2, l3⟩ := h
  have st := Kit.grown_set wq t 0 (.int .i64 u)
  refine ⟨u, a, f, z, p, P, m, q, h1.put0 _, fun off => by rw [World.frozen?_setCell]; exact h2 off, h3.other (by simp only; omega) _, fun off => by rw [World.frozen?_setCell]; exact h4 off, own_apart h5 st (.inr h6), h6, h7, h8.set (by simp only; omega) _, h9.kept st (fun g e => by injection e with e; omega), og_set h10 (by omega) _ _, l1, l2, l3⟩
theorem OpG.put2 (h : OpG w0 B r t k A n xs mb wq) (u : Int) : OpG w0 B r t k A n xs mb (wq.setCell ⟨t, 2, none⟩ (.int .i64 u)) := by
  obtain ⟨kd, a, f, z, p, P, m, q, h1, h2, h3, h4, h5, h6, h7, h8, h9, h10, l1, l2, l3⟩ := h
  have st := Kit.grown_set wq t 2 (.int .i64 u)
  refine ⟨kd, u, f, z, p, P, m, q, h1.put2 _, fun off => by rw [World.frozen?_setCell]; exact h2 off, h3.other (by simp only; omega) _, fun off => by rw [World.frozen?_setCell]; exact h4 off, own_apart h5 st (.inr h6), h6, h7, h8.set (by simp only; omega) _, h9.kept st (fun g e => by injection e with e; omega), og_set h10 (by omega) _ _, l1, l2, l3⟩
theorem OpG.put3 (h : OpG w0 B r t k A n xs mb wq) (u : Int) : OpG w0 B r t k A n xs mb (wq.setCell ⟨t, 3, none⟩ (.int .i64 u)) := by
  obtain ⟨kd, a, f, z, p, P, m, q, h1, h2, h3, h4, h5, h6, h7, h8, h9, h10, l1, l2, l3⟩ := h
  have st := Kit.grown_set wq t 3 (.int .i64 u)
  refine ⟨kd, a, u, z, p, P, m, q, h1.put3 _, fun off => by rw [World.frozen?_setCell]; exact h2 off, h3.other (by simp only; omega) _, fun off => by rw [World.frozen?_setCell]; exact h4 off, own_apart h5 st (.inr h6), h6, h7, h8.set (by simp only; omega) _, h9.kept st (fun g e => by injection e with e; omega), og_set h10 (by omega) _ _, l1, l2, l3⟩
theorem OpG.put4 (h : OpG w0 B r t k A n xs mb wq) (u : Int) : OpG w0 B r t k A n xs mb (wq.setCell ⟨t, 4, none⟩ (.int .i64 u)) := by
  obtain ⟨kd, a, f, z, p, P, m, q, h1, h2, h3, h4, h5, h6, h7, h8, h9, h10, l1, l2, l3⟩ := h
  have st := Kit.grown_set wq t 4 (.int .i64 u)
  refine ⟨kd, a, f, u, p, P, m, q, h1.put4 _, fun off => by rw [World.frozen?_setCell]; exact h2 off, h3.other (by simp only; omega) _, fun off => by rw [World.frozen?_setCell]; exact h4 off, own_apart h5 st (.inr h6), h6, h7, h8.set (by simp only; omega) _, h9.kept st (fun g e => by injection e with e; omega), og_set h10 (by omega) _ _, l1, l2, l3⟩

theorem OpG.drawn (h : OpG w0 B r t k A n xs mb wq) (hc : CurX wy B k) (hg : wq.grownBy wy (some B)) : OpG w0 B r t k A n xs mb wy := by
  obtain ⟨kd, a, f, z, p, P, m, q, h1, h2, h3, h4, h5, h6, h7, h8, h9, h10, l1, l2, l3⟩ := h
  refine ⟨kd, a, f, z, p, P, m, q, h1.kept hg (fun e => by injection e with e; omega), free_kept13 hg h1.lt (fun b e => by injection e with e; omega) h2, h3.kept hg (fun e => by injection e with e; omega), free_kept13 hg h3.lt (fun b e => by injection e with e; omega) h4, own_apart h5 hg (.inr fun e => by have := (h5.lt B e).1; omega), h6, h7, h8.grown hg h10.size (fun b e => by injection e with e; omega), hc, Kit.grown_trans h10 hg, l1, l2, l3⟩
theorem OpG.below (h : OpG w0 B r t k A n xs mb wq) (hb : Below wq.heap.size wq wy) : OpG w0 B r t k A n xs mb wy := by
  obtain ⟨kd, a, f, z, p, P, m, q, h1, h2, h3, h4, h5, h6, h7, h8, h9, h10, l1, l2, l3⟩ := h
  have hg : wq.grownBy wy none := ⟨hb.os, hb.tape, hb.output, hb.size, fun b hl _ => hb.block b hl⟩
  refine ⟨kd, a, f, z, p, P, m, q, h1.keep hb, free_below hb h1.lt h2, h3.keep hb, free_below hb h3.lt h4, own_below h5 hb, h6, h7, h8.below hb h10.size, h9.kept hg (fun g e => by cases e), ⟨hb.os.trans h10.os, hb.tape.trans h10.tape, hb.output.trans h10.output, Nat.le_trans h10.size hb.size, fun b hl hne => (hb.block b (Nat.lt_of_lt_of_le hl h10.size)).trans (h10.block b hl hne)⟩, l1, l2, l3⟩
/-- another path: a row of the call's own -/
theorem OpG.put1 {P' : Option Addr} {m' q' : Nat} {p' : List Int} (h : OpG w0 B r t k A n xs mb wq) (ho : wq.ownsRow (r + 1) 3 1 (.slice P' m' q') m' (ints p')) (hne : (Value.slice P' m' q').ownBlock ≠ some t) (hm : m' ≤ mb') : OpG w0 B r t k A n xs mb' (wq.setCell ⟨t, 1, none⟩ (.slice P' m' q')) := by
  obtain ⟨kd, a, f, z, p, P, m, q, h1, h2, h3, h4, h5, h6, h7, h8, h9, h10, l1, l2, l3⟩ := h
  have st := Kit.grown_set wq t 1 (.slice P' m' q')
  refine ⟨kd, a, f, z, p', P', m', q', h1.put1 _, fun off => by rw [World.frozen?_setCell]; exact h2 off, h3.other (by simp only; omega) _, fun off => by rw [World.frozen?_setCell]; exact h4 off, own_apart ho st (.inr hne), hne, hm, h8.set (by simp only; omega) _, h9.kept st (fun g e => by injection e with e; omega), og_set h10 (by omega) _ _, l1, l2, l3⟩
theorem OpG.cur (h : OpG w0 B r t k A n xs mb wq) : CurX wq B k := by
  obtain ⟨kd, a, f, z, p, P, m, q, h1, h2, h3, h4, h5, h6, h7, h8, h9, h10⟩ := h
  exact h9
theorem OpG.nodes (h : OpG w0 B r t k A n xs mb wq) : NdIn wq wq.heap.size A n xs := by
  obtain ⟨kd, a, f, z, p, P, m, q, h1, h2, h3, h4, h5, h6, h7, h8, h9, h10, _⟩ := h
  exact h8.here h10.size
/-- .. the path's row apart -/
def OpR (w0 : World) (B r t : Nat) (k : Code) (A : Option Addr) (n : Nat) (xs : Tr) (V : Value) (wq : World) : Prop :=
  ∃ kd a f z : Int, Bx5 wq t (.int .i64 kd) V (.int .i64 a) (.int .i64 f) (.int .i64 z) ∧ (∀ off, wq.frozen? ⟨t, off, none⟩ = false) ∧ Bx5 wq r (.int .i64 0) (.slice none 0 0) (.int .i64 0) (.int .i64 0) (.int .i64 0) ∧ (∀ off, wq.frozen? ⟨r, off, none⟩ = false) ∧
    NdLo wq (B + 1) w0.heap.size A n xs ∧ CurX wq B k ∧ w0.grownBy wq (some B) ∧ B < w0.heap.size ∧ w0.heap.size ≤ r ∧ r < t
theorem OpG.parts (h : OpG w0 B r t k A n xs mb wq) : ∃ (p : List Int) (P : Option Addr) (m q : Nat), OpR w0 B r t k A n xs (.slice P m q) wq ∧ wq.ownsRow (r + 1) 3 1 (.slice P m q) m (ints p) ∧ (Value.slice P m q).ownBlock ≠ some t ∧ m ≤ mb := by
  obtain ⟨kd, a, f, z, p, P, m, q, h1, h2, h3, h4, h5, h6, h7, h8, h9, h10, l1, l2, l3⟩ := h
  exact ⟨p, P, m, q, ⟨kd, a, f, z, h1, h2, h3, h4, h8, h9, h10, l1, l2, l3⟩, h5, h6, h7⟩
theorem OpR.drawn {V : Value} (h : OpR w0 B r t k A n xs V wq) (hc : CurX wy B k) (hg : wq.grownBy wy (some B)) : OpR w0 B r t k A n xs V wy := by
  obtain ⟨kd, a, f, z, h1, h2, h3, h4, h8, h9, h10, l1, l2, l3⟩ := h
  exact ⟨kd, a, f, z, h1.kept hg (fun e => by injection e with e; omega), free_kept13 hg h1.lt (fun b e => by injection e with e; omega) h2, h3.kept hg (fun e => by injection e with e; omega), free_kept13 hg h3.lt (fun b e => by injection e with e; omega) h4, h8.grown hg h10.size (fun b e => by injection e with e; omega), hc, Kit.grown_trans h10 hg, l1, l2, l3⟩
/-- .. where a row of the call's own grows -/
theorem OpR.row {V : Value} {row : Option Nat} (h : OpR w0 B r t k A n xs V wq) (hg : wq.grownBy wy row) (hr : ∀ b, row = some b → r + 1 ≤ b ∧ b ≠ t) : OpR w0 B r t k A n xs V wy := by
  obtain ⟨kd, a, f, z, h1, h2, h3, h4, h8, h9, h10, l1, l2, l3⟩ := h
  refine ⟨kd, a, f, z, h1.kept hg (fun e => (hr _ e.symm).2 rfl), free_kept13 hg h1.lt (fun b e => (hr b e).2) h2, h3.kept hg (fun e => by have := (hr _ e.symm).1; omega), free_kept13 hg h3.lt (fun b e => by have := (hr b e).1; omega) h4, ⟨h8.1.keep fun pp hp => World.cell?_of_block (hg.block pp.block (by have := h10.size; omega) (fun e => by have := (hr _ e.symm).1; omega)), h8.2⟩, h9.kept hg (fun b e => by have := (hr b e).1; omega), ⟨hg.os.trans h10.os, hg.tape.trans h10.tape, hg.output.trans h10.output, Nat.le_trans h10.size hg.size, fun b hl hne => (hg.block b (Nat.lt_of_lt_of_le hl h10.size) (fun e => by have := (hr b e.symm).1; omega)).trans (h10.block b hl hne)⟩, l1, l2, l3⟩
theorem OpR.put1 {V : Value} {P' : Option Addr} {m' q' : Nat} {p' : List Int} (h : OpR w0 B r t k A n xs V wq) (ho : wq.ownsRow (r + 1) 3 1 (.slice P' m' q') m' (ints p')) (hne : (Value.slice P' m' q').ownBlock ≠ some t) (hm : m' ≤ mb') : OpG w0 B r t k A n xs mb' (wq.setCell ⟨t, 1, none⟩ (.slice P' m' q')) := by
  obtain ⟨kd, a, f, z, h1, h2, h3, h4, h8, h9, h10, l1, l2, l3⟩ := h
  have st := Kit.grown_set wq t 1 (.slice P' m' q')
  exact ⟨kd, a, f, z, p', P', m', q', h1.put1 _, fun off => by rw [World.frozen?_setCell]; exact h2 off, h3.other (by simp only; omega) _, fun off => by rw [World.frozen?_setCell]; exact h4 off, own_apart ho st (.inr hne), hne, hm, h8.set (by simp only; omega) _, h9.kept st (fun g e => by injection e with e; omega), og_set h10 (by omega) _ _, l1, l2, l3⟩
theorem opr_S {V : Value} (h : OpR w0 B r t k A n xs V wq) : wq.cell? ⟨t, 1, none⟩ = some V ∧ OpR w0 B r t k A n xs V wq := ⟨by obtain ⟨kd, a, f, z, h1, _⟩ := h; exact h1.2.1, h⟩
theorem OpR.cur {V : Value} (h : OpR w0 B r t k A n xs V wq) : CurX wq B k := by
  obtain ⟨kd, a, f, z, h1, h2, h3, h4, h8, h9, _⟩ := h
  exact h9
theorem OpR.free {V : Value} (h : OpR w0 B r t k A n xs V wq) : ∀ off, wq.frozen? ⟨t, off, none⟩ = false := by
  obtain ⟨kd, a, f, z, h1, h2, _⟩ := h
  exact h2
theorem OpR.lts {V : Value} (h : OpR w0 B r t k A n xs V wq) : B < r ∧ r < t ∧ t < wq.heap.size := by
  obtain ⟨kd, a, f, z, h1, h2, h3, h4, h8, h9, h10, l1, l2, l3⟩ := h
  exact ⟨by omega, l3, h1.lt⟩
theorem OpR.alloc {V : Value} (h : OpR w0 B r t k A n xs V wq) (o : Obj) : OpR w0 B r t k A n xs V (wq.alloc o) := h.row (row := none) (Kit.grown_alloc wq o none) (fun b e => by cases e)
theorem OpR.drew {V : Value} (h : OpR w0 B r t k A n xs V wq) : OpR w0 B r t k A n xs V wq.drew := h.row (row := none) (Kit.grown_drewN wq 1 none) (fun b e => by cases e)
theorem OpG.more (h : OpG w0 B r t k A n xs mb wq) (hm : mb ≤ mb') : OpG w0 B r t k A n xs mb' wq := by
  obtain ⟨kd, a, f, z, p, P, m, q, h1, h2, h3, h4, h5, h6, h7, h8⟩ := h
  exact ⟨kd, a, f, z, p, P, m, q, h1, h2, h3, h4, h5, h6, Nat.le_trans h7 hm, h8⟩
end

end Go.Proofs.Ytgkkeejhfofcaaa
