/- Texts of one claim laid into one file, in build order: OpGx, Opp, Pth, ParS. -/
import Derived.Test.YtgkkeejhfofcaaaHe13
import Derived.Test.YtgkkeejhfofcaaaHe2
import Derived.Test.YtgkkeejhfofcaaaHe21
import Derived.Test.YtgkkeejhfofcaaaHe22
import Derived.Test.YtgkkeejhfofcaaaHe5
import Derived.Outline
/- Contracts (OpGx). -/
namespace Go.Proofs.Ytgkkeejhfofcaaa
open Go.RowKit
set_option linter.unusedVariables false

theorem Bx5.put0 {w : World} {b : Nat} {v0 v1 v2 v3 v4 : Value} (h : Bx5 w b v0 v1 v2 v3 v4) (u : Value) : Bx5 (w.setCell ⟨b, 0, none⟩ u) b u v1 v2 v3 v4 := ⟨World.cell?_setCell_same _ _ _ h.1, by rw [World.cell?_setCell_other _ _ _ _ (by simp)]; exact h.2.1, by rw [World.cell?_setCell_other _ _ _ _ (by simp)]; exact h.2.2.1, by rw [World.cell?_setCell_other _ _ _ _ (by simp)]; exact h.2.2.2.1, by rw [World.cell?_setCell_other _ _ _ _ (by simp)]; exact h.2.2.2.2⟩
theorem Bx5.put1 {w : World} {b : Nat} {v0 v1 v2 v3 v4 : Value} (h : Bx5 w b v0 v1 v2 v3 v4) (u : Value) : Bx5 (w.setCell ⟨b, 1, none⟩ u) b v0 u v2 v3 v4 := ⟨by rw [World.cell?_setCell_other _ _ _ _ (by simp)]; exact h.1, World.cell?_setCell_same _ _ _ h.2.1, by rw [World.cell?_setCell_other _ _ _ _ (by simp)]; exact h.2.2.1, by rw [World.cell?_setCell_other _ _ _ _ (by simp)]; exact h.2.2.2.1, by rw [World.cell?_setCell_other _ _ _ _ (by simp)]; exact h.2.2.2.2⟩
theorem Bx5.put2 {w : World} {b : Nat} {v0 v1 v2 v3 v4 : Value} (h : Bx5 w b v0 v1 v2 v3 v4) (u : Value) : Bx5 (w.setCell ⟨b, 2, none⟩ u) b v0 v1 u v3 v4 := ⟨by rw [World.cell?_setCell_other _ _ _ _ (by simp)]; exact h.1, by rw [World.cell?_setCell_other _ _ _ _ (by simp)]; exact h.2.1, World.cell?_setCell_same _ _ _ h.2.2.1, by rw [World.cell?_setCell_other _ _ _ _ (by simp)]; exact h.2.2.2.1, by rw [World.cell?_setCell_other _ _ _ _ (by simp)]; exact h.2.2.2.2⟩
theorem Bx5.put3 {w : World} {b : Nat} {v0 v1 v2 v3 v4 : Value} (h : Bx5 w b v0 v1 v2 v3 v4) (u : Value) : Bx5 (w.setCell ⟨b, 3, none⟩ u) b v0 v1 v2 u v4 := ⟨by rw [World.cell?_setCell_other _ _ _ _ (by simp)]; exact h.1, by rw [World.cell?_setCell_other _ _ _ _ (by simp)]; exact h.2.1, by rw [World.cell?_setCell_other _ _ _ _ (by simp)]; exact h.2.2.1, World.cell?_setCell_same _ _ _ h.2.2.2.1, by rw [World.cell?_setCell_other _ _ _ _ (by simp)]; exact h.2.2.2.2⟩
theorem Bx5.put4 {w : World} {b : Nat} {v0 v1 v2 v3 v4 : Value} (h : Bx5 w b v0 v1 v2 v3 v4) (u : Value) : Bx5 (w.setCell ⟨b, 4, none⟩ u) b v0 v1 v2 v3 u := ⟨by rw [World.cell?_setCell_other _ _ _ _ (by simp)]; exact h.1, by rw [World.cell?_setCell_other _ _ _ _ (by simp)]; exact h.2.1, by rw [World.cell?_setCell_other _ _ _ _ (by simp)]; exact h.2.2.1, by rw [World.cell?_setCell_other _ _ _ _ (by simp)]; exact h.2.2.2.1, World.cell?_setCell_same _ _ _ h.2.2.2.2⟩

theorem free_kept13 {w w' : World} {g : Nat} {r : Option Nat} (hg : w.grownBy w' r) (hl : g < w.heap.size) (hr : ∀ b, r = some b → b ≠ g) (h : ∀ off, w.frozen? ⟨g, off, none⟩ = false) (off : Nat) : w'.frozen? ⟨g, off, none⟩ = false := by
  have e := hg.block g hl (fun e => hr g e.symm rfl)
  have := h off
  unfold World.frozen? at this ⊢
  simp only [e]
  exact this
theorem Bx5.kept {w w' : World} {b : Nat} {v0 v1 v2 v3 v4 : Value} {row : Option Nat} (h : Bx5 w b v0 v1 v2 v3 v4) (hg : w.grownBy w' row) (hne : some b ≠ row) : Bx5 w' b v0 v1 v2 v3 v4 := by
  have e := hg.block b h.lt hne
  exact ⟨(World.cell?_of_block (a := ⟨b, 0, none⟩) e).trans h.1, (World.cell?_of_block (a := ⟨b, 1, none⟩) e).trans h.2.1, (World.cell?_of_block (a := ⟨b, 2, none⟩) e).trans h.2.2.1, (World.cell?_of_block (a := ⟨b, 3, none⟩) e).trans h.2.2.2.1, (World.cell?_of_block (a := ⟨b, 4, none⟩) e).trans h.2.2.2.2⟩
/-- nodes in blocks from lo up to hi -/
def NdLo (w : World) (lo hi : Nat) (A : Option Addr) (n : Nat) (xs : Tr) : Prop := NdIn w hi A n xs ∧ ∀ ad, A = some ad → lo ≤ ad.block
theorem NdLo.grown {w w' : World} {lo hi n : Nat} {A : Option Addr} {xs : Tr} {row : Option Nat} (h : NdLo w lo hi A n xs) (hg : w.grownBy w' row) (hh : hi ≤ w.heap.size) (hr : ∀ b, row = some b → b < lo) : NdLo w' lo hi A n xs := by
  refine ⟨⟨h.1.1, h.1.2.1, fun ad e k hk => ?_⟩, h.2⟩
  have hlo := h.2 ad e
  have hhi : ad.block < hi := by obtain ⟨ad', e', hb⟩ := h.1.2.1 (by omega); rw [e'] at e; injection e with e; rw [← e]; exact hb
  have hx := h.1.2.2 ad e k hk
  have blk : w'.heap[ad.block]? = w.heap[ad.block]? := hg.block ad.block (by omega) (fun e2 => by have := hr _ e2.symm; omega)
  exact ⟨(World.cell?_of_block (a := ad.add (k * 2)) (by rw [block_of_add]; exact blk)).trans hx.1, (World.cell?_of_block (a := ad.add (k * 2 + 1)) (by rw [block_of_add]; exact blk)).trans hx.2⟩
theorem NdLo.below {w w' : World} {lo hi n : Nat} {A : Option Addr} {xs : Tr} (h : NdLo w lo hi A n xs) (hb : Below w.heap.size w w') (hh : hi ≤ w.heap.size) : NdLo w' lo hi A n xs := ⟨h.1.keep fun p hp => hb.cell (by omega), h.2⟩
theorem NdLo.set {w : World} {lo hi n : Nat} {A : Option Addr} {xs : Tr} (h : NdLo w lo hi A n xs) {p : Addr} (hp : hi ≤ p.block) (u : Value) : NdLo (w.setCell p u) lo hi A n xs := ⟨h.1.setCell hp u, h.2⟩
theorem NdLo.here {w : World} {lo hi n : Nat} {A : Option Addr} {xs : Tr} (h : NdLo w lo hi A n xs) (hh : hi ≤ w.heap.size) : NdIn w w.heap.size A n xs := h.1.more hh
theorem og_set {w0 wq : World} {B t : Nat} (h : w0.grownBy wq (some B)) (ht : w0.heap.size ≤ t) (i : Nat) (u : Value) : w0.grownBy (wq.setCell ⟨t, i, none⟩ u) (some B) :=
  ⟨h.os, h.tape, h.output, by simpa using h.size, fun b hb hne => by
    have := (Kit.grown_set wq t i u).block b (Nat.lt_of_lt_of_le hb h.size) (fun e => by injection e with e; omega)
    exact this.trans (h.block b hb hne)⟩
/-- an operation under way: its variable t, the answer's variable r, the cursor B -/
def OpG (w0 : World) (B r t : Nat) (k : Code) (A : Option Addr) (n : Nat) (xs : Tr) (mb : Nat) (wq : World) : Prop :=
  ∃ (kd a f z : Int) (p : List Int) (P : Option Addr) (m q : Nat), Bx5 wq t (.int .i64 kd) (.slice P m q) (.int .i64 a) (.int .i64 f) (.int .i64 z) ∧ (∀ off, wq.frozen? ⟨t, off, none⟩ = false) ∧ Bx5 wq r (.int .i64 0) (.slice none 0 0) (.int .i64 0) (.int .i64 0) (.int .i64 0) ∧ (∀ off, wq.frozen? ⟨r, off, none⟩ = false) ∧
    wq.ownsRow (r + 1) 3 1 (.slice P m q) m (ints p) ∧ (Value.slice P m q).ownBlock ≠ some t ∧ m ≤ mb ∧ NdLo wq (B + 1) w0.heap.size A n xs ∧ CurX wq B k ∧ w0.grownBy wq (some B) ∧ B < w0.heap.size ∧ w0.heap.size ≤ r ∧ r < t
section
variable {w0 wq wy : World} {B r t n mb mb' : Nat} {k : Code} {A : Option Addr} {xs : Tr}
theorem OpG.put0 (h : OpG w0 B r t k A n xs mb wq) (u : Int) : OpG w0 B r t k A n xs mb (wq.setCell ⟨t, 0, none⟩ (.int .i64 u)) := by
  obtain ⟨kd, a, f, z, p, P, m, q, h1, h2, h3, h4, h5, h6, h7, h8, h9, h10, l1, l2, l3⟩ := h
  have st := Kit.grown_set wq t 0 (.int .i64 u)
  refine ⟨u, a, f, z, p, P, m, q, h1.put0 _, fun off => by rw [World.frozen?_setCell]; exact h2 off, h3.other (by simp only; omega) _, fun off => by rw [World.frozen?_setCell]; exact h4 off, own_apart h5 st (.inr h6), h6, h7, h8.set (by simp only; omega) _, h9.kept st (fun g e => by injection e with e; omega), og_set h10 (by omega) _ _, l1, l2, l3⟩
theorem OpG.put2 (h : OpG w0 B r t k A n xs mb wq) (u : Int) : OpG w0 B r t k A n xs mb (wq.setCell ⟨t, 2, none⟩ (.int .i64 u)) := by
  obtain ⟨kd, a, f, z, p, P, m, q, h1, h2, h3, h4, h5, h6, h7, h8, h9, h10, l1, l2, l3⟩ := h
  have st := Kit.grown_set wq t 2 (.int .i64 u)
  refine ⟨kd, u, f, z, p, P, m, q, h1.put2 _, fun off => by rw [World.frozen?_setCell]; exact h2 off, h3.other (by simp only; omega) _, fun off => by rw [World.frozen?_setCell]; exact h4 off, own_apart h5 st (.inr h6), h6, h7, h8.set (by simp only; omega) _, h9.kept st (fun g e => by injection e with e; omega), og_set h10 (by omega) _ _, l1, l2, l3⟩
theorem OpG.put3 (h : OpG w0 B r t k A n xs mb wq) (u : Int) : OpG w0 B r t k A n xs mb (wq.setCell ⟨t, 3, none⟩ (.int .i64 u)) := by
  obtain ⟨kd, a, f, z, p, P, m, q, h1, h2, h3, h4, h5, h6, h7, h8, h9, h10, l1, l2, l3⟩ := h
  have st := Kit.grown_set wq t 3 (.int .i64 u)
  refine ⟨kd, a, u, z, p, P, m, q, h1.put3 _, fun off => by rw [World.frozen?_setCell]; exact h2 off, h3.other (by simp only; omega) _, fun off => by rw [World.frozen?_setCell]; exact h4 off, own_apart h5 st (.inr h6), h6, h7, h8.set (by simp only; omega) _, h9.kept st (fun g e => by injection e with e; omega), og_set h10 (by omega) _ _, l1, l2, l3⟩
theorem OpG.put4 (h : OpG w0 B r t k A n xs mb wq) (u : Int) : OpG w0 B r t k A n xs mb (wq.setCell ⟨t, 4, none⟩ (.int .i64 u)) := by
  obtain ⟨kd, a, f, z, p, P, m, q, h1, h2, h3, h4, h5, h6, h7, h8, h9, h10, l1, l2, l3⟩ := h
  have st := Kit.grown_set wq t 4 (.int .i64 u)
  refine ⟨kd, a, f, u, p, P, m, q, h1.put4 _, fun off => by rw [World.frozen?_setCell]; exact h2 off, h3.other (by simp only; omega) _, fun off => by rw [World.frozen?_setCell]; exact h4 off, own_apart h5 st (.inr h6), h6, h7, h8.set (by simp only; omega) _, h9.kept st (fun g e => by injection e with e; omega), og_set h10 (by omega) _ _, l1, l2, l3⟩

theorem OpG.drawn (h : OpG w0 B r t k A n xs mb wq) (hc : CurX wy B k) (hg : wq.grownBy wy (some B)) : OpG w0 B r t k A n xs mb wy := by
  obtain ⟨kd, a, f, z, p, P, m, q, h1, h2, h3, h4, h5, h6, h7, h8, h9, h10, l1, l2, l3⟩ := h
  refine ⟨kd, a, f, z, p, P, m, q, h1.kept hg (fun e => by injection e with e; omega), free_kept13 hg h1.lt (fun b e => by injection e with e; omega) h2, h3.kept hg (fun e => by injection e with e; omega), free_kept13 hg h3.lt (fun b e => by injection e with e; omega) h4, own_apart h5 hg (.inr fun e => by have := (h5.lt B e).1; omega), h6, h7, h8.grown hg h10.size (fun b e => by injection e with e; omega), hc, Kit.grown_trans h10 hg, l1, l2, l3⟩
theorem OpG.below (h : OpG w0 B r t k A n xs mb wq) (hb : Below wq.heap.size wq wy) : OpG w0 B r t k A n xs mb wy := by
  obtain ⟨kd, a, f, z, p, P, m, q, h1, h2, h3, h4, h5, h6, h7, h8, h9, h10, l1, l2, l3⟩ := h
  have hg : wq.grownBy wy none := ⟨hb.os, hb.tape, hb.output, hb.size, fun b hl _ => hb.block b hl⟩
  refine ⟨kd, a, f, z, p, P, m, q, h1.keep hb, free_below hb h1.lt h2, h3.keep hb, free_below hb h3.lt h4, own_below h5 hb, h6, h7, h8.below hb h10.size, h9.kept hg (fun g e => by cases e), ⟨hb.os.trans h10.os, hb.tape.trans h10.tape, hb.output.trans h10.output, Nat.le_trans h10.size hb.size, fun b hl hne => (hb.block b (Nat.lt_of_lt_of_le hl h10.size)).trans (h10.block b hl hne)⟩, l1, l2, l3⟩
/-- another path: a row of the call's own -/
theorem OpG.put1 {P' : Option Addr} {m' q' : Nat} {p' : List Int} (h : OpG w0 B r t k A n xs mb wq) (ho : wq.ownsRow (r + 1) 3 1 (.slice P' m' q') m' (ints p')) (hne : (Value.slice P' m' q').ownBlock ≠ some t) (hm : m' ≤ mb') : OpG w0 B r t k A n xs mb' (wq.setCell ⟨t, 1, none⟩ (.slice P' m' q')) := by
  obtain ⟨kd, a, f, z, p, P, m, q, h1, h2, h3, h4, h5, h6, h7, h8, h9, h10, l1, l2, l3⟩ := h
  have st := Kit.grown_set wq t 1 (.slice P' m' q')
  refine ⟨kd, a, f, z, p', P', m', q', h1.put1 _, fun off => by rw [World.frozen?_setCell]; exact h2 off, h3.other (by simp only; omega) _, fun off => by rw [World.frozen?_setCell]; exact h4 off, own_apart ho st (.inr hne), hne, hm, h8.set (by simp only; omega) _, h9.kept st (fun g e => by injection e with e; omega), og_set h10 (by omega) _ _, l1, l2, l3⟩
theorem OpG.cur (h : OpG w0 B r t k A n xs mb wq) : CurX wq B k := by
  obtain ⟨kd, a, f, z, p, P, m, q, h1, h2, h3, h4, h5, h6, h7, h8, h9, h10⟩ := h
  exact h9
theorem OpG.nodes (h : OpG w0 B r t k A n xs mb wq) : NdIn wq wq.heap.size A n xs := by
  obtain ⟨kd, a, f, z, p, P, m, q, h1, h2, h3, h4, h5, h6, h7, h8, h9, h10, _⟩ := h
  exact h8.here h10.size
/-- .. the path's row apart -/
def OpR (w0 : World) (B r t : Nat) (k : Code) (A : Option Addr) (n : Nat) (xs : Tr) (V : Value) (wq : World) : Prop :=
  ∃ kd a f z : Int, Bx5 wq t (.int .i64 kd) V (.int .i64 a) (.int .i64 f) (.int .i64 z) ∧ (∀ off, wq.frozen? ⟨t, off, none⟩ = false) ∧ Bx5 wq r (.int .i64 0) (.slice none 0 0) (.int .i64 0) (.int .i64 0) (.int .i64 0) ∧ (∀ off, wq.frozen? ⟨r, off, none⟩ = false) ∧
    NdLo wq (B + 1) w0.heap.size A n xs ∧ CurX wq B k ∧ w0.grownBy wq (some B) ∧ B < w0.heap.size ∧ w0.heap.size ≤ r ∧ r < t
theorem OpG.parts (h : OpG w0 B r t k A n xs mb wq) : ∃ (p : List Int) (P : Option Addr) (m q : Nat), OpR w0 B r t k A n xs (.slice P m q) wq ∧ wq.ownsRow (r + 1) 3 1 (.slice P m q) m (ints p) ∧ (Value.slice P m q).ownBlock ≠ some t ∧ m ≤ mb := by
  obtain ⟨kd, a, f, z, p, P, m, q, h1, h2, h3, h4, h5, h6, h7, h8, h9, h10, l1, l2, l3⟩ := h
  exact ⟨p, P, m, q, ⟨kd, a, f, z, h1, h2, h3, h4, h8, h9, h10, l1, l2, l3⟩, h5, h6, h7⟩
theorem OpR.drawn {V : Value} (h : OpR w0 B r t k A n xs V wq) (hc : CurX wy B k) (hg : wq.grownBy wy (some B)) : OpR w0 B r t k A n xs V wy := by
  obtain ⟨kd, a, f, z, h1, h2, h3, h4, h8, h9, h10, l1, l2, l3⟩ := h
  exact ⟨kd, a, f, z, h1.kept hg (fun e => by injection e with e; omega), free_kept13 hg h1.lt (fun b e => by injection e with e; omega) h2, h3.kept hg (fun e => by injection e with e; omega), free_kept13 hg h3.lt (fun b e => by injection e with e; omega) h4, h8.grown hg h10.size (fun b e => by injection e with e; omega), hc, Kit.grown_trans h10 hg, l1, l2, l3⟩
/-- .. where a row of the call's own grows -/
theorem OpR.row {V : Value} {row : Option Nat} (h : OpR w0 B r t k A n xs V wq) (hg : wq.grownBy wy row) (hr : ∀ b, row = some b → r + 1 ≤ b ∧ b ≠ t) : OpR w0 B r t k A n xs V wy := by
  obtain ⟨kd, a, f, z, h1, h2, h3, h4, h8, h9, h10, l1, l2, l3⟩ := h
  refine ⟨kd, a, f, z, h1.kept hg (fun e => (hr _ e.symm).2 rfl), free_kept13 hg h1.lt (fun b e => (hr b e).2) h2, h3.kept hg (fun e => by have := (hr _ e.symm).1; omega), free_kept13 hg h3.lt (fun b e => by have := (hr b e).1; omega) h4, ⟨h8.1.keep fun pp hp => World.cell?_of_block (hg.block pp.block (by have := h10.size; omega) (fun e => by have := (hr _ e.symm).1; omega)), h8.2⟩, h9.kept hg (fun b e => by have := (hr b e).1; omega), ⟨hg.os.trans h10.os, hg.tape.trans h10.tape, hg.output.trans h10.output, Nat.le_trans h10.size hg.size, fun b hl hne => (hg.block b (Nat.lt_of_lt_of_le hl h10.size) (fun e => by have := (hr b e.symm).1; omega)).trans (h10.block b hl hne)⟩, l1, l2, l3⟩
theorem OpR.put1 {V : Value} {P' : Option Addr} {m' q' : Nat} {p' : List Int} (h : OpR w0 B r t k A n xs V wq) (ho : wq.ownsRow (r + 1) 3 1 (.slice P' m' q') m' (ints p')) (hne : (Value.slice P' m' q').ownBlock ≠ some t) (hm : m' ≤ mb') : OpG w0 B r t k A n xs mb' (wq.setCell ⟨t, 1, none⟩ (.slice P' m' q')) := by
  obtain ⟨kd, a, f, z, h1, h2, h3, h4, h8, h9, h10, l1, l2, l3⟩ := h
  have st := Kit.grown_set wq t 1 (.slice P' m' q')
  exact ⟨kd, a, f, z, p', P', m', q', h1.put1 _, fun off => by rw [World.frozen?_setCell]; exact h2 off, h3.other (by simp only; omega) _, fun off => by rw [World.frozen?_setCell]; exact h4 off, own_apart ho st (.inr hne), hne, hm, h8.set (by simp only; omega) _, h9.kept st (fun g e => by injection e with e; omega), og_set h10 (by omega) _ _, l1, l2, l3⟩
theorem opr_S {V : Value} (h : OpR w0 B r t k A n xs V wq) : wq.cell? ⟨t, 1, none⟩ = some V ∧ OpR w0 B r t k A n xs V wq := ⟨by obtain ⟨kd, a, f, z, h1, _⟩ := h; exact h1.2.1, h⟩
theorem OpR.cur {V : Value} (h : OpR w0 B r t k A n xs V wq) : CurX wq B k := by
  obtain ⟨kd, a, f, z, h1, h2, h3, h4, h8, h9, _⟩ := h
  exact h9
theorem OpR.free {V : Value} (h : OpR w0 B r t k A n xs V wq) : ∀ off, wq.frozen? ⟨t, off, none⟩ = false := by
  obtain ⟨kd, a, f, z, h1, h2, _⟩ := h
  exact h2
theorem OpR.lts {V : Value} (h : OpR w0 B r t k A n xs V wq) : B < r ∧ r < t ∧ t < wq.heap.size := by
  obtain ⟨kd, a, f, z, h1, h2, h3, h4, h8, h9, h10, l1, l2, l3⟩ := h
  exact ⟨by omega, l3, h1.lt⟩
theorem OpR.alloc {V : Value} (h : OpR w0 B r t k A n xs V wq) (o : Obj) : OpR w0 B r t k A n xs V (wq.alloc o) := h.row (row := none) (Kit.grown_alloc wq o none) (fun b e => by cases e)
theorem OpR.drew {V : Value} (h : OpR w0 B r t k A n xs V wq) : OpR w0 B r t k A n xs V wq.drew := h.row (row := none) (Kit.grown_drewN wq 1 none) (fun b e => by cases e)
theorem OpG.more (h : OpG w0 B r t k A n xs mb wq) (hm : mb ≤ mb') : OpG w0 B r t k A n xs mb' wq := by
  obtain ⟨kd, a, f, z, p, P, m, q, h1, h2, h3, h4, h5, h6, h7, h8⟩ := h
  exact ⟨kd, a, f, z, p, P, m, q, h1, h2, h3, h4, h5, h6, Nat.le_trans h7 hm, h8⟩
end

end Go.Proofs.Ytgkkeejhfofcaaa

/- Contracts (Opp). -/
namespace Go.Proofs.Ytgkkeejhfofcaaa
open Go.RowKit
set_option linter.unusedVariables false


/-! The path of a node. -/
def Tr.pathF (xs : Tr) : Nat → Int → List Int
  | 0, _ => []
  | f + 1, i => if Tr.kidRank xs i < 0 then [] else Tr.pathF xs f (Tr.parentOf xs i) ++ [Tr.kidRank xs i]
def Tr.path (xs : Tr) (i : Int) : List Int := Tr.pathF xs xs.length i
theorem Tr.rank_no {xs : Tr} {i : Int} (h : Tr.has xs i = false) : Tr.kidRank xs i = -1 := by
  unfold Tr.kidRank
  rw [if_pos (by unfold Tr.parentOf; rw [h]; simp)]
theorem Tr.path_no {xs : Tr} {i : Int} (h : Tr.has xs i = false) : Tr.path xs i = [] := by
  unfold Tr.path
  cases xs.length with
  | zero => rfl
  | succ f => rw [Tr.pathF, if_pos (by rw [Tr.rank_no h]; decide)]
section
variable {xs : Tr} (hok : Tr.ok xs = true)
include hok
theorem Tr.rank_root : Tr.kidRank xs ((0 : Nat) : Int) < 0 := by
  have n := Tr.len24 hok
  have h := Tr.rank_pos hok (j := 0) (by omega)
  by_cases c : 0 ≤ Tr.kidRank xs ((0 : Nat) : Int)
  · exact absurd (h.1 c) (Nat.lt_irrefl _)
  · omega
theorem Tr.pathF_same : ∀ (f i : Nat), i < xs.length → i ≤ f → Tr.pathF xs f (i : Int) = Tr.pathF xs i (i : Int)
  | 0, i, hi, h => by obtain rfl : i = 0 := by omega
                      rfl
  | f + 1, 0, hi, h => by
    have := Tr.rank_root hok
    show (if Tr.kidRank xs ((0 : Nat) : Int) < 0 then _ else _) = _
    rw [if_pos this]; rfl
  | f + 1, i + 1, hi, h => by
    obtain ⟨p, hp, e, _, _⟩ := Tr.parent_pos hok hi (Nat.succ_pos i)
    rw [Tr.pathF, Tr.pathF, e, Tr.pathF_same f p (by omega) (by omega), Tr.pathF_same i p (by omega) (by omega)]
theorem Tr.path_root : Tr.path xs ((0 : Nat) : Int) = [] := by
  have n := Tr.len24 hok
  unfold Tr.path
  rw [Tr.pathF_same hok _ 0 (by omega) (by omega)]
  rfl
/-- one step up -/
theorem Tr.path_up {i : Nat} (hi : i < xs.length) (h0 : 0 < i) : ∃ p : Nat, p < i ∧ Tr.parentOf xs (i : Int) = p ∧ 0 ≤ Tr.kidRank xs (i : Int) ∧ Tr.path xs (i : Int) = Tr.path xs (p : Int) ++ [Tr.kidRank xs (i : Int)] ∧ Tr.walk xs p [Tr.kidRank xs (i : Int)] = i := by
  obtain ⟨p, hp, e, hd, hend⟩ := Tr.parent_pos hok hi h0
  have hr := (Tr.rank_pos hok hi).2 h0
  refine ⟨p, hp, e, hr, ?_, ?_⟩
  · unfold Tr.path
    obtain ⟨q, rfl⟩ : ∃ q, i = q + 1 := ⟨i - 1, by omega⟩
    rw [Tr.pathF_same hok xs.length (q + 1) hi (by omega), Tr.pathF_same hok xs.length p (by omega) (by omega), Tr.pathF, if_neg (by omega), e, Tr.pathF_same hok q p (by omega) (by omega)]
  · have hpn : p < xs.length := by omega
    have a1 := Tr.dn_eq hok hi
    have a2 := Tr.dn_eq hok hpn
    have hb : Tr.bound xs p i := ⟨hp, by omega, fun _ => by omega⟩
    have rk := Tr.kid_rank hok hpn hb hend
    obtain ⟨r, hr'⟩ := Tr.kid_next hok hpn hb hend
    have hl : (Tr.kidsTo xs p i).length < (Tr.kidsTo xs p (Tr.endN xs p)).length := by rw [hr', List.length_append, List.length_cons]; omega
    rw [Tr.walk, rk, if_pos ⟨by omega, by omega⟩, Tr.walk, show (((Tr.kidsTo xs p i).length : Nat) : Int).toNat = (Tr.kidsTo xs p i).length by omega, hr']
    simp [List.getD_eq_getElem?_getD]
end

end Go.Proofs.Ytgkkeejhfofcaaa

/- Contracts (Pth). -/
namespace Go.Proofs.Ytgkkeejhfofcaaa
open Go.RowKit
set_option linter.unusedVariables false

/-- a node's path by one step up -/
theorem Tr.path_step (xs : Tr) (z : Int) : if 0 ≤ Tr.kidRank xs z then ∃ p : Nat, 0 ≤ z ∧ Tr.parentOf xs z = p ∧ (p : Int) < z ∧ Tr.path xs z = Tr.path xs (p : Int) ++ [Tr.kidRank xs z] else Tr.path xs z = [] := by
  rcases h : Tr.has xs z with _ | _
  · rw [if_neg (by rw [Tr.rank_no h]; decide)]
    exact Tr.path_no h
  · obtain ⟨hok, h0, hz⟩ := Tr.has_iff.1 h
    obtain ⟨j, rfl⟩ := Int.eq_ofNat_of_zero_le h0
    have hj : j < xs.length := by omega
    by_cases c : 0 ≤ Tr.kidRank xs (j : Int)
    · rw [if_pos c]
      have hp := (Tr.rank_pos hok hj).1 c
      obtain ⟨p, h1, h2, _, h3, _⟩ := Tr.path_up hok hj hp
      exact ⟨p, by omega, h2, by omega, h3⟩
    · rw [if_neg c]
      have : j = 0 := by
        rcases Nat.eq_zero_or_pos j with e | e
        · exact e
        · exact absurd ((Tr.rank_pos hok hj).2 e) c
      subst this
      exact Tr.path_root hok
theorem Tr.pathF_len (xs : Tr) : ∀ (f : Nat) (i : Int), (Tr.pathF xs f i).length ≤ f
  | 0, i => by simp [Tr.pathF]
  | f + 1, i => by
    rw [Tr.pathF]
    split
    · simp
    · have := Tr.pathF_len xs f (Tr.parentOf xs i)
      simp; omega
theorem Tr.path_len (xs : Tr) (i : Int) : (Tr.path xs i).length ≤ xs.length := Tr.pathF_len xs _ i

end Go.Proofs.Ytgkkeejhfofcaaa

/- Contracts (ParS). -/
namespace Go.Proofs.Ytgkkeejhfofcaaa
open Go.RowKit
set_option linter.unusedVariables false

set_option maxHeartbeats 800000 in
set_option maxRecDepth 100000 in
theorem specParentOf_any (A : Option Addr) (n c : Nat) (xs : Tr) (i : Int) (w : World) (h : NdIn w w.heap.size A n xs) (hn : n ≤ 1048576) :
    Calls Try.prog 138 #[.slice A n c, .int .i64 i] w fun e w' => e = .returned (.int .i64 (Tr.parentOf xs i)) ∧ Drawn w w' := by
  have H := Lib.hid h
  clear h
  have HL := Lib.hid H.out.1
  rcases hok : Tr.has xs i with _ | _
  · have Hf := Lib.hid (show Tr.parentOf xs i = -1 by simp [Tr.parentOf, hok])
    have Hok := Lib.hid hok
    clear hok
    go_enter Try.func138, Try.ntmps138
    go_wp2_with fail
    refine (l3At_any _ _ _ xs _ _ H.out hn).mono ?_
    rintro e w1 ⟨rfl, hd⟩
    rw [Hok.out]
    go_wp2
    go_ret
    exact ⟨Kit.ret_int Hf.out.symm, hd⟩
  · have h1 := (Tr.has_iff.1 hok).2
    rw [HL.out] at h1
    have Hf := Lib.hid (show Tr.parentOf xs i = Tr.back xs (Tr.d xs i.toNat) i.toNat by simp [Tr.parentOf, hok])
    have Hok := Lib.hid hok
    clear hok
    obtain ⟨j, rfl⟩ := Int.eq_ofNat_of_zero_le h1.1
    have hj : j < n := by omega
    clear h1
    rw [Int.toNat_natCast] at Hf
    go_enter Try.func138, Try.ntmps138
    go_wp2_with fail
    refine (l3At_any _ _ _ xs _ _ H.out hn).mono ?_
    rintro e w1 ⟨rfl, hd1⟩
    have Hd1 := Lib.hid hd1
    have H1 := Lib.hid (H.out.drawn Hd1.out)
    clear hd1
    rw [Hok.out]
    go_wp2
    go_loopw [5] (fun kv wr => ∃ z : Int, -1 ≤ z ∧ z < j ∧ kv = .int .i64 z ∧ Tr.back xs (Tr.d xs j) j = Tr.back xs (Tr.d xs j) (z + 1).toNat ∧ Drawn w1 wr) (fun k _ => (intOf k + 1).toNat)
    case atStart => exact ⟨(j : Int) - 1, by omega, by omega, by go_num, by rw [show ((j : Int) - 1 + 1).toNat = j by omega], Drawn.refl _⟩
    case round =>
      obtain ⟨z, hz, hzj, rfl, hback, hD⟩ := hrel
      have Hb := Lib.hid hback
      clear hback
      have hj0 : (0 : Int) ≤ (j : Int) := by omega
      by_cases h0 : 0 ≤ z
      · obtain ⟨k, rfl⟩ := Int.eq_ofNat_of_zero_le h0
        clear h0
        have hlt : k < n := by omega
        have hk0 : (0 : Int) ≤ (k : Int) := by omega
        obtain ⟨ad, rfl, hb, hl, hd⟩ := (H1.out.drawn hD).at_ hlt
        obtain ⟨hl', hd'⟩ := (H1.out.drawn hD).here hj
        clear hl hl'
        have Hk := Lib.hid (show Tr.back xs (Tr.d xs j) ((k : Int) + 1).toNat = if Tr.d xs k < Tr.d xs j then (k : Int) else Tr.back xs (Tr.d xs j) k by
          rw [show ((k : Int) + 1).toNat = k + 1 by omega]; rfl)
        by_cases hgt : Tr.d xs k < Tr.d xs j
        · have hg : decide (Tr.d xs j ≤ Tr.d xs k) = false := by simpa using hgt
          have Hg := Lib.hid hgt
          clear hgt
          go_wp2
          go_quiet (fail)
          go_wp2
          go_ret
          exact ⟨Kit.ret_int (by rw [Hf.out, Hb.out, Hk.out, if_pos Hg.out]), Hd1.out.trans (hD.drewN _)⟩
        · have hg : decide (Tr.d xs j ≤ Tr.d xs k) = true := by simp; omega
          have Hg := Lib.hid hgt
          clear hgt
          go_wp2
          go_quiet (fail)
          go_wp2
          go_roundw
          case rel => exact ⟨(k : Int) - 1, by omega, by omega, by go_num, by rw [Hb.out, Hk.out, if_neg (by have := Hg.out; omega), show ((k : Int) - 1 + 1).toNat = k by omega], hD.drewN _⟩
          case measure => simp [intOf] <;> omega
      · obtain rfl : z = -1 := by omega
        clear h0
        go_wp2
        go_quiet (fail)
        go_wp2
        go_ret
        exact ⟨Kit.ret_int (by rw [Hf.out, Hb.out]; rfl), Hd1.out.trans (hD.drewN _)⟩

end Go.Proofs.Ytgkkeejhfofcaaa
