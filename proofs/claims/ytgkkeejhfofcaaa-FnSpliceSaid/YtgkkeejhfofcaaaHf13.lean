/- Texts of one claim laid into one file, in build order: SidO, Mem9, New9, Match9, Bm2, Mp. -/
import Derived.Test.YtgkkeejhfofcaaaHf1
import Derived.Test.YtgkkeejhfofcaaaHf10
import Derived.Test.YtgkkeejhfofcaaaHf11
import Derived.Test.YtgkkeejhfofcaaaHf12
import Derived.Test.YtgkkeejhfofcaaaHf2
import Derived.Test.YtgkkeejhfofcaaaHf6
import Derived.Test.YtgkkeejhfofcaaaHf7
import Derived.Test.YtgkkeejhfofcaaaHf8
import Derived.Test.YtgkkeejhfofcaaaHf9
import Derived.BigQuiet
import Derived.Deep.QuietTactic
import Derived.Deep.RegionHeld3
import Derived.Laws.ResultCell
import Derived.Maps.AppendAt
import Derived.Outline
import Derived.Test.YtgkkeejhfofcaaaRows
/- Contracts (SidO). -/
namespace Go.Proofs.Ytgkkeejhfofcaaa
open Go.RowKit
set_option linter.unusedVariables false

/-- trees and costs are valid -/
def DOk (xs ys : Tr) (k : Co) : Bool := Tr.ok xs && Tr.ok ys && Co.ok k
theorem DOk.parts {xs ys : Tr} {k : Co} (h : DOk xs ys k = true) : Tr.ok xs = true ∧ Tr.ok ys = true ∧ Co.ok k = true := by
  simp only [DOk, Bool.and_eq_true] at h
  exact ⟨h.1.1, h.1.2, h.2⟩
/-- the result's variable of nine cells, the costs' box and the arguments, while sidesOf goes on -/
structure SoG (A A' : Option Addr) (n n' : Nat) (xs ys : Tr) (K0 K1 K2 : Option Addr) (n0 n1 n2 c0 c1 c2 : Nat) (k : Co) (w wq : World) : Prop where
  a : NdIn wq w.heap.size A n xs
  b : NdIn wq w.heap.size A' n' ys
  k : CoIn wq w.heap.size K0 K1 K2 n0 n1 n2 k
  bl : Below w.heap.size w wq
  q : Box3 wq w.heap.size (.slice K0 n0 c0) (.slice K1 n1 c1) (.slice K2 n2 c2)
  cs : ∀ o, o < 9 → ∃ z, wq.cell? ⟨w.heap.size + 1, o, none⟩ = some z
  fz : ∀ o, wq.frozen? ⟨w.heap.size + 1, o, none⟩ = false
  lt : w.heap.size + 1 < wq.heap.size
section
variable {A A' : Option Addr} {n n' : Nat} {xs ys : Tr} {K0 K1 K2 : Option Addr} {n0 n1 n2 c0 c1 c2 : Nat} {k : Co} {w wx wq : World}
theorem SoG.keep (h : SoG A A' n n' xs ys K0 K1 K2 n0 n1 n2 c0 c1 c2 k w wx) (hb : Below wx.heap.size wx wq) : SoG A A' n n' xs ys K0 K1 K2 n0 n1 n2 c0 c1 c2 k w wq := by
  have hs := h.bl.size
  have hl := h.lt
  have hb' := hb.mono (B' := w.heap.size) (by omega)
  exact ⟨h.a.below hb', h.b.below hb', h.k.below hb', h.bl.trans hb', h.q.below hb (by omega), fun o ho => by obtain ⟨z, hz⟩ := h.cs o ho; exact ⟨z, (hb.cell (p := ⟨w.heap.size + 1, o, none⟩) hl).trans hz⟩, free_below hb hl h.fz, Nat.lt_of_lt_of_le hl hb.size⟩
theorem SoG.set (h : SoG A A' n n' xs ys K0 K1 K2 n0 n1 n2 c0 c1 c2 k w wx) (o : Nat) (v : Value) : SoG A A' n n' xs ys K0 K1 K2 n0 n1 n2 c0 c1 c2 k w (wx.setCell ⟨w.heap.size + 1, o, none⟩ v) := by
  have hb : Below w.heap.size wx (wx.setCell ⟨w.heap.size + 1, o, none⟩ v) := (Below.refl _ _).setCell (by show w.heap.size ≤ w.heap.size + 1; omega) _
  have hq : ∀ i, (wx.setCell ⟨w.heap.size + 1, o, none⟩ v).cell? ⟨w.heap.size, i, none⟩ = wx.cell? ⟨w.heap.size, i, none⟩ := fun i => World.cell?_setCell_other _ _ _ _ (fun e => by injection e with e1 _; omega)
  refine ⟨h.a.below hb, h.b.below hb, h.k.below hb, h.bl.setCell (by show w.heap.size ≤ w.heap.size + 1; omega) _, ⟨(hq 0).trans h.q.1, (hq 1).trans h.q.2.1, (hq 2).trans h.q.2.2⟩, fun i hi => ?_, fun i => by rw [World.frozen?_setCell]; exact h.fz i, by simp; exact h.lt⟩
  obtain ⟨z, hz⟩ := h.cs i hi
  by_cases e : i = o
  · rw [e] at hz ⊢
    exact ⟨v, World.cell?_setCell_same' _ _ _ (by rw [hz]; rfl)⟩
  · exact ⟨z, by rw [World.cell?_setCell_other _ _ _ _ (fun e' => e (by injection e' with _ e2; exact e2.symm)), hz]⟩
theorem SoG.made (ha : NdIn w w.heap.size A n xs) (hb : NdIn w w.heap.size A' n' ys) (hk : CoIn w w.heap.size K0 K1 K2 n0 n1 n2 k) : SoG A A' n n' xs ys K0 K1 K2 n0 n1 n2 c0 c1 c2 k w ((w.alloc (.cells #[.slice K0 n0 c0, .slice K1 n1 c1, .slice K2 n2 c2] 31)).alloc (.cells #[.slice none 0 0, .slice none 0 0, .slice none 0 0, .slice none 0 0, .slice none 0 0, .slice none 0 0, .slice none 0 0, .slice none 0 0, .slice none 0 0] 89)) := by
  obtain ⟨wc, hwc⟩ : ∃ wc, wc = w.alloc (.cells #[.slice K0 n0 c0, .slice K1 n1 c1, .slice K2 n2 c2] 31) := ⟨_, rfl⟩
  have hbc : Below w.heap.size w wc := by rw [hwc]; exact (Below.refl _ _).alloc (Nat.le_refl _) _
  have hzc : wc.heap.size = w.heap.size + 1 := by rw [hwc]; simp
  have q : Box3 wc w.heap.size (.slice K0 n0 c0) (.slice K1 n1 c1) (.slice K2 n2 c2) := by rw [hwc]; exact Box3.made _ _ _ _ _
  rw [← hwc]
  have h2 : Below w.heap.size w (wc.alloc (.cells #[.slice none 0 0, .slice none 0 0, .slice none 0 0, .slice none 0 0, .slice none 0 0, .slice none 0 0, .slice none 0 0, .slice none 0 0, .slice none 0 0] 89)) := hbc.alloc (by omega) _
  refine ⟨ha.below h2, hb.below h2, hk.below h2, h2, q.alloc (by omega) _, fun o ho => ⟨.slice none 0 0, ?_⟩, fun o => by rw [← hzc]; simp, by simp; omega⟩
  rw [← hzc]
  refine cell_made _ _ _ _ _ ?_
  rcases o with _ | _ | _ | _ | _ | _ | _ | _ | _ | o <;> first | rfl | omega
end
end Go.Proofs.Ytgkkeejhfofcaaa

/- What is known of forests: the model's memo of chapter 9. -/
namespace Go.Proofs.Ytgkkeejhfofcaaa
open Go.RowKit
set_option linter.unusedVariables false

/-- where what is known of a range of both trees stands -/
def ix9 (n m i j p q : Nat) : Nat := ((i * (n + 1) + j) * (m + 1) + p) * (m + 1) + q
theorem ix9_lt {n m i j p q : Nat} (hi : i ≤ n) (hj : j ≤ n) (hp : p ≤ m) (hq : q ≤ m) : ix9 n m i j p q < (n + 1) * (n + 1) * (m + 1) * (m + 1) := by
  unfold ix9
  exact idx_lt (idx_lt (idx_lt (by omega) (by omega)) (by omega)) (by omega)
theorem ix9_inj {n m i j p q i' j' p' q' : Nat} (hj : j ≤ n) (hp : p ≤ m) (hq : q ≤ m) (hj' : j' ≤ n) (hp' : p' ≤ m) (hq' : q' ≤ m) (h : ix9 n m i j p q = ix9 n m i' j' p' q') : i = i' ∧ j = j' ∧ p = p' ∧ q = q' := by
  unfold ix9 at h
  obtain ⟨h1, h2⟩ := idx_inj (by omega) (by omega) h
  obtain ⟨h3, h4⟩ := idx_inj (by omega) (by omega) h1
  obtain ⟨h5, h6⟩ := idx_inj (by omega) (by omega) h3
  exact ⟨h5, h6, h4, h2⟩
/-- the rows that are read, and their caps -/
structure D9 where
  g : Nat
  gk : Nat
  ax : Addr
  ay : Addr
  la : Addr
  lb : Addr
  k0 : Addr
  k1 : Addr
  k2 : Addr
  cx : Nat
  cy : Nat
  dx : Nat
  dy : Nat
  e0 : Nat
  e1 : Nat
  e2 : Nat
structure M9 (B N : Nat) (D : D9) (xs ys : Tr) (k : Co) (K : List Int) (w : World) : Prop where
  gB : B ≤ D.g
  gl : D.g < w.heap.size
  gg : D.gk ≠ D.g
  hN : N = (xs.length + 1) * (xs.length + 1) * (ys.length + 1) * (ys.length + 1)
  h0 : w.cell? ⟨D.g, 0, none⟩ = some (.slice (some D.ax) xs.length D.cx)
  h1 : w.cell? ⟨D.g, 1, none⟩ = some (.slice (some D.ay) ys.length D.cy)
  h2 : w.cell? ⟨D.g, 2, none⟩ = some (.slice (some D.la) xs.length D.dx)
  h3 : w.cell? ⟨D.g, 3, none⟩ = some (.slice (some D.lb) ys.length D.dy)
  h4 : w.cell? ⟨D.g, 4, none⟩ = some (.slice (some ⟨D.gk, 0, none⟩) N N)
  h5 : w.cell? ⟨D.g, 5, none⟩ = some (.slice (some D.k0) 6 D.e0)
  h6 : w.cell? ⟨D.g, 6, none⟩ = some (.slice (some D.k1) 6 D.e1)
  h7 : w.cell? ⟨D.g, 7, none⟩ = some (.slice (some D.k2) 36 D.e2)
  row : w.ownsRow B 3 1 (.slice (some ⟨D.gk, 0, none⟩) N N) N (ints K)
  kn : ∀ i j p q, i ≤ j → j ≤ xs.length → p ≤ q → q ≤ ys.length → Zs.at K (ix9 xs.length ys.length i j p q) = 0 ∨ Zs.at K (ix9 xs.length ys.length i j p q) = RR xs ys k i j p q + 1
  rx : RowOff w D.g D.gk D.ax xs.length (Tr.lab xs)
  ry : RowOff w D.g D.gk D.ay ys.length (Tr.lab ys)
  ra : RowOff w D.g D.gk D.la xs.length (Zs.up (Tr.lfs xs))
  rb : RowOff w D.g D.gk D.lb ys.length (Zs.up (Tr.lfs ys))
  r0 : RowOff w D.g D.gk D.k0 6 k.d
  r1 : RowOff w D.g D.gk D.k1 6 k.i
  r2 : RowOff w D.g D.gk D.k2 36 k.r
section
variable {B N : Nat} {D : D9} {xs ys : Tr} {k : Co} {K : List Int} {w w' : World}
theorem M9.klen (h : M9 B N D xs ys k K w) : K.length = N := by have := h.row.1; rw [ints_length] at this; omega
theorem M9.drawn (h : M9 B N D xs ys k K w) (hd : Drawn w w') : M9 B N D xs ys k K w' := by
  have hc : ∀ p, w'.cell? p = w.cell? p := fun p => hd.cell p
  have hs : w.heap.size ≤ w'.heap.size := by obtain ⟨m, rfl⟩ := hd; exact Nat.le_refl _
  have r {ad : Addr} {n : Nat} {zs : List Int} (q : RowOff w D.g D.gk ad n zs) : RowOff w' D.g D.gk ad n zs := q.keep hs (fun p _ _ _ => hc p)
  exact ⟨h.gB, Nat.lt_of_lt_of_le h.gl hs, h.gg, h.hN, (hc _).trans h.h0, (hc _).trans h.h1, (hc _).trans h.h2, (hc _).trans h.h3, (hc _).trans h.h4, (hc _).trans h.h5, (hc _).trans h.h6, (hc _).trans h.h7, own_drawn h.row hd, h.kn, r h.rx, r h.ry, r h.ra, r h.rb, r h.r0, r h.r1, r h.r2⟩
theorem M9.set (h : M9 B N D xs ys k K w) {i j p q : Nat} (hij : i ≤ j) (hj : j ≤ xs.length) (hpq : p ≤ q) (hq : q ≤ ys.length) : M9 B N D xs ys k (K.set (ix9 xs.length ys.length i j p q) (RR xs ys k i j p q + 1)) (w.setCell ⟨D.gk, ix9 xs.length ys.length i j p q, none⟩ (.int .i64 (RR xs ys k i j p q + 1))) := by
  have hlt : ix9 xs.length ys.length i j p q < K.length := by rw [h.klen, h.hN]; exact ix9_lt (by omega) hj (by omega) hq
  have hl : ∀ o, (w.setCell ⟨D.gk, ix9 xs.length ys.length i j p q, none⟩ (.int .i64 (RR xs ys k i j p q + 1))).cell? ⟨D.g, o, none⟩ = w.cell? ⟨D.g, o, none⟩ := fun o => World.cell?_setCell_other _ _ _ _ (fun e => by injection e with e1 e2; exact h.gg e1)
  have ho : ∀ z : Addr, z.block < w.heap.size → z.block ≠ D.g → z.block ≠ D.gk → (w.setCell ⟨D.gk, ix9 xs.length ys.length i j p q, none⟩ (.int .i64 (RR xs ys k i j p q + 1))).cell? z = w.cell? z := fun z _ _ hz => World.cell?_setCell_other _ _ _ _ (fun e => hz (by rw [← e]))
  have hsz : (w.setCell ⟨D.gk, ix9 xs.length ys.length i j p q, none⟩ (.int .i64 (RR xs ys k i j p q + 1))).heap.size = w.heap.size := by simp
  have r {ad : Addr} {n : Nat} {zs : List Int} (q : RowOff w D.g D.gk ad n zs) := q.keep (Nat.le_of_eq hsz.symm) ho
  exact ⟨h.gB, by rw [hsz]; exact h.gl, h.gg, h.hN, (hl _).trans h.h0, (hl _).trans h.h1, (hl _).trans h.h2, (hl _).trans h.h3, (hl _).trans h.h4, (hl _).trans h.h5, (hl _).trans h.h6, (hl _).trans h.h7,
    by have := (h.row.stored (ix9 xs.length ys.length i j p q) (.int .i64 (RR xs ys k i j p q + 1))).1; rw [ints_set] at this; exact this,
    fun i' j' p' q' a1 a2 a3 a4 => by
      rw [Zs.at_set hlt]
      by_cases e : ix9 xs.length ys.length i' j' p' q' = ix9 xs.length ys.length i j p q
      · rw [if_pos e]
        obtain ⟨rfl, rfl, rfl, rfl⟩ := ix9_inj (by omega) (by omega) a4 (by omega) (by omega) hq e
        exact .inr rfl
      · rw [if_neg e]; exact h.kn i' j' p' q' a1 a2 a3 a4,
    r h.rx, r h.ry, r h.ra, r h.rb, r h.r0, r h.r1, r h.r2⟩
/-- below B nothing has turned, and above it nothing but block gk -/
structure GB (B gk : Nat) (w0 w : World) : Prop where
  bl : Below B w0 w
  gr : w0.grownBy w (some gk)
theorem GB.refl (B gk : Nat) (w : World) : GB B gk w w := ⟨Below.refl _ _, World.grownBy.refl _ _⟩
theorem GB.trans {B gk : Nat} {a b c : World} (h : GB B gk a b) (h' : GB B gk b c) : GB B gk a c := ⟨h.bl.trans h'.bl, h.gr.trans h'.gr⟩
theorem GB.mono {B B' gk : Nat} {a b : World} (h : GB B gk a b) (hb : B' ≤ B) : Below B' a b := h.bl.mono hb
theorem GB.of_drawn {B gk : Nat} {a b : World} (hd : Drawn a b) : GB B gk a b := ⟨hd.toBelow, ⟨(hd.toBelow (B := 0)).os, (hd.toBelow (B := 0)).tape, (hd.toBelow (B := 0)).output, (hd.toBelow (B := 0)).size, fun i _ _ => (hd.toBelow (B := i + 1)).block i (Nat.lt_succ_self i)⟩⟩
theorem GB.drawn {B gk : Nat} {a b c : World} (h : GB B gk a b) (hd : Drawn b c) : GB B gk a c := h.trans (GB.of_drawn hd)
theorem GB.setCell {B gk : Nat} {a b : World} (h : GB B gk a b) (hB : B ≤ gk) (o : Nat) (v : Value) : GB B gk a (b.setCell ⟨gk, o, none⟩ v) :=
  ⟨h.bl.setCell hB _, h.gr.trans ⟨rfl, rfl, rfl, by simp [World.setCell], fun k _ hne => Below.heap_setCell _ _ _ _ (fun e => hne (by rw [e]))⟩⟩
/-- the memo holds some knowledge; below B nothing has turned -/
def K9 (B N : Nat) (D : D9) (xs ys : Tr) (k : Co) (w0 w : World) : Prop := (∃ K, M9 B N D xs ys k K w) ∧ GB B D.gk w0 w
end

end Go.Proofs.Ytgkkeejhfofcaaa

/- Contracts (New9). -/
namespace Go.Proofs.Ytgkkeejhfofcaaa
open Go.RowKit
set_option linter.unusedVariables false

/-- what l9New holds while it makes its rows -/
structure NwG (A A' : Option Addr) (n n' : Nat) (xs ys : Tr) (K0 K1 K2 : Option Addr) (c0 c1 c2 : Nat) (k : Co) (w wq : World) : Prop where
  a : NdIn wq w.heap.size A n xs
  b : NdIn wq w.heap.size A' n' ys
  k : CoIn wq w.heap.size K0 K1 K2 6 6 36 k
  bl : Below w.heap.size w wq
  q : Box3 wq w.heap.size (.slice K0 6 c0) (.slice K1 6 c1) (.slice K2 36 c2)
  lt : w.heap.size < wq.heap.size
section
variable {A A' : Option Addr} {n n' : Nat} {xs ys : Tr} {K0 K1 K2 : Option Addr} {c0 c1 c2 : Nat} {k : Co} {w wx wq : World}
theorem NwG.keep (h : NwG A A' n n' xs ys K0 K1 K2 c0 c1 c2 k w wx) (hb : Below wx.heap.size wx wq) : NwG A A' n n' xs ys K0 K1 K2 c0 c1 c2 k w wq := by
  have hl := h.lt
  have hb' := hb.mono (B' := w.heap.size) (by omega)
  exact ⟨h.a.below hb', h.b.below hb', h.k.below hb', h.bl.trans hb', h.q.below hb hl, Nat.lt_of_lt_of_le hl hb.size⟩
end
/-- the memo, new -/
theorem M9.made {B N : Nat} {xs ys : Tr} {k : Co} {w : World} {g1 g2 g3 g4 gk e1 e2 e3 e4 c0 c1 c2 : Nat} {k0 k1 k2 : Addr} {t : TypeId} (hN : N = (xs.length + 1) * (xs.length + 1) * (ys.length + 1) * (ys.length + 1))
    (r1 : w.ownsRow B 3 1 (.slice (some ⟨g1, 0, none⟩) xs.length e1) xs.length (ints (Tr.lab xs))) (r2 : w.ownsRow B 3 1 (.slice (some ⟨g2, 0, none⟩) ys.length e2) ys.length (ints (Tr.lab ys))) (r3 : w.ownsRow B 3 1 (.slice (some ⟨g3, 0, none⟩) xs.length e3) xs.length (ints (Zs.up (Tr.lfs xs)))) (r4 : w.ownsRow B 3 1 (.slice (some ⟨g4, 0, none⟩) ys.length e4) ys.length (ints (Zs.up (Tr.lfs ys))))
    (rk : w.ownsRow B 3 1 (.slice (some ⟨gk, 0, none⟩) N N) N (ints (List.replicate N 0))) (hk : CoIn w B (some k0) (some k1) (some k2) 6 6 36 k) (n1 : g1 ≠ gk) (n2 : g2 ≠ gk) (n3 : g3 ≠ gk) (n4 : g4 ≠ gk) (hB : B ≤ w.heap.size) :
    M9 B N ⟨w.heap.size, gk, ⟨g1, 0, none⟩, ⟨g2, 0, none⟩, ⟨g3, 0, none⟩, ⟨g4, 0, none⟩, k0, k1, k2, e1, e2, e3, e4, c0, c1, c2⟩ xs ys k (List.replicate N 0)
      (w.alloc (.cells #[.slice (some ⟨g1, 0, none⟩) xs.length e1, .slice (some ⟨g2, 0, none⟩) ys.length e2, .slice (some ⟨g3, 0, none⟩) xs.length e3, .slice (some ⟨g4, 0, none⟩) ys.length e4, .slice (some ⟨gk, 0, none⟩) N N, .slice (some k0) 6 c0, .slice (some k1) 6 c1, .slice (some k2) 36 c2] t)) := by
  obtain ⟨_, e0, q0⟩ := hk.1.2.1 (by omega)
  injection e0 with e0; subst e0
  obtain ⟨_, e5, q1⟩ := hk.2.1.2.1 (by omega)
  injection e5 with e5; subst e5
  obtain ⟨_, e6, q2⟩ := hk.2.2.2.1 (by omega)
  injection e6 with e6; subst e6
  have lk := rk.lt gk rfl
  exact {
    gB := hB
    gl := by show w.heap.size < _; rw [size_made]; omega
    gg := by show gk ≠ w.heap.size; omega
    hN := hN
    h0 := cell_made _ _ _ 0 _ rfl, h1 := cell_made _ _ _ 1 _ rfl, h2 := cell_made _ _ _ 2 _ rfl, h3 := cell_made _ _ _ 3 _ rfl, h4 := cell_made _ _ _ 4 _ rfl, h5 := cell_made _ _ _ 5 _ rfl, h6 := cell_made _ _ _ 6 _ rfl, h7 := cell_made _ _ _ 7 _ rfl
    row := rk.alloc _
    kn := fun i j p q _ _ _ _ => .inl (by unfold Zs.at; rw [List.getD_eq_getElem?_getD, List.getElem?_replicate]; split <;> rfl)
    rx := RowOff.of_own r1 (r1.lt g1 rfl).2 n1, ry := RowOff.of_own r2 (r2.lt g2 rfl).2 n2, ra := RowOff.of_own r3 (r3.lt g3 rfl).2 n3, rb := RowOff.of_own r4 (r4.lt g4 rfl).2 n4
    r0 := RowOff.of_in hk.1 q0 lk.1 lk.2, r1 := RowOff.of_in hk.2.1 q1 lk.1 lk.2, r2 := RowOff.of_in hk.2.2 q2 lk.1 lk.2 }
end Go.Proofs.Ytgkkeejhfofcaaa

/- Contracts (Match9). -/
namespace Go.Proofs.Ytgkkeejhfofcaaa
open Go.RowKit
set_option linter.unusedVariables false

section
variable {B N : Nat} {D : D9} {xs ys : Tr} {k : Co} {w0 w w' : World}
theorem K9.next (h : K9 B N D xs ys k w0 w) (h' : K9 B N D xs ys k w w') : K9 B N D xs ys k w0 w' := ⟨h'.1, h.2.trans h'.2⟩
theorem K9.drawn (h : K9 B N D xs ys k w0 w) (hd : Drawn w w') : K9 B N D xs ys k w0 w' := by
  obtain ⟨⟨K, hK⟩, hb⟩ := h
  exact ⟨⟨K, hK.drawn hd⟩, hb.drawn hd⟩
end
end Go.Proofs.Ytgkkeejhfofcaaa

/- Contracts (Bm2). -/
namespace Go.Proofs.Ytgkkeejhfofcaaa
open Go.RowKit
set_option linter.unusedVariables false

/-- places as nodes -/
def Bm.f (xs ys : Tr) (e : Int × Int) : Int × Int := ((Tr.nd xs e.1.toNat : Int), (Tr.nd ys e.2.toNat : Int))
/-- pair after pair: both ascend, and descent agrees -/
def Bm.R (xs ys : Tr) (e e' : Int × Int) : Prop := e.1 < e'.1 ∧ e.2 < e'.2 ∧ Tr.under xs e.1 e'.1 = Tr.under ys e.2 e'.2
def Bm.inn (xs ys : Tr) (i j p q : Nat) (e : Int × Int) : Prop := ∃ u v : Nat, e = ((Tr.nd xs u : Int), (Tr.nd ys v : Int)) ∧ i ≤ u ∧ u < j ∧ p ≤ v ∧ v < q
theorem asc_split {L : Tr} (h : L.Pairwise fun e e' => e.1 < e'.1) (i : Nat) : (L.filter fun e => decide (e.1 < (i : Int))) ++ (L.filter fun e => decide (e.1 = (i : Int))) = L.filter fun e => decide (e.1 < ((i + 1 : Nat) : Int)) := by
  induction L with
  | nil => rfl
  | cons e L ih =>
    obtain ⟨h1, h2⟩ := List.pairwise_cons.1 h
    have ih := ih h2
    by_cases c : e.1 < (i : Int)
    · rw [List.filter_cons_of_pos (by simpa using c), List.filter_cons_of_neg (by simp; omega), List.filter_cons_of_pos (by simp; omega), List.cons_append, ih]
    · have n1 : (L.filter fun e => decide (e.1 < (i : Int))) = [] := List.filter_eq_nil_iff.2 fun e' h' => by have := h1 e' h'; simp; omega
      rw [List.filter_cons_of_neg (by simpa using c), n1]
      rw [n1, List.nil_append] at ih
      by_cases c2 : e.1 = (i : Int)
      · have n2 : (L.filter fun e => decide (e.1 = (i : Int))) = [] := List.filter_eq_nil_iff.2 fun e' h' => by have := h1 e' h'; simp; omega
        rw [List.filter_cons_of_pos (by simpa using c2), List.filter_cons_of_pos (by simp; omega), n2, ← ih, n2]
        rfl
      · rw [List.filter_cons_of_neg (by simpa using c2), List.filter_cons_of_neg (by simp; omega), List.nil_append]
        exact ih
theorem one_key {L : Tr} (h : L.Pairwise fun e e' => e.1 < e'.1) (a : Int) : (L.filter fun e => decide (e.1 = a)) = [] ∨ ∃ x, (L.filter fun e => decide (e.1 = a)) = [x] := by
  have hp : (L.filter fun e => decide (e.1 = a)).Pairwise fun e e' => e.1 < e'.1 := h.filter _
  rcases hl : (L.filter fun e => decide (e.1 = a)) with _ | ⟨x, _ | ⟨y, r⟩⟩
  · exact .inl hl
  · exact .inr ⟨x, hl⟩
  · rw [hl] at hp
    have hx : x ∈ (L.filter fun e => decide (e.1 = a)) := by rw [hl]; simp
    have hy : y ∈ (L.filter fun e => decide (e.1 = a)) := by rw [hl]; simp
    have := (List.pairwise_cons.1 hp).1 y (by simp)
    have e1 := (List.mem_filter.1 hx).2
    have e2 := (List.mem_filter.1 hy).2
    simp only [decide_eq_true_eq] at e1 e2
    omega
section
variable {xs ys : Tr} {k : Co} (hx : Tr.ok xs = true) (hy : Tr.ok ys = true)
include hx hy
end

end Go.Proofs.Ytgkkeejhfofcaaa

/- Contracts (Mp). -/
namespace Go.Proofs.Ytgkkeejhfofcaaa
open Go.RowKit
set_option linter.unusedVariables false

/-- pair k can stand ahead of (a, b) -/
def Mp.at (xs ys ms : Tr) (a b : Int) (k : Nat) : Bool := decide (Tr.l ms k < a) && decide (Tr.d ms k < b) && (Tr.under xs (Tr.l ms k) a == Tr.under ys (Tr.d ms k) b)
def Mp.after (xs ys ms : Tr) (n : Nat) (a b : Int) : Bool := (List.range n).all (Mp.at xs ys ms a b)
def Mp.okAt (xs ys ms : Tr) (i : Nat) : Bool := Tr.has xs (Tr.l ms i) && Tr.has ys (Tr.d ms i) && Mp.after xs ys ms i (Tr.l ms i) (Tr.d ms i)
/-- a valid mapping -/
def Mp.ok (xs ys ms : Tr) : Bool := Tr.ok xs && Tr.ok ys && (List.range ms.length).all (Mp.okAt xs ys ms)
section
variable {xs ys ms : Tr} {a b : Int} {n i k : Nat}
theorem Mp.after_iff : Mp.after xs ys ms n a b = true ↔ ∀ k, k < n → Mp.at xs ys ms a b k = true := by
  unfold Mp.after
  rw [List.all_eq_true]
  exact ⟨fun h k hk => h k (List.mem_range.2 hk), fun h k hk => h k (List.mem_range.1 hk)⟩
theorem Mp.all_iff : (List.range ms.length).all (Mp.okAt xs ys ms) = true ↔ ∀ k, k < ms.length → Mp.okAt xs ys ms k = true := by
  rw [List.all_eq_true]
  exact ⟨fun h k hk => h k (List.mem_range.2 hk), fun h k hk => h k (List.mem_range.1 hk)⟩
theorem Mp.ok_yes (h : ∀ k, k < ms.length → Mp.okAt xs ys ms k = true) : Mp.ok xs ys ms = (Tr.ok xs && Tr.ok ys) := by
  unfold Mp.ok
  rw [Mp.all_iff.2 h, Bool.and_true]
theorem Mp.at_yes (h1 : Tr.l ms k < a) (h2 : Tr.d ms k < b) (h3 : Tr.under xs (Tr.l ms k) a = Tr.under ys (Tr.d ms k) b) : Mp.at xs ys ms a b k = true := by
  unfold Mp.at
  rw [decide_eq_true h1, decide_eq_true h2, h3]
  simp
theorem Mp.okAt_yes (h1 : Tr.has xs (Tr.l ms i) = true) (h2 : Tr.has ys (Tr.d ms i) = true) (h : ∀ k, k < i → Mp.at xs ys ms (Tr.l ms i) (Tr.d ms i) k = true) : Mp.okAt xs ys ms i = true := by
  unfold Mp.okAt
  rw [h1, h2, Mp.after_iff.2 h]
  rfl
theorem Mp.okAt_parts (h : Mp.okAt xs ys ms i = true) : Tr.has xs (Tr.l ms i) = true ∧ Tr.has ys (Tr.d ms i) = true ∧ ∀ k, k < i → Tr.l ms k < Tr.l ms i ∧ Tr.d ms k < Tr.d ms i ∧ Tr.under xs (Tr.l ms k) (Tr.l ms i) = Tr.under ys (Tr.d ms k) (Tr.d ms i) := by
  simp only [Mp.okAt, Bool.and_eq_true] at h
  refine ⟨h.1.1, h.1.2, fun k hk => ?_⟩
  have := Mp.after_iff.1 h.2 k hk
  simp only [Mp.at, Bool.and_eq_true, decide_eq_true_eq, beq_iff_eq] at this
  exact ⟨this.1.1, this.1.2, this.2⟩
end

end Go.Proofs.Ytgkkeejhfofcaaa
