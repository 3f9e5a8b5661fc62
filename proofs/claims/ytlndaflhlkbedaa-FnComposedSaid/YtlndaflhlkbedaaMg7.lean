/- Texts of one claim laid into one file, in build order: AllS. -/
import Derived.Test.YtlndaflhlkbedaaMg6
import Derived.Deep.CutRange
import Derived.Deep.RegionHeld3
import Derived.Outline
/- Contracts (AllS). -/
namespace Go.Proofs.Ytlndaflhlkbedaa
open Go.RowKit
set_option linter.unusedVariables false

/-- a new row of ints, not empty -/
def NewRow (zs : List Int) (n : Nat) (w : World) (e : Ending) (w' : World) : Prop :=
  ∃ g c, e = .returned (.slice (some ⟨g, 0, none⟩) n c) ∧ w'.ownsRow w.heap.size 3 1 (.slice (some ⟨g, 0, none⟩) n c) n (ints zs) ∧ w.heap.size ≤ g ∧ g < w'.heap.size ∧ Below w.heap.size w w'
theorem NewRow.of_ints {zs : List Int} {n : Nat} {w w' : World} {e : Ending} (h : OwnInts 3 zs w e w') (hn : zs.length = n) (h0 : 0 < n) : NewRow zs n w e w' := by
  obtain ⟨A, c, rfl, ho, hb⟩ := h
  rw [hn] at ho ⊢
  obtain ⟨g, rfl, f0, f1⟩ := own_form ho h0
  exact ⟨g, c, rfl, ho, f0, f1, hb⟩
theorem l8Labels_new (A : Option Addr) (c : Nat) (xs : Tr) (w : World) (h : NdIn w w.heap.size A xs.length xs) (hok : Tr.ok xs = true) :
    Calls Try.prog 119 #[.slice A xs.length c] w (NewRow (Tr.lab xs) xs.length w) :=
  (l8Labels_any A xs.length c xs w h (by have := (Tr.len24 hok).2; omega) hok).mono fun e w' hh => NewRow.of_ints hh (Tr.lab_len hok) (Tr.len24 hok).1
theorem specLeft_new (A : Option Addr) (c : Nat) (xs : Tr) (w : World) (h : NdIn w w.heap.size A xs.length xs) (hok : Tr.ok xs = true) :
    Calls Try.prog 25 #[.slice A xs.length c] w (NewRow (Zs.up (Tr.lfs xs)) xs.length w) :=
  (specLeftLeaf_any A xs.length c xs w h (by have := (Tr.len24 hok).2; omega)).mono fun e w' hh => NewRow.of_ints hh (by rw [Zs.up_length, Tr.lfs_len hok]) (Tr.len24 hok).1
theorem specKeys_new (A : Option Addr) (c : Nat) (xs : Tr) (w : World) (h : NdIn w w.heap.size A xs.length xs) (hok : Tr.ok xs = true) :
    Calls Try.prog 120 #[.slice A xs.length c] w (NewRow (Zs.up (Tr.krs xs)) (Tr.krs xs).length w) :=
  (specKeyRoots_any A xs.length c xs w h (by have := (Tr.len24 hok).2; omega)).mono fun e w' hh => NewRow.of_ints hh (Zs.up_length _) (by obtain ⟨r, hr⟩ := Tr.krs_last hok; rw [hr]; simp)
theorem RowOff.inn {w : World} {B gt n : Nat} {ad : Addr} {zs : List Int} (h : IntIn w B (some ad) n zs) (hn : 0 < n) (hB : B ≤ gt) (hs : B ≤ w.heap.size) : RowOff w gt gt ad n zs := by
  obtain ⟨a, e, hl⟩ := h.2.1 hn
  injection e with e
  subst e
  exact ⟨h.1, by omega, by omega, by omega, fun k hk => h.here hk⟩
/-- a new variable of seven cells, not written yet -/
def G7 (g : Nat) (wq : World) : Prop := wq.cell? ⟨g, 0, none⟩ = some (.slice none 0 0) ∧ wq.cell? ⟨g, 1, none⟩ = some (.slice none 0 0) ∧ wq.cell? ⟨g, 2, none⟩ = some (.slice none 0 0) ∧ wq.cell? ⟨g, 3, none⟩ = some (.slice none 0 0) ∧ wq.cell? ⟨g, 4, none⟩ = some (.slice none 0 0) ∧ wq.cell? ⟨g, 5, none⟩ = some (.slice none 0 0) ∧ wq.cell? ⟨g, 6, none⟩ = some (.slice none 0 0) ∧ wq.frozen? ⟨g, 0, none⟩ = false ∧ wq.frozen? ⟨g, 1, none⟩ = false ∧ wq.frozen? ⟨g, 2, none⟩ = false ∧ wq.frozen? ⟨g, 3, none⟩ = false ∧ wq.frozen? ⟨g, 4, none⟩ = false ∧ wq.frozen? ⟨g, 5, none⟩ = false ∧ wq.frozen? ⟨g, 6, none⟩ = false ∧ g < wq.heap.size
theorem g7_new {wx wq : World} {t : TypeId} (hb : Below (wx.alloc (.cells #[.slice none 0 0, .slice none 0 0, .slice none 0 0, .slice none 0 0, .slice none 0 0, .slice none 0 0, .slice none 0 0] t)).heap.size (wx.alloc (.cells #[.slice none 0 0, .slice none 0 0, .slice none 0 0, .slice none 0 0, .slice none 0 0, .slice none 0 0, .slice none 0 0] t)) wq) : G7 wx.heap.size wq := by
  have hl : wx.heap.size < (wx.alloc (.cells #[.slice none 0 0, .slice none 0 0, .slice none 0 0, .slice none 0 0, .slice none 0 0, .slice none 0 0, .slice none 0 0] t)).heap.size := by rw [size_made]; omega
  have c (o : Nat) := hb.cell (p := ⟨wx.heap.size, o, none⟩) hl
  have f (o : Nat) := free_below hb hl (fun o => free_made wx _ t o) o
  exact ⟨(c 0).trans (cell_made _ _ _ 0 _ rfl), (c 1).trans (cell_made _ _ _ 1 _ rfl), (c 2).trans (cell_made _ _ _ 2 _ rfl), (c 3).trans (cell_made _ _ _ 3 _ rfl), (c 4).trans (cell_made _ _ _ 4 _ rfl), (c 5).trans (cell_made _ _ _ 5 _ rfl), (c 6).trans (cell_made _ _ _ 6 _ rfl), f 0, f 1, f 2, f 3, f 4, f 5, f 6, Nat.lt_of_lt_of_le hl hb.size⟩
theorem g7_drew {wx wq : World} {t : TypeId} (hb : Below (wx.alloc (.cells #[.slice none 0 0, .slice none 0 0, .slice none 0 0, .slice none 0 0, .slice none 0 0, .slice none 0 0, .slice none 0 0] t)).drew.heap.size (wx.alloc (.cells #[.slice none 0 0, .slice none 0 0, .slice none 0 0, .slice none 0 0, .slice none 0 0, .slice none 0 0, .slice none 0 0] t)).drew wq) : G7 wx.heap.size wq := g7_new (((Drawn.refl (wx.alloc (.cells #[.slice none 0 0, .slice none 0 0, .slice none 0 0, .slice none 0 0, .slice none 0 0, .slice none 0 0, .slice none 0 0] t))).drew.toBelow).trans hb)
theorem g7_keep {g : Nat} {wx wq : World} (h : G7 g wx) (hb : Below wx.heap.size wx wq) : G7 g wq := by
  obtain ⟨h0, h1, h2, h3, h4, h5, h6, h7, h8, h9, h10, h11, h12, h13, hl⟩ := h
  have c (o : Nat) := hb.cell (p := ⟨g, o, none⟩) hl
  have f (o : Nat) (h : wx.frozen? ⟨g, o, none⟩ = false) : wq.frozen? ⟨g, o, none⟩ = false := (hb.frozen hl).trans h
  exact ⟨(c 0).trans h0, (c 1).trans h1, (c 2).trans h2, (c 3).trans h3, (c 4).trans h4, (c 5).trans h5, (c 6).trans h6, f 0 h7, f 1 h8, f 2 h9, f 3 h10, f 4 h11, f 5 h12, f 6 h13, Nat.lt_of_lt_of_le hl hb.size⟩
theorem set7_other {wx : World} {g : Nat} {q : Addr} (h : g ≠ q.block) (v0 v1 v2 v3 v4 v5 v6 : Value) : ((((((((wx.setCell ⟨g, 0, none⟩ v0).setCell ⟨g, 1, none⟩ v1).setCell ⟨g, 2, none⟩ v2).setCell ⟨g, 3, none⟩ v3).setCell ⟨g, 4, none⟩ v4).setCell ⟨g, 5, none⟩ v5).setCell ⟨g, 6, none⟩ v6)).cell? q = wx.cell? q := by
  have e : ∀ i, (⟨g, i, none⟩ : Addr) ≠ q := fun i e => h (by rw [← e])
  rw [World.cell?_setCell_other _ _ _ _ (e 6), World.cell?_setCell_other _ _ _ _ (e 5), World.cell?_setCell_other _ _ _ _ (e 4), World.cell?_setCell_other _ _ _ _ (e 3), World.cell?_setCell_other _ _ _ _ (e 2), World.cell?_setCell_other _ _ _ _ (e 1), World.cell?_setCell_other _ _ _ _ (e 0)]
theorem set7_size {wx : World} {g : Nat} (v0 v1 v2 v3 v4 v5 v6 : Value) : ((((((((wx.setCell ⟨g, 0, none⟩ v0).setCell ⟨g, 1, none⟩ v1).setCell ⟨g, 2, none⟩ v2).setCell ⟨g, 3, none⟩ v3).setCell ⟨g, 4, none⟩ v4).setCell ⟨g, 5, none⟩ v5).setCell ⟨g, 6, none⟩ v6)).heap.size = wx.heap.size := by simp
theorem set7_in {wx : World} {g : Nat} (h : G7 g wx) (v0 v1 v2 v3 v4 v5 v6 : Value) : ((((((((wx.setCell ⟨g, 0, none⟩ v0).setCell ⟨g, 1, none⟩ v1).setCell ⟨g, 2, none⟩ v2).setCell ⟨g, 3, none⟩ v3).setCell ⟨g, 4, none⟩ v4).setCell ⟨g, 5, none⟩ v5).setCell ⟨g, 6, none⟩ v6)).cell? ⟨g, 0, none⟩ = some v0 ∧ ((((((((wx.setCell ⟨g, 0, none⟩ v0).setCell ⟨g, 1, none⟩ v1).setCell ⟨g, 2, none⟩ v2).setCell ⟨g, 3, none⟩ v3).setCell ⟨g, 4, none⟩ v4).setCell ⟨g, 5, none⟩ v5).setCell ⟨g, 6, none⟩ v6)).cell? ⟨g, 1, none⟩ = some v1 ∧ ((((((((wx.setCell ⟨g, 0, none⟩ v0).setCell ⟨g, 1, none⟩ v1).setCell ⟨g, 2, none⟩ v2).setCell ⟨g, 3, none⟩ v3).setCell ⟨g, 4, none⟩ v4).setCell ⟨g, 5, none⟩ v5).setCell ⟨g, 6, none⟩ v6)).cell? ⟨g, 2, none⟩ = some v2 ∧ ((((((((wx.setCell ⟨g, 0, none⟩ v0).setCell ⟨g, 1, none⟩ v1).setCell ⟨g, 2, none⟩ v2).setCell ⟨g, 3, none⟩ v3).setCell ⟨g, 4, none⟩ v4).setCell ⟨g, 5, none⟩ v5).setCell ⟨g, 6, none⟩ v6)).cell? ⟨g, 3, none⟩ = some v3 ∧ ((((((((wx.setCell ⟨g, 0, none⟩ v0).setCell ⟨g, 1, none⟩ v1).setCell ⟨g, 2, none⟩ v2).setCell ⟨g, 3, none⟩ v3).setCell ⟨g, 4, none⟩ v4).setCell ⟨g, 5, none⟩ v5).setCell ⟨g, 6, none⟩ v6)).cell? ⟨g, 4, none⟩ = some v4 ∧ ((((((((wx.setCell ⟨g, 0, none⟩ v0).setCell ⟨g, 1, none⟩ v1).setCell ⟨g, 2, none⟩ v2).setCell ⟨g, 3, none⟩ v3).setCell ⟨g, 4, none⟩ v4).setCell ⟨g, 5, none⟩ v5).setCell ⟨g, 6, none⟩ v6)).cell? ⟨g, 5, none⟩ = some v5 ∧ ((((((((wx.setCell ⟨g, 0, none⟩ v0).setCell ⟨g, 1, none⟩ v1).setCell ⟨g, 2, none⟩ v2).setCell ⟨g, 3, none⟩ v3).setCell ⟨g, 4, none⟩ v4).setCell ⟨g, 5, none⟩ v5).setCell ⟨g, 6, none⟩ v6)).cell? ⟨g, 6, none⟩ = some v6 := by
  obtain ⟨h0, h1, h2, h3, h4, h5, h6, _⟩ := h
  have n : ∀ i j, i ≠ j → (⟨g, i, none⟩ : Addr) ≠ ⟨g, j, none⟩ := fun i j hij e => hij (by injection e)
  refine ⟨?_, ?_, ?_, ?_, ?_, ?_, ?_⟩
  · rw [World.cell?_setCell_other _ _ _ _ (n 6 0 (by decide)), World.cell?_setCell_other _ _ _ _ (n 5 0 (by decide)), World.cell?_setCell_other _ _ _ _ (n 4 0 (by decide)), World.cell?_setCell_other _ _ _ _ (n 3 0 (by decide)), World.cell?_setCell_other _ _ _ _ (n 2 0 (by decide)), World.cell?_setCell_other _ _ _ _ (n 1 0 (by decide))]; exact World.cell?_setCell_same' _ _ _ (by rw [h0]; rfl)
  · rw [World.cell?_setCell_other _ _ _ _ (n 6 1 (by decide)), World.cell?_setCell_other _ _ _ _ (n 5 1 (by decide)), World.cell?_setCell_other _ _ _ _ (n 4 1 (by decide)), World.cell?_setCell_other _ _ _ _ (n 3 1 (by decide)), World.cell?_setCell_other _ _ _ _ (n 2 1 (by decide))]; exact World.cell?_setCell_same' _ _ _ (by rw [World.cell?_setCell_other _ _ _ _ (n 0 1 (by decide)), h1]; rfl)
  · rw [World.cell?_setCell_other _ _ _ _ (n 6 2 (by decide)), World.cell?_setCell_other _ _ _ _ (n 5 2 (by decide)), World.cell?_setCell_other _ _ _ _ (n 4 2 (by decide)), World.cell?_setCell_other _ _ _ _ (n 3 2 (by decide))]; exact World.cell?_setCell_same' _ _ _ (by rw [World.cell?_setCell_other _ _ _ _ (n 1 2 (by decide)), World.cell?_setCell_other _ _ _ _ (n 0 2 (by decide)), h2]; rfl)
  · rw [World.cell?_setCell_other _ _ _ _ (n 6 3 (by decide)), World.cell?_setCell_other _ _ _ _ (n 5 3 (by decide)), World.cell?_setCell_other _ _ _ _ (n 4 3 (by decide))]; exact World.cell?_setCell_same' _ _ _ (by rw [World.cell?_setCell_other _ _ _ _ (n 2 3 (by decide)), World.cell?_setCell_other _ _ _ _ (n 1 3 (by decide)), World.cell?_setCell_other _ _ _ _ (n 0 3 (by decide)), h3]; rfl)
  · rw [World.cell?_setCell_other _ _ _ _ (n 6 4 (by decide)), World.cell?_setCell_other _ _ _ _ (n 5 4 (by decide))]; exact World.cell?_setCell_same' _ _ _ (by rw [World.cell?_setCell_other _ _ _ _ (n 3 4 (by decide)), World.cell?_setCell_other _ _ _ _ (n 2 4 (by decide)), World.cell?_setCell_other _ _ _ _ (n 1 4 (by decide)), World.cell?_setCell_other _ _ _ _ (n 0 4 (by decide)), h4]; rfl)
  · rw [World.cell?_setCell_other _ _ _ _ (n 6 5 (by decide))]; exact World.cell?_setCell_same' _ _ _ (by rw [World.cell?_setCell_other _ _ _ _ (n 4 5 (by decide)), World.cell?_setCell_other _ _ _ _ (n 3 5 (by decide)), World.cell?_setCell_other _ _ _ _ (n 2 5 (by decide)), World.cell?_setCell_other _ _ _ _ (n 1 5 (by decide)), World.cell?_setCell_other _ _ _ _ (n 0 5 (by decide)), h5]; rfl)
  · exact World.cell?_setCell_same' _ _ _ (by rw [World.cell?_setCell_other _ _ _ _ (n 5 6 (by decide)), World.cell?_setCell_other _ _ _ _ (n 4 6 (by decide)), World.cell?_setCell_other _ _ _ _ (n 3 6 (by decide)), World.cell?_setCell_other _ _ _ _ (n 2 6 (by decide)), World.cell?_setCell_other _ _ _ _ (n 1 6 (by decide)), World.cell?_setCell_other _ _ _ _ (n 0 6 (by decide)), h6]; rfl)
/-- what l8All holds ahead of its four rows -/
structure AlG (A A' : Option Addr) (n n' nm : Nat) (xs ys : Tr) (K0 K1 K2 : Option Addr) (c0 c1 c2 : Nat) (k : Co) (T : List Int) (w wq : World) : Prop where
  a : NdIn wq w.heap.size A n xs
  b : NdIn wq w.heap.size A' n' ys
  k : CoIn wq w.heap.size K0 K1 K2 6 6 36 k
  bl : Below w.heap.size w wq
  q : Box3 wq w.heap.size (.slice K0 6 c0) (.slice K1 6 c1) (.slice K2 36 c2)
  t : wq.ownsRow w.heap.size 3 1 (.slice (some ⟨w.heap.size + 1, 0, none⟩) nm nm) nm (ints T)
  lt : w.heap.size + 2 ≤ wq.heap.size
section
variable {A A' : Option Addr} {n n' nm : Nat} {xs ys : Tr} {K0 K1 K2 : Option Addr} {c0 c1 c2 : Nat} {k : Co} {T : List Int} {w wx wq : World}
theorem AlG.keep (h : AlG A A' n n' nm xs ys K0 K1 K2 c0 c1 c2 k T w wx) (hb : Below wx.heap.size wx wq) : AlG A A' n n' nm xs ys K0 K1 K2 c0 c1 c2 k T w wq := by
  have hl := h.lt
  have hb' := hb.mono (B' := w.heap.size) (by omega)
  exact ⟨h.a.below hb', h.b.below hb', h.k.below hb', h.bl.trans hb', h.q.below hb (by omega), own_below h.t hb, Nat.le_trans hl hb.size⟩
theorem AlG.alloc (h : AlG A A' n n' nm xs ys K0 K1 K2 c0 c1 c2 k T w wx) (o : Obj) : AlG A A' n n' nm xs ys K0 K1 K2 c0 c1 c2 k T w (wx.alloc o) := h.keep ((Below.refl _ _).alloc (Nat.le_refl _) _)
theorem AlG.drew (h : AlG A A' n n' nm xs ys K0 K1 K2 c0 c1 c2 k T w wx) : AlG A A' n n' nm xs ys K0 K1 K2 c0 c1 c2 k T w wx.drew := h.keep (Drawn.refl _).drew.toBelow
theorem AlG.set (h : AlG A A' n n' nm xs ys K0 K1 K2 c0 c1 c2 k T w wx) {g : Nat} (hg : w.heap.size + 2 ≤ g) (o : Nat) (v : Value) : AlG A A' n n' nm xs ys K0 K1 K2 c0 c1 c2 k T w (wx.setCell ⟨g, o, none⟩ v) := by
  have hb : Below (w.heap.size + 2) wx (wx.setCell ⟨g, o, none⟩ v) := (Below.refl _ _).setCell hg _
  have hb' := hb.mono (B' := w.heap.size) (by omega)
  exact ⟨h.a.below hb', h.b.below hb', h.k.below hb', h.bl.trans hb', h.q.below hb (by omega), h.t.kept (Kit.grown_set _ _ _ _) (.inr fun e => absurd (show w.heap.size + 1 = g by injection e) (by omega)), by simp; exact h.lt⟩
theorem AlG.set7 (h : AlG A A' n n' nm xs ys K0 K1 K2 c0 c1 c2 k T w wx) {g : Nat} (hg : w.heap.size + 2 ≤ g) (v0 v1 v2 v3 v4 v5 v6 : Value) : AlG A A' n n' nm xs ys K0 K1 K2 c0 c1 c2 k T w (((((((wx.setCell ⟨g, 0, none⟩ v0).setCell ⟨g, 1, none⟩ v1).setCell ⟨g, 2, none⟩ v2).setCell ⟨g, 3, none⟩ v3).setCell ⟨g, 4, none⟩ v4).setCell ⟨g, 5, none⟩ v5).setCell ⟨g, 6, none⟩ v6) :=
  ((((((h.set hg 0 v0).set hg 1 v1).set hg 2 v2).set hg 3 v3).set hg 4 v4).set hg 5 v5).set hg 6 v6
theorem al_in (h : wx.cell? ⟨w.heap.size, 0, none⟩ = some (.slice K0 6 c0) ∧ wx.cell? ⟨w.heap.size, 1, none⟩ = some (.slice K1 6 c1) ∧ wx.cell? ⟨w.heap.size, 2, none⟩ = some (.slice K2 36 c2) ∧ AlG A A' n n' nm xs ys K0 K1 K2 c0 c1 c2 k T w wx) : AlG A A' n n' nm xs ys K0 K1 K2 c0 c1 c2 k T w wx := h.2.2.2
theorem al_a (h : wx.cell? ⟨w.heap.size, 0, none⟩ = some (.slice K0 6 c0) ∧ wx.cell? ⟨w.heap.size, 1, none⟩ = some (.slice K1 6 c1) ∧ wx.cell? ⟨w.heap.size, 2, none⟩ = some (.slice K2 36 c2) ∧ AlG A A' n n' nm xs ys K0 K1 K2 c0 c1 c2 k T w wx) : NdIn wx wx.heap.size A n xs := h.2.2.2.a.more h.2.2.2.bl.size
theorem al_b (h : wx.cell? ⟨w.heap.size, 0, none⟩ = some (.slice K0 6 c0) ∧ wx.cell? ⟨w.heap.size, 1, none⟩ = some (.slice K1 6 c1) ∧ wx.cell? ⟨w.heap.size, 2, none⟩ = some (.slice K2 36 c2) ∧ AlG A A' n n' nm xs ys K0 K1 K2 c0 c1 c2 k T w wx) : NdIn wx wx.heap.size A' n' ys := h.2.2.2.b.more h.2.2.2.bl.size
theorem al_out (h : AlG A A' n n' nm xs ys K0 K1 K2 c0 c1 c2 k T w wx) : wx.cell? ⟨w.heap.size, 0, none⟩ = some (.slice K0 6 c0) ∧ wx.cell? ⟨w.heap.size, 1, none⟩ = some (.slice K1 6 c1) ∧ wx.cell? ⟨w.heap.size, 2, none⟩ = some (.slice K2 36 c2) ∧ AlG A A' n n' nm xs ys K0 K1 K2 c0 c1 c2 k T w wx := ⟨h.q.1, h.q.2.1, h.q.2.2, h⟩
theorem AlG.r0 {k0 k1 k2 : Addr} (h : AlG A A' n n' nm xs ys (some k0) (some k1) (some k2) c0 c1 c2 k T w wx) : RowOff wx (w.heap.size + 1) (w.heap.size + 1) k0 6 k.d := RowOff.inn h.k.1 (by omega) (by omega) h.bl.size
theorem AlG.r1 {k0 k1 k2 : Addr} (h : AlG A A' n n' nm xs ys (some k0) (some k1) (some k2) c0 c1 c2 k T w wx) : RowOff wx (w.heap.size + 1) (w.heap.size + 1) k1 6 k.i := RowOff.inn h.k.2.1 (by omega) (by omega) h.bl.size
theorem AlG.r2 {k0 k1 k2 : Addr} (h : AlG A A' n n' nm xs ys (some k0) (some k1) (some k2) c0 c1 c2 k T w wx) : RowOff wx (w.heap.size + 1) (w.heap.size + 1) k2 36 k.r := RowOff.inn h.k.2.2 (by omega) (by omega) h.bl.size
theorem AlG.step {T' : List Int} (h : AlG A A' n n' nm xs ys K0 K1 K2 c0 c1 c2 k T w wx) (hc : ∀ p : Addr, p.block < wx.heap.size → p.block ≠ w.heap.size + 1 → wq.cell? p = wx.cell? p) (hb : Below w.heap.size wx wq) (ht : wq.ownsRow w.heap.size 3 1 (.slice (some ⟨w.heap.size + 1, 0, none⟩) nm nm) nm (ints T')) : AlG A A' n n' nm xs ys K0 K1 K2 c0 c1 c2 k T' w wq := by
  have hl := h.lt
  have hq : ∀ i, wq.cell? ⟨w.heap.size, i, none⟩ = wx.cell? ⟨w.heap.size, i, none⟩ := fun i => hc _ (by show w.heap.size < _; omega) (by show w.heap.size ≠ _; omega)
  exact ⟨h.a.below hb, h.b.below hb, h.k.below hb, h.bl.trans hb, ⟨(hq 0).trans h.q.1, (hq 1).trans h.q.2.1, (hq 2).trans h.q.2.2⟩, ht, Nat.le_trans hl hb.size⟩
end
/-- t, its four rows, and what stood ahead -/
structure AlR (A A' : Option Addr) (n n' nm : Nat) (xs ys : Tr) (k0 k1 k2 : Addr) (c0 c1 c2 : Nat) (k : Co) (T : List Int) (g ax ay la lb cx cy dx dy : Nat) (w wq : World) : Prop where
  al : AlG A A' n n' nm xs ys (some k0) (some k1) (some k2) c0 c1 c2 k T w wq
  gl : w.heap.size + 2 ≤ g
  gs : g < wq.heap.size
  t0 : wq.cell? ⟨g, 0, none⟩ = some (.slice (some ⟨ax, 0, none⟩) n cx)
  t1 : wq.cell? ⟨g, 1, none⟩ = some (.slice (some ⟨ay, 0, none⟩) n' cy)
  t2 : wq.cell? ⟨g, 2, none⟩ = some (.slice (some ⟨la, 0, none⟩) n dx)
  t3 : wq.cell? ⟨g, 3, none⟩ = some (.slice (some ⟨lb, 0, none⟩) n' dy)
  t4 : wq.cell? ⟨g, 4, none⟩ = some (.slice (some k0) 6 c0)
  t5 : wq.cell? ⟨g, 5, none⟩ = some (.slice (some k1) 6 c1)
  t6 : wq.cell? ⟨g, 6, none⟩ = some (.slice (some k2) 36 c2)
  rx : RowOff wq (w.heap.size + 1) (w.heap.size + 1) ⟨ax, 0, none⟩ n (Tr.lab xs)
  ry : RowOff wq (w.heap.size + 1) (w.heap.size + 1) ⟨ay, 0, none⟩ n' (Tr.lab ys)
  ra : RowOff wq (w.heap.size + 1) (w.heap.size + 1) ⟨la, 0, none⟩ n (Zs.up (Tr.lfs xs))
  rb : RowOff wq (w.heap.size + 1) (w.heap.size + 1) ⟨lb, 0, none⟩ n' (Zs.up (Tr.lfs ys))
theorem add_flat (g k : Nat) : (⟨g, 0, none⟩ : Addr).add k = ⟨g, k, none⟩ := by unfold Addr.add; split <;> simp_all
/-- a row made in w1 as it stands in wq -/
theorem RowOff.seen {w1 wq : World} {base g n c gt : Nat} {zs : List Int} (h : w1.ownsRow base 3 1 (.slice (some ⟨g, 0, none⟩) n c) n (ints zs)) (hc : ∀ o, wq.cell? ⟨g, o, none⟩ = w1.cell? ⟨g, o, none⟩) (hl : g < wq.heap.size) (hn : g ≠ gt) : RowOff wq gt gt ⟨g, 0, none⟩ n zs := by
  have hlen : zs.length = n := by have := h.1; rw [ints_length] at this; omega
  refine ⟨hlen, hl, hn, hn, fun k hk => ?_⟩
  have := h.cells rfl k _ (ints_at zs k (by omega))
  have e : (⟨g, 0, none⟩ : Addr).add k = ⟨g, k, none⟩ := by unfold Addr.add; split <;> simp_all
  rw [e] at this ⊢
  rw [hc k]
  exact this
section
variable {A A' : Option Addr} {n n' nm : Nat} {xs ys : Tr} {k0 k1 k2 : Addr} {c0 c1 c2 : Nat} {k : Co} {T T' : List Int} {g ax ay la lb cx cy dx dy : Nat} {w wx wq : World}
theorem AlR.keep (h : AlR A A' n n' nm xs ys k0 k1 k2 c0 c1 c2 k T g ax ay la lb cx cy dx dy w wx) (hb : Below wx.heap.size wx wq) : AlR A A' n n' nm xs ys k0 k1 k2 c0 c1 c2 k T g ax ay la lb cx cy dx dy w wq := by
  have c : ∀ i, wq.cell? ⟨g, i, none⟩ = wx.cell? ⟨g, i, none⟩ := fun i => hb.cell (p := ⟨g, i, none⟩) h.gs
  have r {ad : Addr} {m : Nat} {zs : List Int} (q : RowOff wx (w.heap.size + 1) (w.heap.size + 1) ad m zs) := q.keep hb.size (fun p hp _ _ => hb.cell hp)
  exact ⟨h.al.keep hb, h.gl, Nat.lt_of_lt_of_le h.gs hb.size, (c 0).trans h.t0, (c 1).trans h.t1, (c 2).trans h.t2, (c 3).trans h.t3, (c 4).trans h.t4, (c 5).trans h.t5, (c 6).trans h.t6, r h.rx, r h.ry, r h.ra, r h.rb⟩
theorem AlR.step (h : AlR A A' n n' nm xs ys k0 k1 k2 c0 c1 c2 k T g ax ay la lb cx cy dx dy w wx) (hc : ∀ p : Addr, p.block < wx.heap.size → p.block ≠ w.heap.size + 1 → wq.cell? p = wx.cell? p) (hb : Below w.heap.size wx wq) (ht : wq.ownsRow w.heap.size 3 1 (.slice (some ⟨w.heap.size + 1, 0, none⟩) nm nm) nm (ints T')) : AlR A A' n n' nm xs ys k0 k1 k2 c0 c1 c2 k T' g ax ay la lb cx cy dx dy w wq := by
  have gl := h.gl
  have c : ∀ i, wq.cell? ⟨g, i, none⟩ = wx.cell? ⟨g, i, none⟩ := fun i => hc ⟨g, i, none⟩ h.gs (by show g ≠ _; omega)
  have r {ad : Addr} {m : Nat} {zs : List Int} (q : RowOff wx (w.heap.size + 1) (w.heap.size + 1) ad m zs) := q.keep hb.size (fun p hp h1 _ => hc p hp h1)
  exact ⟨h.al.step hc hb ht, h.gl, Nat.lt_of_lt_of_le h.gs hb.size, (c 0).trans h.t0, (c 1).trans h.t1, (c 2).trans h.t2, (c 3).trans h.t3, (c 4).trans h.t4, (c 5).trans h.t5, (c 6).trans h.t6, r h.rx, r h.ry, r h.ra, r h.rb⟩
end
/-- the last table of forests, that of the roots -/
def AllLast (xs ys : Tr) (k : Co) (base : Nat) (lv : Value) (wq : World) : Prop :=
  ∃ (hf : Nat) (f : List Int), lv = .slice (some ⟨hf, 0, none⟩) ((xs.length + 1) * (ys.length + 1)) ((xs.length + 1) * (ys.length + 1)) ∧ wq.ownsRow base 3 1 (.slice (some ⟨hf, 0, none⟩) ((xs.length + 1) * (ys.length + 1)) ((xs.length + 1) * (ys.length + 1))) ((xs.length + 1) * (ys.length + 1)) (ints f) ∧
    ∀ a b, a ≤ xs.length → b ≤ ys.length → Zs.at f (a * (ys.length + 1) + b) = RR xs ys k 0 a 0 b
theorem AllLast.of {xs ys : Tr} {k : Co} {base kk ll ki kj hf nf y : Nat} {f T0 T : List Int} {wq : World} (hx : Tr.ok xs = true) (hy : Tr.ok ys = true) (hk : kk + 1 = (Tr.krs xs).length) (hl : ll + 1 = (Tr.krs ys).length) (hi : ki = Tr.kr xs kk) (hj : kj = Tr.kr ys ll)
    (hF : Fill xs ys k ki kj (ki + 1) y (fun a b => Zs.at f (ix (Tr.la xs ki) (Tr.la ys kj) (kj - Tr.la ys kj + 2) a b)) T0 T) (hnf : nf = (ki - Tr.la xs ki + 2) * (kj - Tr.la ys kj + 2))
    (ho : wq.ownsRow base 3 1 (.slice (some ⟨hf, 0, none⟩) nf nf) nf (ints f)) : AllLast xs ys k base (.slice (some ⟨hf, 0, none⟩) nf nf) wq := by
  have n1 := (Tr.len24 hx).1
  have n2 := (Tr.len24 hy).1
  rw [hi, hj] at hF
  have h := fill_last hx hy hk hl hF
  have e1 := Tr.kr_end hx hk
  have e2 := Tr.kr_end hy hl
  rw [hi, hj, e1, e2, Tr.la_last hx, Tr.la_last hy, show xs.length - 1 - 0 + 2 = xs.length + 1 by omega, show ys.length - 1 - 0 + 2 = ys.length + 1 by omega] at hnf
  rw [e1, e2, Tr.la_last hx, Tr.la_last hy, show ys.length - 1 - 0 + 2 = ys.length + 1 by omega] at h
  subst hnf
  exact ⟨hf, f, rfl, ho, fun a b ha hb => by have := h a b ha hb; exact this⟩
set_option maxHeartbeats 3200000 in
set_option maxRecDepth 100000 in
theorem l8All_any (A A' : Option Addr) (n n' c c' : Nat) (xs ys : Tr) (K0 K1 K2 : Option Addr) (n0 n1 n2 c0 c1 c2 : Nat) (k : Co) (w : World) (ha : NdIn w w.heap.size A n xs) (hb : NdIn w w.heap.size A' n' ys) (hk : CoIn w w.heap.size K0 K1 K2 n0 n1 n2 k)
    (hx : Tr.ok xs = true) (hy : Tr.ok ys = true) (ho : Co.ok k = true) :
    Calls Try.prog 74 #[.slice A n c, .slice A' n' c', .agg #[.slice K0 n0 c0, .slice K1 n1 c1, .slice K2 n2 c2]] w fun e w' =>
      ∃ (hf nm : Nat) (f : List Int), nm = xs.length * ys.length ∧ e = .returned (.tuple #[.slice (some ⟨w.heap.size + 1, 0, none⟩) nm nm, .slice (some ⟨hf, 0, none⟩) ((xs.length + 1) * (ys.length + 1)) ((xs.length + 1) * (ys.length + 1))]) ∧
        w'.ownsRow w.heap.size 3 1 (.slice (some ⟨w.heap.size + 1, 0, none⟩) nm nm) nm (ints (Tr.tds xs ys k)) ∧ w'.ownsRow w.heap.size 3 1 (.slice (some ⟨hf, 0, none⟩) ((xs.length + 1) * (ys.length + 1)) ((xs.length + 1) * (ys.length + 1))) ((xs.length + 1) * (ys.length + 1)) (ints f) ∧
        (∀ a b, a ≤ xs.length → b ≤ ys.length → Zs.at f (a * (ys.length + 1) + b) = RR xs ys k 0 a 0 b) ∧ Below w.heap.size w w' := by
  have hln := ha.1
  have hln' := hb.1
  have hkl := hk.len
  have l1 := (Zs.fit_iff.1 (Co.fit3 ho).1).1
  have l2 := (Zs.fit_iff.1 (Co.fit3 ho).2.1).1
  have l3 := (Zs.fit_iff.1 (Co.fit3 ho).2.2).1
  obtain rfl : n0 = 6 := by omega
  obtain rfl : n1 = 6 := by omega
  obtain rfl : n2 = 36 := by omega
  obtain ⟨k0, rfl, hk0⟩ := hk.1.2.1 (by omega)
  obtain ⟨k1, rfl, hk1⟩ := hk.2.1.2.1 (by omega)
  obtain ⟨k2, rfl, hk2⟩ := hk.2.2.2.1 (by omega)
  obtain ⟨x1, x24⟩ := Tr.len24 hx
  obtain ⟨y1, y24⟩ := Tr.len24 hy
  subst hln
  subst hln'
  obtain ⟨nm, hnm⟩ : ∃ nm, nm = xs.length * ys.length := ⟨_, rfl⟩
  have hnm1 : nm ≤ 576 := by rw [hnm]; exact Nat.mul_le_mul x24 y24
  have hmul : (xs.length : Int) * (ys.length : Int) = (nm : Int) := by rw [hnm, Int.natCast_mul]
  have a3 : IntKind.i64.wrap ((xs.length : Int) * (ys.length : Int)) = (nm : Int) := by rw [hmul, Kit.w64 (by omega) (by omega)]
  obtain ⟨wc, hwc⟩ : ∃ wc, wc = w.alloc (.cells #[.slice (some k0) 6 c0, .slice (some k1) 6 c1, .slice (some k2) 36 c2] 27) := ⟨_, rfl⟩
  have hbc : Below w.heap.size w wc := by rw [hwc]; exact (Below.refl _ _).alloc (Nat.le_refl _) _
  have hzc : wc.heap.size = w.heap.size + 1 := by rw [hwc]; simp
  have q : Box3 wc w.heap.size (.slice (some k0) 6 c0) (.slice (some k1) 6 c1) (.slice (some k2) 36 c2) := by rw [hwc]; exact Box3.made _ _ _ _ _
  have HWC := Lib.hid hwc
  have HZC := Lib.hid hzc
  have HX := Lib.hid hx
  have HY := Lib.hid hy
  have HO := Lib.hid ho
  have HNM := Lib.hid hnm
  have HC := Lib.hid (And.intro ha (And.intro hb (And.intro hk (And.intro hbc q))))
  obtain ⟨i0, hi0, hz0, hz1, hz2⟩ := info_parts info_intZ
  have Hi := Lib.hid hi0
  clear ha hb hk hkl l1 l2 l3 hx hy ho hwc hbc q hi0 hnm hmul
  go_enter Try.func74, Try.ntmps74
  go_wp2_with (at_make; go_loud (refine wpList_make_full _ rfl _ _ 25 rfl w.heap.size 3 i0 (.int .i64 0) 1 Try.underlying25 Hi.out hz0 hz1 _ _ _ _ nm rfl rfl rfl rfl (by rw [hz2]; omega) (by unfold maxLen; omega) (by rw [← HWC.out]; have := HZC.out; omega) ?_); intro w2 hown2 hgrow2)
  rw [← HWC.out] at hown2 hgrow2
  have hb2 : Below wc.heap.size wc w2 := (Below.refl _ wc).grown hgrow2 (Nat.le_refl _) (fun _ h => by cases h)
  have gs2 := hgrow2.size
  have lt2 : w.heap.size + 2 ≤ w2.heap.size := by have h : wc.heap.size < w2.heap.size := (hown2.lt _ rfl).2; omega
  rw [made_zeros 0 nm] at hown2
  obtain ⟨wd, hwd⟩ : ∃ wd, wd = w2.alloc (.cells #[] 3) := ⟨_, rfl⟩
  have hbd : Below w2.heap.size w2 wd := by rw [hwd]; exact (Below.refl _ _).alloc (Nat.le_refl _) _
  rw [← hwd]
  have G0 : AlG A A' xs.length ys.length nm xs ys (some k0) (some k1) (some k2) c0 c1 c2 k (List.replicate nm 0) w w2 := by
    obtain ⟨ha, hb, hk, hbc, q⟩ := HC.out
    have h1 : Below w.heap.size w w2 := hbc.trans (hb2.mono (by omega))
    exact ⟨ha.below h1, hb.below h1, hk.below h1, h1, q.below hb2 (by omega), by rw [hzc] at hown2; exact hown2, lt2⟩
  have G1 := Lib.hid (G0.keep hbd)
  have zd := G1.out.lt
  clear hown2 hgrow2 hb2 hbd hwd G0 gs2 lt2
  go_upto_region 3 with fail
  go_cut [10] from 22 to 31 (fun tv wx => ∃ g ax ay la lb cx cy dx dy, tv = .pointer (some ⟨g, 0, none⟩) ∧ AlR A A' xs.length ys.length nm xs ys k0 k1 k2 c0 c1 c2 k (List.replicate nm 0) g ax ay la lb cx cy dx dy w wx)
  case first =>
    have S0 := Lib.hid (al_out G1.out.drew)
    have z0 := G1.out.drew.lt
    go_region_held3 (fun wq => wq.cell? ⟨w.heap.size, 0, none⟩ = some (.slice (some k0) 6 c0) ∧ wq.cell? ⟨w.heap.size, 1, none⟩ = some (.slice (some k1) 6 c1) ∧ wq.cell? ⟨w.heap.size, 2, none⟩ = some (.slice (some k2) 36 c2) ∧ AlG A A' xs.length ys.length nm xs ys (some k0) (some k1) (some k2) c0 c1 c2 k (List.replicate nm 0) w wq) (first | (with_reducible exact al_out (AlG.set7 SX.out (by omega) _ _ _ _ _ _ _)) | (with_reducible exact al_out (AlG.alloc SX.out _)) | (with_reducible exact al_out (AlG.drew (AlG.alloc G1.out _))) | (with_reducible refine al_out ((al_in ?_).alloc _); with_reducible assumption) | (with_reducible exact S0.out) | (with_reducible refine al_out ((al_in ?_).keep hb); with_reducible assumption)) (first | (go_at_call 119; (fail_if_success (have := m1)); refine (l8Labels_new A c xs _ (al_a (by assumption)) HX.out).mono ?_; rintro e w5 ⟨g1, e1, rfl, r1, f1, f1', hb⟩; have hb1 := hb; have SX := Lib.hid ((al_in (by assumption)).keep hb); have z1 := SX.out.lt; have m1 := True.intro; (first | (have G7h := Lib.hid (g7_new hb)) | (have G7h := Lib.hid (g7_drew hb)) | (have G7h := Lib.hid (g7_keep G7h.out hb)) | skip)) | (go_at_call 119; (fail_if_success (have := m2)); refine (l8Labels_new A' c' ys _ (al_b (by assumption)) HY.out).mono ?_; rintro e w6 ⟨g2, e2, rfl, r2, f2, f2', hb⟩; have hb2 := hb; have SX := Lib.hid ((al_in (by assumption)).keep hb); have z2 := SX.out.lt; have m2 := True.intro; (first | (have G7h := Lib.hid (g7_new hb)) | (have G7h := Lib.hid (g7_drew hb)) | (have G7h := Lib.hid (g7_keep G7h.out hb)) | skip)) | (go_at_call 25; (fail_if_success (have := m3)); refine (specLeft_new A c xs _ (al_a (by assumption)) HX.out).mono ?_; rintro e w7 ⟨g3, e3, rfl, r3, f3, f3', hb⟩; have hb3 := hb; have SX := Lib.hid ((al_in (by assumption)).keep hb); have z3 := SX.out.lt; have m3 := True.intro; (first | (have G7h := Lib.hid (g7_new hb)) | (have G7h := Lib.hid (g7_drew hb)) | (have G7h := Lib.hid (g7_keep G7h.out hb)) | skip)) | (go_at_call 25; (fail_if_success (have := m4)); refine (specLeft_new A' c' ys _ (al_b (by assumption)) HY.out).mono ?_; rintro e w8 ⟨g4, e4, rfl, r4, f4, f4', hb⟩; have hb4 := hb; have SX := Lib.hid ((al_in (by assumption)).keep hb); have z4 := SX.out.lt; have m4 := True.intro; (first | (have G7h := Lib.hid (g7_new hb)) | (have G7h := Lib.hid (g7_drew hb)) | (have G7h := Lib.hid (g7_keep G7h.out hb)) | skip); (try (obtain ⟨tt0, tt1, tt2, tt3, tt4, tt5, tt6, uu0, uu1, uu2, uu3, uu4, uu5, uu6, _⟩ := G7h.out))))
    · go_wp2_with fail
      go_meet
      have s1 : wd.heap.size ≤ w5.heap.size := hb1.size
      have q1 : wd.heap.size ≤ g1 := f1
      have s2 : w5.heap.size ≤ w6.heap.size := hb2.size
      have q2 : w5.heap.size ≤ g2 := f2
      have s3 : w6.heap.size ≤ w7.heap.size := hb3.size
      have q3 : w6.heap.size ≤ g3 := f3
      have s4 : w7.heap.size ≤ w8.heap.size := hb4.size
      have q4 : w7.heap.size ≤ g4 := f4
      refine ⟨w8.heap.size, g1, g2, g3, g4, e1, e2, e3, e4, rfl, ⟨AlG.alloc SX.out _, by omega, by rw [size_made]; omega, cell_made _ _ _ 0 _ rfl, cell_made _ _ _ 1 _ rfl, cell_made _ _ _ 2 _ rfl, cell_made _ _ _ 3 _ rfl, cell_made _ _ _ 4 _ rfl, cell_made _ _ _ 5 _ rfl, cell_made _ _ _ 6 _ rfl, RowOff.seen r1 (fun o => ((((World.cell?_alloc_lt _ _ ⟨g1, o, none⟩ (by show g1 < w8.heap.size; omega)).trans (hb4.cell (p := ⟨g1, o, none⟩) (by show g1 < _; omega))).trans (hb3.cell (p := ⟨g1, o, none⟩) (by show g1 < _; omega))).trans (hb2.cell (p := ⟨g1, o, none⟩) (by show g1 < _; omega)))) (by rw [size_made]; omega) (by omega), RowOff.seen r2 (fun o => (((World.cell?_alloc_lt _ _ ⟨g2, o, none⟩ (by show g2 < w8.heap.size; omega)).trans (hb4.cell (p := ⟨g2, o, none⟩) (by show g2 < _; omega))).trans (hb3.cell (p := ⟨g2, o, none⟩) (by show g2 < _; omega)))) (by rw [size_made]; omega) (by omega), RowOff.seen r3 (fun o => ((World.cell?_alloc_lt _ _ ⟨g3, o, none⟩ (by show g3 < w8.heap.size; omega)).trans (hb4.cell (p := ⟨g3, o, none⟩) (by show g3 < _; omega)))) (by rw [size_made]; omega) (by omega), RowOff.seen r4 (fun o => (World.cell?_alloc_lt _ _ ⟨g4, o, none⟩ (by show g4 < w8.heap.size; omega))) (by rw [size_made]; omega) (by omega)⟩⟩
    · go_wp2_with fail
      go_meet
      have s1 : wd.heap.size ≤ w5.heap.size := hb1.size
      have q1 : wd.heap.size ≤ g1 := f1
      have s2 : w5.heap.size ≤ w6.heap.size := hb2.size
      have q2 : w5.heap.size ≤ g2 := f2
      have s3 : w6.heap.size ≤ w7.heap.size := hb3.size
      have q3 : w6.heap.size ≤ g3 := f3
      have s4 : (w7.alloc (.cells #[.slice none 0 0, .slice none 0 0, .slice none 0 0, .slice none 0 0, .slice none 0 0, .slice none 0 0, .slice none 0 0] 138)).heap.size ≤ w8.heap.size := hb4.size
      rw [size_made] at s4
      have q4 : (w7.alloc (.cells #[.slice none 0 0, .slice none 0 0, .slice none 0 0, .slice none 0 0, .slice none 0 0, .slice none 0 0, .slice none 0 0] 138)).heap.size ≤ g4 := f4
      rw [size_made] at q4
      obtain ⟨y0, y1', y2, y3, y4, y5, y6⟩ := set7_in G7h.out (.slice (some ⟨g1, 0, none⟩) xs.length e1) (.slice (some ⟨g2, 0, none⟩) ys.length e2) (.slice (some ⟨g3, 0, none⟩) xs.length e3) (.slice (some ⟨g4, 0, none⟩) ys.length e4) (.slice (some k0) 6 c0) (.slice (some k1) 6 c1) (.slice (some k2) 36 c2)
      refine ⟨w7.heap.size, g1, g2, g3, g4, e1, e2, e3, e4, rfl, ⟨AlG.set7 SX.out (by omega) _ _ _ _ _ _ _, by omega, by rw [set7_size]; omega, y0, y1', y2, y3, y4, y5, y6, RowOff.seen r1 (fun o => (((((set7_other (g := w7.heap.size) (q := ⟨g1, o, none⟩) (by show w7.heap.size ≠ g1; omega) _ _ _ _ _ _ _).trans (hb4.cell (p := ⟨g1, o, none⟩) (by rw [size_made]; show g1 < _; omega))).trans (World.cell?_alloc_lt _ _ ⟨g1, o, none⟩ (by show g1 < _; omega))).trans (hb3.cell (p := ⟨g1, o, none⟩) (by show g1 < _; omega))).trans (hb2.cell (p := ⟨g1, o, none⟩) (by show g1 < _; omega)))) (by rw [set7_size]; omega) (by omega), RowOff.seen r2 (fun o => ((((set7_other (g := w7.heap.size) (q := ⟨g2, o, none⟩) (by show w7.heap.size ≠ g2; omega) _ _ _ _ _ _ _).trans (hb4.cell (p := ⟨g2, o, none⟩) (by rw [size_made]; show g2 < _; omega))).trans (World.cell?_alloc_lt _ _ ⟨g2, o, none⟩ (by show g2 < _; omega))).trans (hb3.cell (p := ⟨g2, o, none⟩) (by show g2 < _; omega)))) (by rw [set7_size]; omega) (by omega), RowOff.seen r3 (fun o => (((set7_other (g := w7.heap.size) (q := ⟨g3, o, none⟩) (by show w7.heap.size ≠ g3; omega) _ _ _ _ _ _ _).trans (hb4.cell (p := ⟨g3, o, none⟩) (by rw [size_made]; show g3 < _; omega))).trans (World.cell?_alloc_lt _ _ ⟨g3, o, none⟩ (by show g3 < _; omega)))) (by rw [set7_size]; omega) (by omega), RowOff.seen r4 (fun o => (set7_other (g := w7.heap.size) (q := ⟨g4, o, none⟩) (by show w7.heap.size ≠ g4; omega) _ _ _ _ _ _ _)) (by rw [set7_size]; omega) (by omega)⟩⟩
    · go_wp2_with fail
      go_meet
      have s1 : wd.heap.size ≤ w5.heap.size := hb1.size
      have q1 : wd.heap.size ≤ g1 := f1
      have s2 : w5.heap.size ≤ w6.heap.size := hb2.size
      have q2 : w5.heap.size ≤ g2 := f2
      have s3 : (w6.alloc (.cells #[.slice none 0 0, .slice none 0 0, .slice none 0 0, .slice none 0 0, .slice none 0 0, .slice none 0 0, .slice none 0 0] 138)).heap.size ≤ w7.heap.size := hb3.size
      rw [size_made] at s3
      have q3 : (w6.alloc (.cells #[.slice none 0 0, .slice none 0 0, .slice none 0 0, .slice none 0 0, .slice none 0 0, .slice none 0 0, .slice none 0 0] 138)).heap.size ≤ g3 := f3
      rw [size_made] at q3
      have s4 : w7.heap.size ≤ w8.heap.size := hb4.size
      have q4 : w7.heap.size ≤ g4 := f4
      obtain ⟨y0, y1', y2, y3, y4, y5, y6⟩ := set7_in G7h.out (.slice (some ⟨g1, 0, none⟩) xs.length e1) (.slice (some ⟨g2, 0, none⟩) ys.length e2) (.slice (some ⟨g3, 0, none⟩) xs.length e3) (.slice (some ⟨g4, 0, none⟩) ys.length e4) (.slice (some k0) 6 c0) (.slice (some k1) 6 c1) (.slice (some k2) 36 c2)
      refine ⟨w6.heap.size, g1, g2, g3, g4, e1, e2, e3, e4, rfl, ⟨AlG.set7 SX.out (by omega) _ _ _ _ _ _ _, by omega, by rw [set7_size]; omega, y0, y1', y2, y3, y4, y5, y6, RowOff.seen r1 (fun o => (((((set7_other (g := w6.heap.size) (q := ⟨g1, o, none⟩) (by show w6.heap.size ≠ g1; omega) _ _ _ _ _ _ _).trans (hb4.cell (p := ⟨g1, o, none⟩) (by show g1 < _; omega))).trans (hb3.cell (p := ⟨g1, o, none⟩) (by rw [size_made]; show g1 < _; omega))).trans (World.cell?_alloc_lt _ _ ⟨g1, o, none⟩ (by show g1 < _; omega))).trans (hb2.cell (p := ⟨g1, o, none⟩) (by show g1 < _; omega)))) (by rw [set7_size]; omega) (by omega), RowOff.seen r2 (fun o => ((((set7_other (g := w6.heap.size) (q := ⟨g2, o, none⟩) (by show w6.heap.size ≠ g2; omega) _ _ _ _ _ _ _).trans (hb4.cell (p := ⟨g2, o, none⟩) (by show g2 < _; omega))).trans (hb3.cell (p := ⟨g2, o, none⟩) (by rw [size_made]; show g2 < _; omega))).trans (World.cell?_alloc_lt _ _ ⟨g2, o, none⟩ (by show g2 < _; omega)))) (by rw [set7_size]; omega) (by omega), RowOff.seen r3 (fun o => ((set7_other (g := w6.heap.size) (q := ⟨g3, o, none⟩) (by show w6.heap.size ≠ g3; omega) _ _ _ _ _ _ _).trans (hb4.cell (p := ⟨g3, o, none⟩) (by show g3 < _; omega)))) (by rw [set7_size]; omega) (by omega), RowOff.seen r4 (fun o => (set7_other (g := w6.heap.size) (q := ⟨g4, o, none⟩) (by show w6.heap.size ≠ g4; omega) _ _ _ _ _ _ _)) (by rw [set7_size]; omega) (by omega)⟩⟩
    · go_wp2_with fail
      go_meet
      have s1 : wd.heap.size ≤ w5.heap.size := hb1.size
      have q1 : wd.heap.size ≤ g1 := f1
      have s2 : (w5.alloc (.cells #[.slice none 0 0, .slice none 0 0, .slice none 0 0, .slice none 0 0, .slice none 0 0, .slice none 0 0, .slice none 0 0] 138)).heap.size ≤ w6.heap.size := hb2.size
      rw [size_made] at s2
      have q2 : (w5.alloc (.cells #[.slice none 0 0, .slice none 0 0, .slice none 0 0, .slice none 0 0, .slice none 0 0, .slice none 0 0, .slice none 0 0] 138)).heap.size ≤ g2 := f2
      rw [size_made] at q2
      have s3 : w6.heap.size ≤ w7.heap.size := hb3.size
      have q3 : w6.heap.size ≤ g3 := f3
      have s4 : w7.heap.size ≤ w8.heap.size := hb4.size
      have q4 : w7.heap.size ≤ g4 := f4
      obtain ⟨y0, y1', y2, y3, y4, y5, y6⟩ := set7_in G7h.out (.slice (some ⟨g1, 0, none⟩) xs.length e1) (.slice (some ⟨g2, 0, none⟩) ys.length e2) (.slice (some ⟨g3, 0, none⟩) xs.length e3) (.slice (some ⟨g4, 0, none⟩) ys.length e4) (.slice (some k0) 6 c0) (.slice (some k1) 6 c1) (.slice (some k2) 36 c2)
      refine ⟨w5.heap.size, g1, g2, g3, g4, e1, e2, e3, e4, rfl, ⟨AlG.set7 SX.out (by omega) _ _ _ _ _ _ _, by omega, by rw [set7_size]; omega, y0, y1', y2, y3, y4, y5, y6, RowOff.seen r1 (fun o => (((((set7_other (g := w5.heap.size) (q := ⟨g1, o, none⟩) (by show w5.heap.size ≠ g1; omega) _ _ _ _ _ _ _).trans (hb4.cell (p := ⟨g1, o, none⟩) (by show g1 < _; omega))).trans (hb3.cell (p := ⟨g1, o, none⟩) (by show g1 < _; omega))).trans (hb2.cell (p := ⟨g1, o, none⟩) (by rw [size_made]; show g1 < _; omega))).trans (World.cell?_alloc_lt _ _ ⟨g1, o, none⟩ (by show g1 < _; omega)))) (by rw [set7_size]; omega) (by omega), RowOff.seen r2 (fun o => (((set7_other (g := w5.heap.size) (q := ⟨g2, o, none⟩) (by show w5.heap.size ≠ g2; omega) _ _ _ _ _ _ _).trans (hb4.cell (p := ⟨g2, o, none⟩) (by show g2 < _; omega))).trans (hb3.cell (p := ⟨g2, o, none⟩) (by show g2 < _; omega)))) (by rw [set7_size]; omega) (by omega), RowOff.seen r3 (fun o => ((set7_other (g := w5.heap.size) (q := ⟨g3, o, none⟩) (by show w5.heap.size ≠ g3; omega) _ _ _ _ _ _ _).trans (hb4.cell (p := ⟨g3, o, none⟩) (by show g3 < _; omega)))) (by rw [set7_size]; omega) (by omega), RowOff.seen r4 (fun o => (set7_other (g := w5.heap.size) (q := ⟨g4, o, none⟩) (by show w5.heap.size ≠ g4; omega) _ _ _ _ _ _ _)) (by rw [set7_size]; omega) (by omega)⟩⟩
    · go_wp2_with fail
      go_meet
      have s1 : (wd.alloc (.cells #[.slice none 0 0, .slice none 0 0, .slice none 0 0, .slice none 0 0, .slice none 0 0, .slice none 0 0, .slice none 0 0] 138)).heap.size ≤ w5.heap.size := hb1.size
      rw [size_made] at s1
      have q1 : (wd.alloc (.cells #[.slice none 0 0, .slice none 0 0, .slice none 0 0, .slice none 0 0, .slice none 0 0, .slice none 0 0, .slice none 0 0] 138)).heap.size ≤ g1 := f1
      rw [size_made] at q1
      have s2 : w5.heap.size ≤ w6.heap.size := hb2.size
      have q2 : w5.heap.size ≤ g2 := f2
      have s3 : w6.heap.size ≤ w7.heap.size := hb3.size
      have q3 : w6.heap.size ≤ g3 := f3
      have s4 : w7.heap.size ≤ w8.heap.size := hb4.size
      have q4 : w7.heap.size ≤ g4 := f4
      obtain ⟨y0, y1', y2, y3, y4, y5, y6⟩ := set7_in G7h.out (.slice (some ⟨g1, 0, none⟩) xs.length e1) (.slice (some ⟨g2, 0, none⟩) ys.length e2) (.slice (some ⟨g3, 0, none⟩) xs.length e3) (.slice (some ⟨g4, 0, none⟩) ys.length e4) (.slice (some k0) 6 c0) (.slice (some k1) 6 c1) (.slice (some k2) 36 c2)
      refine ⟨wd.heap.size, g1, g2, g3, g4, e1, e2, e3, e4, rfl, ⟨AlG.set7 SX.out (by omega) _ _ _ _ _ _ _, by omega, by rw [set7_size]; omega, y0, y1', y2, y3, y4, y5, y6, RowOff.seen r1 (fun o => ((((set7_other (g := wd.heap.size) (q := ⟨g1, o, none⟩) (by show wd.heap.size ≠ g1; omega) _ _ _ _ _ _ _).trans (hb4.cell (p := ⟨g1, o, none⟩) (by show g1 < _; omega))).trans (hb3.cell (p := ⟨g1, o, none⟩) (by show g1 < _; omega))).trans (hb2.cell (p := ⟨g1, o, none⟩) (by show g1 < _; omega)))) (by rw [set7_size]; omega) (by omega), RowOff.seen r2 (fun o => (((set7_other (g := wd.heap.size) (q := ⟨g2, o, none⟩) (by show wd.heap.size ≠ g2; omega) _ _ _ _ _ _ _).trans (hb4.cell (p := ⟨g2, o, none⟩) (by show g2 < _; omega))).trans (hb3.cell (p := ⟨g2, o, none⟩) (by show g2 < _; omega)))) (by rw [set7_size]; omega) (by omega), RowOff.seen r3 (fun o => ((set7_other (g := wd.heap.size) (q := ⟨g3, o, none⟩) (by show wd.heap.size ≠ g3; omega) _ _ _ _ _ _ _).trans (hb4.cell (p := ⟨g3, o, none⟩) (by show g3 < _; omega)))) (by rw [set7_size]; omega) (by omega), RowOff.seen r4 (fun o => (set7_other (g := wd.heap.size) (q := ⟨g4, o, none⟩) (by show wd.heap.size ≠ g4; omega) _ _ _ _ _ _ _)) (by rw [set7_size]; omega) (by omega)⟩⟩
  case rest =>
  obtain ⟨g, ax, ay, la, lb, cx, cy, dx, dy, rfl, hR⟩ := hcut
  have R := Lib.hid hR
  clear hR G1 zd
  go_wp2_with fail
  refine (specKeys_new A c xs _ (R.out.al.a.more R.out.al.bl.size) HX.out).mono ?_
  rintro e w9 ⟨gk, ck, rfl, rk, fk, fk', hb⟩
  have gk2 : w.heap.size + 2 ≤ gk := Nat.le_trans R.out.al.lt fk
  have R := Lib.hid (R.out.keep hb)
  have KA := Lib.hid (RowOff.seen (wq := w9) (gt := w.heap.size + 1) rk (fun _ => rfl) fk' (by omega))
  clear rk fk hb
  go_wp2_with fail
  refine (specKeys_new A' c' ys _ (R.out.al.b.more R.out.al.bl.size) HY.out).mono ?_
  rintro e w10 ⟨gl, cl, rfl, rl, fl, fl', hb⟩
  have gl2 : w.heap.size + 2 ≤ gl := Nat.le_trans R.out.al.lt fl
  have R := Lib.hid (R.out.keep hb)
  have KA := Lib.hid (KA.out.keep hb.size (fun p hp _ _ => hb.cell hp))
  have KB := Lib.hid (RowOff.seen (wq := w10) (gt := w.heap.size + 1) rl (fun _ => rfl) fl' (by omega))
  clear rl fl hb fk' fl' gk2 gl2
  have kl := fun (zs : Tr) (h : Tr.ok zs = true) => show 0 < (Tr.krs zs).length ∧ (Tr.krs zs).length ≤ 24 by have h1 := Tr.krTo_le zs (Tr.lfs zs).length; have h2 := Tr.lfs_len h; have h3 := (Tr.len24 h).2; obtain ⟨r, hr⟩ := Tr.krs_last h; refine ⟨by rw [hr]; simp, ?_⟩; unfold Tr.krs; omega
  obtain ⟨mx, hmx⟩ : ∃ m, m = (Tr.krs xs).length := ⟨_, rfl⟩
  obtain ⟨my, hmy⟩ : ∃ m, m = (Tr.krs ys).length := ⟨_, rfl⟩
  have klx := kl xs HX.out
  have kly := kl ys HY.out
  rw [← hmx] at klx
  rw [← hmy] at kly
  rw [← hmx] at KA
  rw [← hmy] at KB
  rw [← hmx, ← hmy]
  have MX := Lib.hid hmx
  have MY := Lib.hid hmy
  obtain ⟨kx0, kx24⟩ := klx
  obtain ⟨ky0, ky24⟩ := kly
  have T0 := Lib.hid (show (List.replicate nm (0 : Int)).length = xs.length * ys.length by rw [List.length_replicate]; exact HNM.out)
  clear kl hmx hmy
  go_wp2
  go_loopw [9, 13] (fun lv kv wr => ∃ (kk : Nat) (T : List Int), kk ≤ mx ∧ kv = .int .i64 kk ∧ Roots xs ys k kk 0 T ∧ AlR A A' xs.length ys.length nm xs ys k0 k1 k2 c0 c1 c2 k T g ax ay la lb cx cy dx dy w wr ∧ RowOff wr (w.heap.size + 1) (w.heap.size + 1) ⟨gk, 0, none⟩ mx (Zs.up (Tr.krs xs)) ∧ RowOff wr (w.heap.size + 1) (w.heap.size + 1) ⟨gl, 0, none⟩ my (Zs.up (Tr.krs ys)) ∧ (kk = mx → AllLast xs ys k w.heap.size lv wr)) (fun _ kk _ => mx - (intOf kk).toNat)
  case atStart => exact ⟨0, _, Nat.zero_le _, rfl, Roots.start T0.out, R.out, KA.out, KB.out, fun h => by omega⟩
  case round =>
    clear R KA KB T0
    obtain ⟨kk, T, hkk, rfl, hT, hR, hA, hB, hL⟩ := hrel
    have HT := Lib.hid hT
    have R := Lib.hid hR
    have KA := Lib.hid hA
    have KB := Lib.hid hB
    have HL := Lib.hid hL
    clear hT hR hA hB hL
    by_cases hlt : kk < mx
    · go_wp2
      go_loopw [9, 14] (fun lv jv wr => ∃ (ll : Nat) (T : List Int), ll ≤ my ∧ jv = .int .i64 ll ∧ Roots xs ys k kk ll T ∧ AlR A A' xs.length ys.length nm xs ys k0 k1 k2 c0 c1 c2 k T g ax ay la lb cx cy dx dy w wr ∧ RowOff wr (w.heap.size + 1) (w.heap.size + 1) ⟨gk, 0, none⟩ mx (Zs.up (Tr.krs xs)) ∧ RowOff wr (w.heap.size + 1) (w.heap.size + 1) ⟨gl, 0, none⟩ my (Zs.up (Tr.krs ys)) ∧ (kk + 1 = mx → ll = my → AllLast xs ys k w.heap.size lv wr)) (fun _ ll _ => my - (intOf ll).toNat)
      case atStart => exact ⟨0, T, Nat.zero_le _, rfl, HT.out, R.out, KA.out, KB.out, fun _ h => by omega⟩
      case round =>
        clear HT R KA KB HL
        clear T
        obtain ⟨ll, T, hll, rfl, hT, hR, hA, hB, hL⟩ := hrel
        have HT := Lib.hid hT
        have R := Lib.hid hR
        have KA := Lib.hid hA
        have KB := Lib.hid hB
        have HL := Lib.hid hL
        clear hT hR hA hB hL
        by_cases hlt2 : ll < my
        · have hkm : kk < (Tr.krs xs).length := by rw [← MX.out]; exact hlt
          have hlm : ll < (Tr.krs ys).length := by rw [← MY.out]; exact hlt2
          have e1 := KA.out.at_ kk hlt
          have e2 := KB.out.at_ ll hlt2
          rw [Tr.kr_up hkm] at e1
          rw [Tr.kr_up hlm] at e2
          rw [add_flat] at e1 e2
          have HI := Lib.hid (Tr.krs_lt HX.out (Tr.kr_mem hkm))
          have HJ := Lib.hid (Tr.krs_lt HY.out (Tr.kr_mem hlm))
          have HAH := Lib.hid (Roots.ahead HX.out HY.out hkm hlm HT.out)
          obtain ⟨ki, hki⟩ : ∃ z, z = Tr.kr xs kk := ⟨_, rfl⟩
          obtain ⟨kj, hkj⟩ : ∃ z, z = Tr.kr ys ll := ⟨_, rfl⟩
          rw [← hki] at e1 HI
          rw [← hkj] at e2 HJ
          rw [← hki, ← hkj] at HAH
          have KI := Lib.hid hki
          have KJ := Lib.hid hkj
          have HKM := Lib.hid hkm
          have HLM := Lib.hid hlm
          clear hki hkj hkm hlm
          have t0 := R.out.t0
          have t1 := R.out.t1
          have t2 := R.out.t2
          have t3 := R.out.t3
          have t4 := R.out.t4
          have t5 := R.out.t5
          have t6 := R.out.t6
          have b1 : (0 : Int) ≤ (kk : Int) := by omega
          have b2 : (kk : Int) < (mx : Int) := by omega
          have b3 : (0 : Int) ≤ (ll : Int) := by omega
          have b4 : (ll : Int) < (my : Int) := by omega
          go_wp2_with fail
          go_still_tail 10, (by kernel_rfl)
          change wpList _ _ _ _ _ wr.drew
          clear t0 t1 t2 t3 t4 t5 t6 e1 e2 b1 b2 b3 b4
          have RD := Lib.hid (R.out.keep (Drawn.refl _).drew.toBelow)
          have KAD := Lib.hid (KA.out.keep (w' := wr.drew) (Nat.le_refl _) (fun p _ _ _ => rfl))
          have KBD := Lib.hid (KB.out.keep (w' := wr.drew) (Nat.le_refl _) (fun p _ _ _ => rfl))
          clear R KA KB
          generalize wr.drew = wp at RD KAD KBD ⊢
          go_wp2_with fail
          refine (l8Forest_any w.heap.size (w.heap.size + 1) nm ⟨ax, 0, none⟩ ⟨ay, 0, none⟩ ⟨la, 0, none⟩ ⟨lb, 0, none⟩ k0 k1 k2 cx cy dx dy c0 c1 c2 xs ys k T ki kj _ HX.out HY.out HO.out HI.out HJ.out HAH.out HNM.out RD.out.rx RD.out.ry RD.out.ra RD.out.rb RD.out.al.r0 RD.out.al.r1 RD.out.al.r2 RD.out.al.t).mono ?_
          rintro e w5 ⟨hf, nf, f, T', rfl, hnf, hof, hF, ht', hcs, hbl⟩
          have R := Lib.hid (RD.out.step hcs hbl ht')
          have KA := Lib.hid (KAD.out.keep hbl.size (fun p hp h1 _ => hcs p hp h1))
          have KB := Lib.hid (KBD.out.keep hbl.size (fun p hp h1 _ => hcs p hp h1))
          have HT' := Lib.hid (Roots.step HKM.out HLM.out HT.out (by rw [← KI.out, ← KJ.out]; exact hF))
          have HLL := Lib.hid (fun (h1 : kk + 1 = mx) (h2 : ll + 1 = my) => AllLast.of (base := w.heap.size) HX.out HY.out (by rw [← MX.out]; exact h1) (by rw [← MY.out]; exact h2) KI.out KJ.out hF hnf (own_base hof RD.out.al.bl.size))
          clear hnf hof hF ht' hcs hbl RD KAD KBD HT
          go_wp2
          go_roundw
          case rel => exact ⟨ll + 1, T', by omega, by go_num, HT'.out, R.out, KA.out, KB.out, HLL.out⟩
          case measure => simp [intOf]; omega
        · have hle : ll = my := by omega
          have HLL := Lib.hid (fun e => HL.out e hle)
          have HN := Lib.hid (show Roots xs ys k (kk + 1) 0 T from Roots.next (by rw [← MY.out, ← hle]; exact HT.out))
          clear HL HT hle
          go_wp2
          go_roundw
          case rel => exact ⟨kk + 1, T, by omega, by go_num, HN.out, R.out, KA.out, KB.out, HLL.out⟩
          case measure => simp [intOf]; omega
    · have hke : kk = mx := by omega
      have HLL := Lib.hid (HL.out hke)
      have HTT := Lib.hid (show T = Tr.tds xs ys k from Roots.tds HX.out HY.out (by rw [← MX.out, ← hke]; exact HT.out))
      clear hke HL HT
      obtain ⟨hf, f, rfl, ho, hf'⟩ := HLL.out
      have OF := Lib.hid ho
      have FF := Lib.hid hf'
      clear ho hf' HLL
      go_wp2
      go_ret2
      exact ⟨hf, nm, f, HNM.out, rfl, by rw [← HTT.out]; exact R.out.al.t, OF.out, FF.out, R.out.al.bl⟩

end Go.Proofs.Ytlndaflhlkbedaa
