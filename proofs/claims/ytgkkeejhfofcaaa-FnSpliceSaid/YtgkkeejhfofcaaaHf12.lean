/- Texts of one claim laid into one file, in build order: Three, UnitS, SideI, FullM, Krl, AllS. -/
import Derived.Test.YtgkkeejhfofcaaaHf1
import Derived.Test.YtgkkeejhfofcaaaHf10
import Derived.Test.YtgkkeejhfofcaaaHf11
import Derived.Test.YtgkkeejhfofcaaaHf2
import Derived.Test.YtgkkeejhfofcaaaHf6
import Derived.Test.YtgkkeejhfofcaaaHf7
import Derived.Test.YtgkkeejhfofcaaaHf8
import Derived.Test.YtgkkeejhfofcaaaHf9
import Derived.BigQuiet
import Derived.Deep.CutRange
import Derived.Deep.RegionHeld3
import Derived.Deep.RegionLaw
import Derived.Laws.OwnMore
import Derived.Laws.Tables
import Derived.Outline
import Derived.StillTailTactics
/- Contracts (Three). -/
namespace Go.Proofs.Ytgkkeejhfofcaaa
open Go.RowKit
set_option linter.unusedVariables false

theorem Apart.symm {a b : Value} (h : Apart a b) : Apart b a := by
  rcases hb : b.ownBlock with _ | g
  · exact .inl hb
  · refine .inr fun e => ?_
    rcases h with h | h
    · rw [hb, h] at e; cases e
    · exact h e.symm
/-- a struct of three rows of ints that a call builds: in block g; the rows behind it, apart from one another -/
def ThreeAt (w0 : World) (g n0 n1 n2 : Nat) (L0 L1 L2 : List Int) (v0 v1 v2 : Value) (w : World) : Prop :=
  Box3 w g v0 v1 v2 ∧ (∀ off, w.frozen? ⟨g, off, none⟩ = false) ∧ w.ownsRow (g + 1) 3 1 v0 n0 (ints L0) ∧ w.ownsRow (g + 1) 3 1 v1 n1 (ints L1) ∧ w.ownsRow (g + 1) 3 1 v2 n2 (ints L2) ∧
  Apart v0 v1 ∧ Apart v0 v2 ∧ Apart v1 v2 ∧ Below w0.heap.size w0 w ∧ g < w.heap.size
/-- the struct as it is made: three empty rows -/
theorem Three.new (w0 : World) (e : TypeId) : ThreeAt w0 w0.heap.size 0 0 0 [] [] [] (.slice none 0 0) (.slice none 0 0) (.slice none 0 0) (w0.alloc (.cells #[.slice none 0 0, .slice none 0 0, .slice none 0 0] e)) :=
  ⟨Box3.made _ _ _ _ _, Box3.free _ _ _ _ _, own_nil, own_nil, own_nil, .inl rfl, .inl rfl, .inl rfl, (Below.refl _ _).alloc (Nat.le_refl _) _, by simp⟩
/-- its three rows, as they lie behind a store of it into another struct -/
theorem Three.out {w0 w : World} {g n0 n1 n2 s : Nat} {L0 L1 L2 : List Int} {v0 v1 v2 u0 u1 u2 : Value} (h : ThreeAt w0 g n0 n1 n2 L0 L1 L2 v0 v1 v2 w) (hs : s ≤ g) {base : Nat} (hb : base ≤ g) :
    let W := ((w.setCell ⟨s, 0, none⟩ u0).setCell ⟨s, 1, none⟩ u1).setCell ⟨s, 2, none⟩ u2
    W.ownsRow base 3 1 v0 n0 (ints L0) ∧ W.ownsRow base 3 1 v1 n1 (ints L1) ∧ W.ownsRow base 3 1 v2 n2 (ints L2) ∧ Apart v0 v1 ∧ Apart v0 v2 ∧ Apart v1 v2 := by
  obtain ⟨hx, hf, o0, o1, o2, a01, a02, a12, hB, hgl⟩ := h
  have keep : ∀ (v : Value) (n : Nat) (ys : List Value), w.ownsRow (g + 1) 3 1 v n ys → (((w.setCell ⟨s, 0, none⟩ u0).setCell ⟨s, 1, none⟩ u1).setCell ⟨s, 2, none⟩ u2).ownsRow base 3 1 v n ys := fun _ _ _ k =>
    own_base (own_grown (own_grown (own_grown k (Kit.grown_set _ _ _ _) (fun b hb => by injection hb with hb; omega)) (Kit.grown_set _ _ _ _) (fun b hb => by injection hb with hb; omega)) (Kit.grown_set _ _ _ _) (fun b hb => by injection hb with hb; omega)) (by omega)
  exact ⟨keep _ _ _ o0, keep _ _ _ o1, keep _ _ _ o2, a01, a02, a12⟩

end Go.Proofs.Ytgkkeejhfofcaaa

/- Contracts (UnitS). -/
namespace Go.Proofs.Ytgkkeejhfofcaaa
open Go.RowKit
set_option linter.unusedVariables false

def Co.urel (j : Nat) : List Int := (List.range j).map fun p => if p / 6 = p % 6 then 0 else 1
def Co.unit : Co := ⟨List.replicate 6 1, List.replicate 6 1, Co.urel 36⟩
end Go.Proofs.Ytgkkeejhfofcaaa

/- Contracts (SideI). -/
namespace Go.Proofs.Ytgkkeejhfofcaaa
open Go.RowKit
set_option linter.unusedVariables false

/-- a struct of three rows in block g, the first of which grows in blocks from b0 on -/
structure SdA (g b0 : Nat) (v1 v2 : Value) (L : List Int) (v0 : Value) (w2 w3 wr : World) : Prop where
  c0 : wr.cell? ⟨g, 0, none⟩ = some v0
  c1 : wr.cell? ⟨g, 1, none⟩ = some v1
  c2 : wr.cell? ⟨g, 2, none⟩ = some v2
  fz : ∀ off, wr.frozen? ⟨g, off, none⟩ = false
  row : wr.ownsRow b0 3 1 v0 L.length (ints L)
  kb : ∀ p : Addr, p.block < b0 → p.block ≠ g → wr.cell? p = w3.cell? p
  bl : Below g w2 wr
  sz : b0 ≤ wr.heap.size
theorem SdA.drew {g b0 : Nat} {v1 v2 v0 : Value} {L : List Int} {w2 w3 wr : World} (h : SdA g b0 v1 v2 L v0 w2 w3 wr) : SdA g b0 v1 v2 L v0 w2 w3 wr.drew :=
  ⟨h.c0, h.c1, h.c2, h.fz, own_drawn h.row (Drawn.refl _).drew, h.kb, Drawn.below h.bl (Drawn.refl _).drew, h.sz⟩
end Go.Proofs.Ytgkkeejhfofcaaa

/- Contracts (FullM). -/
namespace Go.Proofs.Ytgkkeejhfofcaaa
open Go.RowKit
set_option linter.unusedVariables false

/-! How the table is made. -/
/-- the cells of a new table -/
def dtCells (z : Array Value) (a0 a1 a2 b0 b1 b2 k0 k1 k2 t : Value) : Array Value := (((((((((z.setIfInBounds 0 a0).setIfInBounds 1 a1).setIfInBounds 2 a2).setIfInBounds 3 b0).setIfInBounds 4 b1).setIfInBounds 5 b2).setIfInBounds 6 k0).setIfInBounds 7 k1).setIfInBounds 8 k2).setIfInBounds 9 t
theorem dt_cells (a0 a1 a2 b0 b1 b2 k0 k1 k2 t : Value) : dtCells Try.zeroCells92 a0 a1 a2 b0 b1 b2 k0 k1 k2 t = ⟨[a0, a1, a2, b0, b1, b2, k0, k1, k2, t] ++ List.replicate 625 (.int .i64 0)⟩ := by kernel_rfl
theorem dtCells_zero (a0 a1 a2 b0 b1 b2 k0 k1 k2 t : Value) (x y : Nat) (hx : x < 25) (hy : y < 25) : (dtCells Try.zeroCells92 a0 a1 a2 b0 b1 b2 k0 k1 k2 t)[10 + x * 25 + y]? = some (.int .i64 0) := by
  rw [dt_cells, List.getElem?_toArray, List.getElem?_append_right (by simp; omega), List.getElem?_replicate, if_pos (by simp; omega)]
/-- a row of the call's own, seen from a block that is made behind it -/
theorem RowOff.of_own {w : World} {base ga gt n c : Nat} {zs : List Int} {o : Obj} (h : w.ownsRow base 3 1 (.slice (some ⟨ga, 0, none⟩) n c) n (ints zs)) (hg : ga < w.heap.size) (hne : ga ≠ gt) : RowOff (w.alloc o) w.heap.size gt ⟨ga, 0, none⟩ n zs := by
  have hlen : zs.length = n := by have := h.1; rw [ints_length] at this; omega
  refine ⟨hlen, by simp; omega, by show ga ≠ w.heap.size; omega, hne, fun k hk => ?_⟩
  have := (h.alloc o).cells rfl k _ (ints_at zs k (by omega))
  exact this
theorem RowOff.of_in {w : World} {B gt n : Nat} {ad : Addr} {zs : List Int} {o : Obj} (h : IntIn w B (some ad) n zs) (hb : ad.block < B) (hB : B ≤ gt) (hg : gt < w.heap.size) : RowOff (w.alloc o) w.heap.size gt ad n zs := by
  refine ⟨h.1, by simp; omega, by omega, by omega, fun k hk => ?_⟩
  rw [World.cell?_alloc_lt w o _ (by rw [block_of_add]; omega)]
  exact h.here hk
theorem cell_made (w : World) (cs : Array Value) (e : TypeId) (off : Nat) (u : Value) (hu : cs[off]? = some u) : (w.alloc (.cells cs e)).cell? ⟨w.heap.size, off, none⟩ = some u := by simp [hu]
theorem free_made (w : World) (cs : Array Value) (e : TypeId) (off : Nat) : (w.alloc (.cells cs e)).frozen? ⟨w.heap.size, off, none⟩ = false := by simp
theorem size_made (w : World) (cs : Array Value) (e : TypeId) : (w.alloc (.cells cs e)).heap.size = w.heap.size + 1 := by simp
set_option maxRecDepth 100000 in
/-- the table, new -/
theorem DT.made {B nm : Nat} {xs ys : Tr} {k : Co} {w : World} {ga0 ga1 ga2 gb0 gb1 gb2 gt ca0 ca1 ca2 cb0 cb1 cb2 ck0 ck1 ck2 : Nat} {k0 k1 k2 : Addr}
    (a0 : w.ownsRow B 3 1 (.slice (some ⟨ga0, 0, none⟩) xs.length ca0) xs.length (ints (Tr.lab xs))) (a1 : w.ownsRow B 3 1 (.slice (some ⟨ga1, 0, none⟩) xs.length ca1) xs.length (ints (Zs.up (Tr.lfs xs)))) (a2 : w.ownsRow B 3 1 (.slice (some ⟨ga2, 0, none⟩) (Tr.krs xs).length ca2) (Tr.krs xs).length (ints (Zs.up (Tr.krs xs))))
    (b0 : w.ownsRow B 3 1 (.slice (some ⟨gb0, 0, none⟩) ys.length cb0) ys.length (ints (Tr.lab ys))) (b1 : w.ownsRow B 3 1 (.slice (some ⟨gb1, 0, none⟩) ys.length cb1) ys.length (ints (Zs.up (Tr.lfs ys)))) (b2 : w.ownsRow B 3 1 (.slice (some ⟨gb2, 0, none⟩) (Tr.krs ys).length cb2) (Tr.krs ys).length (ints (Zs.up (Tr.krs ys))))
    (hnm : nm = xs.length * ys.length) (t : w.ownsRow B 3 1 (.slice (some ⟨gt, 0, none⟩) nm nm) nm (ints (List.replicate nm 0)))
    (hk : CoIn w B (some k0) (some k1) (some k2) 6 6 36 k)
    (na : ga0 ≠ gt ∧ ga1 ≠ gt ∧ ga2 ≠ gt ∧ gb0 ≠ gt ∧ gb1 ≠ gt ∧ gb2 ≠ gt) (nl : ga0 < w.heap.size ∧ ga1 < w.heap.size ∧ ga2 < w.heap.size ∧ gb0 < w.heap.size ∧ gb1 < w.heap.size ∧ gb2 < w.heap.size) (ht : B ≤ gt ∧ gt < w.heap.size) :
    DT B ⟨w.heap.size, gt, ⟨ga0, 0, none⟩, ⟨ga1, 0, none⟩, ⟨ga2, 0, none⟩, ⟨gb0, 0, none⟩, ⟨gb1, 0, none⟩, ⟨gb2, 0, none⟩, k0, k1, k2, ca0, ca1, ca2, cb0, cb1, cb2, ck0, ck1, ck2⟩ xs ys k (fun _ _ => 0) (List.replicate nm 0)
      (w.alloc (.cells (dtCells Try.zeroCells92 (.slice (some ⟨ga0, 0, none⟩) xs.length ca0) (.slice (some ⟨ga1, 0, none⟩) xs.length ca1) (.slice (some ⟨ga2, 0, none⟩) (Tr.krs xs).length ca2) (.slice (some ⟨gb0, 0, none⟩) ys.length cb0) (.slice (some ⟨gb1, 0, none⟩) ys.length cb1) (.slice (some ⟨gb2, 0, none⟩) (Tr.krs ys).length cb2)
        (.slice (some k0) 6 ck0) (.slice (some k1) 6 ck1) (.slice (some k2) 36 ck2) (.slice (some ⟨gt, 0, none⟩) nm nm)) 92)) := by
  subst hnm
  obtain ⟨_, e0, q0⟩ := hk.1.2.1 (by omega)
  injection e0 with e0; subst e0
  obtain ⟨_, e1, q1⟩ := hk.2.1.2.1 (by omega)
  injection e1 with e1; subst e1
  obtain ⟨_, e2, q2⟩ := hk.2.2.2.1 (by omega)
  injection e2 with e2; subst e2
  exact {
    gB := by show B ≤ w.heap.size; omega
    gl := by show w.heap.size < _; rw [size_made]; omega
    gg := by show gt ≠ w.heap.size; omega
    fz := free_made _ _ _
    h0 := cell_made _ _ _ 0 _ (by rw [dt_cells]; rfl), h1 := cell_made _ _ _ 1 _ (by rw [dt_cells]; rfl), h2 := cell_made _ _ _ 2 _ (by rw [dt_cells]; rfl), h3 := cell_made _ _ _ 3 _ (by rw [dt_cells]; rfl), h4 := cell_made _ _ _ 4 _ (by rw [dt_cells]; rfl), h5 := cell_made _ _ _ 5 _ (by rw [dt_cells]; rfl), h6 := cell_made _ _ _ 6 _ (by rw [dt_cells]; rfl), h7 := cell_made _ _ _ 7 _ (by rw [dt_cells]; rfl), h8 := cell_made _ _ _ 8 _ (by rw [dt_cells]; rfl), h9 := cell_made _ _ _ 9 _ (by rw [dt_cells]; rfl)
    fr := fun x y hx hy => cell_made _ _ _ _ _ (dtCells_zero _ _ _ _ _ _ _ _ _ _ x y hx hy)
    row := t.alloc _
    ra0 := RowOff.of_own a0 nl.1 na.1, ra1 := RowOff.of_own a1 nl.2.1 na.2.1, ra2 := RowOff.of_own a2 nl.2.2.1 na.2.2.1
    rb0 := RowOff.of_own b0 nl.2.2.2.1 na.2.2.2.1, rb1 := RowOff.of_own b1 nl.2.2.2.2.1 na.2.2.2.2.1, rb2 := RowOff.of_own b2 nl.2.2.2.2.2 na.2.2.2.2.2
    rk0 := RowOff.of_in hk.1 q0 ht.1 ht.2, rk1 := RowOff.of_in hk.2.1 q1 ht.1 ht.2, rk2 := RowOff.of_in hk.2.2 q2 ht.1 ht.2 }

end Go.Proofs.Ytgkkeejhfofcaaa

/- The last pair of key roots. -/
namespace Go.Proofs.Ytgkkeejhfofcaaa
open Go.RowKit
set_option linter.unusedVariables false

theorem Tr.kr_end {xs : Tr} (h : Tr.ok xs = true) {a : Nat} (ha : a + 1 = (Tr.krs xs).length) : Tr.kr xs a = xs.length - 1 := by
  obtain ⟨r, hr⟩ := Tr.krs_last h
  unfold Tr.kr
  rw [hr] at ha ⊢
  rw [List.length_append, List.length_singleton] at ha
  rw [List.getD_eq_getElem?_getD, List.getElem?_append_right (by omega), show a - r.length = 0 by omega]
  rfl
/-- the forests behind the last pair of key roots -/
theorem fill_last {xs ys : Tr} {k : Co} {kk ll y : Nat} {F : Nat → Nat → Int} {T0 T : List Int} (hx : Tr.ok xs = true) (hy : Tr.ok ys = true) (hk : kk + 1 = (Tr.krs xs).length) (hl : ll + 1 = (Tr.krs ys).length)
    (h : Fill xs ys k (Tr.kr xs kk) (Tr.kr ys ll) (Tr.kr xs kk + 1) y F T0 T) : ∀ a b, a ≤ xs.length → b ≤ ys.length → F a b = RR xs ys k 0 a 0 b := by
  intro a b ha hb
  have n1 := (Tr.len24 hx).1
  have n2 := (Tr.len24 hy).1
  have e1 := Tr.kr_end hx hk
  have e2 := Tr.kr_end hy hl
  have f := h.f a b
  rw [e1, e2, Tr.la_last hx, Tr.la_last hy] at f
  exact f (Nat.zero_le _) (by omega) (Nat.zero_le _) (by omega) (.inl (by omega))

end Go.Proofs.Ytgkkeejhfofcaaa

/- Contracts (AllS). -/
namespace Go.Proofs.Ytgkkeejhfofcaaa
open Go.RowKit
set_option linter.unusedVariables false

theorem RowOff.inn {w : World} {B gt n : Nat} {ad : Addr} {zs : List Int} (h : IntIn w B (some ad) n zs) (hn : 0 < n) (hB : B ≤ gt) (hs : B ≤ w.heap.size) : RowOff w gt gt ad n zs := by
  obtain ⟨a, e, hl⟩ := h.2.1 hn
  injection e with e
  subst e
  exact ⟨h.1, by omega, by omega, by omega, fun k hk => h.here hk⟩
/-- what l8All holds ahead of its four rows -/
structure AlG (A A' : Option Addr) (n n' nm : Nat) (xs ys : Tr) (K0 K1 K2 : Option Addr) (c0 c1 c2 : Nat) (k : Co) (T : List Int) (w wq : World) : Prop where
  a : NdIn wq w.heap.size A n xs
  b : NdIn wq w.heap.size A' n' ys
  k : CoIn wq w.heap.size K0 K1 K2 6 6 36 k
  bl : Below w.heap.size w wq
  q : Box3 wq w.heap.size (.slice K0 6 c0) (.slice K1 6 c1) (.slice K2 36 c2)
  t : wq.ownsRow w.heap.size 3 1 (.slice (some ⟨w.heap.size + 1, 0, none⟩) nm nm) nm (ints T)
  lt : w.heap.size + 2 ≤ wq.heap.size
section
variable {A A' : Option Addr} {n n' nm : Nat} {xs ys : Tr} {K0 K1 K2 : Option Addr} {c0 c1 c2 : Nat} {k : Co} {T : List Int} {w wx wq : World}
theorem AlG.keep (h : AlG A A' n n' nm xs ys K0 K1 K2 c0 c1 c2 k T w wx) (hb : Below wx.heap.size wx wq) : AlG A A' n n' nm xs ys K0 K1 K2 c0 c1 c2 k T w wq := by
  have hl := h.lt
  have hb' := hb.mono (B' := w.heap.size) (by omega)
  exact ⟨h.a.below hb', h.b.below hb', h.k.below hb', h.bl.trans hb', h.q.below hb (by omega), own_below h.t hb, Nat.le_trans hl hb.size⟩
theorem AlG.alloc (h : AlG A A' n n' nm xs ys K0 K1 K2 c0 c1 c2 k T w wx) (o : Obj) : AlG A A' n n' nm xs ys K0 K1 K2 c0 c1 c2 k T w (wx.alloc o) := h.keep ((Below.refl _ _).alloc (Nat.le_refl _) _)
theorem AlG.drew (h : AlG A A' n n' nm xs ys K0 K1 K2 c0 c1 c2 k T w wx) : AlG A A' n n' nm xs ys K0 K1 K2 c0 c1 c2 k T w wx.drew := h.keep (Drawn.refl _).drew.toBelow
theorem AlG.set (h : AlG A A' n n' nm xs ys K0 K1 K2 c0 c1 c2 k T w wx) {g : Nat} (hg : w.heap.size + 2 ≤ g) (o : Nat) (v : Value) : AlG A A' n n' nm xs ys K0 K1 K2 c0 c1 c2 k T w (wx.setCell ⟨g, o, none⟩ v) := by
  have hb : Below (w.heap.size + 2) wx (wx.setCell ⟨g, o, none⟩ v) := (Below.refl _ _).setCell hg _
  have hb' := hb.mono (B' := w.heap.size) (by omega)
  exact ⟨h.a.below hb', h.b.below hb', h.k.below hb', h.bl.trans hb', h.q.below hb (by omega), h.t.kept (Kit.grown_set _ _ _ _) (.inr fun e => absurd (show w.heap.size + 1 = g by injection e) (by omega)), by simp; exact h.lt⟩
theorem AlG.r0 {k0 k1 k2 : Addr} (h : AlG A A' n n' nm xs ys (some k0) (some k1) (some k2) c0 c1 c2 k T w wx) : RowOff wx (w.heap.size + 1) (w.heap.size + 1) k0 6 k.d := RowOff.inn h.k.1 (by omega) (by omega) h.bl.size
theorem AlG.r1 {k0 k1 k2 : Addr} (h : AlG A A' n n' nm xs ys (some k0) (some k1) (some k2) c0 c1 c2 k T w wx) : RowOff wx (w.heap.size + 1) (w.heap.size + 1) k1 6 k.i := RowOff.inn h.k.2.1 (by omega) (by omega) h.bl.size
theorem AlG.r2 {k0 k1 k2 : Addr} (h : AlG A A' n n' nm xs ys (some k0) (some k1) (some k2) c0 c1 c2 k T w wx) : RowOff wx (w.heap.size + 1) (w.heap.size + 1) k2 36 k.r := RowOff.inn h.k.2.2 (by omega) (by omega) h.bl.size
theorem AlG.step {T' : List Int} (h : AlG A A' n n' nm xs ys K0 K1 K2 c0 c1 c2 k T w wx) (hc : ∀ p : Addr, p.block < wx.heap.size → p.block ≠ w.heap.size + 1 → wq.cell? p = wx.cell? p) (hb : Below w.heap.size wx wq) (ht : wq.ownsRow w.heap.size 3 1 (.slice (some ⟨w.heap.size + 1, 0, none⟩) nm nm) nm (ints T')) : AlG A A' n n' nm xs ys K0 K1 K2 c0 c1 c2 k T' w wq := by
  have hl := h.lt
  have hq : ∀ i, wq.cell? ⟨w.heap.size, i, none⟩ = wx.cell? ⟨w.heap.size, i, none⟩ := fun i => hc _ (by show w.heap.size < _; omega) (by show w.heap.size ≠ _; omega)
  exact ⟨h.a.below hb, h.b.below hb, h.k.below hb, h.bl.trans hb, ⟨(hq 0).trans h.q.1, (hq 1).trans h.q.2.1, (hq 2).trans h.q.2.2⟩, ht, Nat.le_trans hl hb.size⟩
end
/-- t, its four rows, and what stood ahead -/
structure AlR (A A' : Option Addr) (n n' nm : Nat) (xs ys : Tr) (k0 k1 k2 : Addr) (c0 c1 c2 : Nat) (k : Co) (T : List Int) (g ax ay la lb cx cy dx dy : Nat) (w wq : World) : Prop where
  al : AlG A A' n n' nm xs ys (some k0) (some k1) (some k2) c0 c1 c2 k T w wq
  gl : w.heap.size + 2 ≤ g
  gs : g < wq.heap.size
  t0 : wq.cell? ⟨g, 0, none⟩ = some (.slice (some ⟨ax, 0, none⟩) n cx)
  t1 : wq.cell? ⟨g, 1, none⟩ = some (.slice (some ⟨ay, 0, none⟩) n' cy)
  t2 : wq.cell? ⟨g, 2, none⟩ = some (.slice (some ⟨la, 0, none⟩) n dx)
  t3 : wq.cell? ⟨g, 3, none⟩ = some (.slice (some ⟨lb, 0, none⟩) n' dy)
  t4 : wq.cell? ⟨g, 4, none⟩ = some (.slice (some k0) 6 c0)
  t5 : wq.cell? ⟨g, 5, none⟩ = some (.slice (some k1) 6 c1)
  t6 : wq.cell? ⟨g, 6, none⟩ = some (.slice (some k2) 36 c2)
  rx : RowOff wq (w.heap.size + 1) (w.heap.size + 1) ⟨ax, 0, none⟩ n (Tr.lab xs)
  ry : RowOff wq (w.heap.size + 1) (w.heap.size + 1) ⟨ay, 0, none⟩ n' (Tr.lab ys)
  ra : RowOff wq (w.heap.size + 1) (w.heap.size + 1) ⟨la, 0, none⟩ n (Zs.up (Tr.lfs xs))
  rb : RowOff wq (w.heap.size + 1) (w.heap.size + 1) ⟨lb, 0, none⟩ n' (Zs.up (Tr.lfs ys))
/-- a row made in w1 as it stands in wq -/
theorem RowOff.seen {w1 wq : World} {base g n c gt : Nat} {zs : List Int} (h : w1.ownsRow base 3 1 (.slice (some ⟨g, 0, none⟩) n c) n (ints zs)) (hc : ∀ o, wq.cell? ⟨g, o, none⟩ = w1.cell? ⟨g, o, none⟩) (hl : g < wq.heap.size) (hn : g ≠ gt) : RowOff wq gt gt ⟨g, 0, none⟩ n zs := by
  have hlen : zs.length = n := by have := h.1; rw [ints_length] at this; omega
  refine ⟨hlen, hl, hn, hn, fun k hk => ?_⟩
  have := h.cells rfl k _ (ints_at zs k (by omega))
  have e : (⟨g, 0, none⟩ : Addr).add k = ⟨g, k, none⟩ := by unfold Addr.add; split <;> simp_all
  rw [e] at this ⊢
  rw [hc k]
  exact this
section
variable {A A' : Option Addr} {n n' nm : Nat} {xs ys : Tr} {k0 k1 k2 : Addr} {c0 c1 c2 : Nat} {k : Co} {T T' : List Int} {g ax ay la lb cx cy dx dy : Nat} {w wx wq : World}
theorem AlR.keep (h : AlR A A' n n' nm xs ys k0 k1 k2 c0 c1 c2 k T g ax ay la lb cx cy dx dy w wx) (hb : Below wx.heap.size wx wq) : AlR A A' n n' nm xs ys k0 k1 k2 c0 c1 c2 k T g ax ay la lb cx cy dx dy w wq := by
  have c : ∀ i, wq.cell? ⟨g, i, none⟩ = wx.cell? ⟨g, i, none⟩ := fun i => hb.cell (p := ⟨g, i, none⟩) h.gs
  have r {ad : Addr} {m : Nat} {zs : List Int} (q : RowOff wx (w.heap.size + 1) (w.heap.size + 1) ad m zs) := q.keep hb.size (fun p hp _ _ => hb.cell hp)
  exact ⟨h.al.keep hb, h.gl, Nat.lt_of_lt_of_le h.gs hb.size, (c 0).trans h.t0, (c 1).trans h.t1, (c 2).trans h.t2, (c 3).trans h.t3, (c 4).trans h.t4, (c 5).trans h.t5, (c 6).trans h.t6, r h.rx, r h.ry, r h.ra, r h.rb⟩
theorem AlR.step (h : AlR A A' n n' nm xs ys k0 k1 k2 c0 c1 c2 k T g ax ay la lb cx cy dx dy w wx) (hc : ∀ p : Addr, p.block < wx.heap.size → p.block ≠ w.heap.size + 1 → wq.cell? p = wx.cell? p) (hb : Below w.heap.size wx wq) (ht : wq.ownsRow w.heap.size 3 1 (.slice (some ⟨w.heap.size + 1, 0, none⟩) nm nm) nm (ints T')) : AlR A A' n n' nm xs ys k0 k1 k2 c0 c1 c2 k T' g ax ay la lb cx cy dx dy w wq := by
  have gl := h.gl
  have c : ∀ i, wq.cell? ⟨g, i, none⟩ = wx.cell? ⟨g, i, none⟩ := fun i => hc ⟨g, i, none⟩ h.gs (by show g ≠ _; omega)
  have r {ad : Addr} {m : Nat} {zs : List Int} (q : RowOff wx (w.heap.size + 1) (w.heap.size + 1) ad m zs) := q.keep hb.size (fun p hp h1 _ => hc p hp h1)
  exact ⟨h.al.step hc hb ht, h.gl, Nat.lt_of_lt_of_le h.gs hb.size, (c 0).trans h.t0, (c 1).trans h.t1, (c 2).trans h.t2, (c 3).trans h.t3, (c 4).trans h.t4, (c 5).trans h.t5, (c 6).trans h.t6, r h.rx, r h.ry, r h.ra, r h.rb⟩
end
/-- the last table of forests, that of the roots -/
def AllLast (xs ys : Tr) (k : Co) (base : Nat) (lv : Value) (wq : World) : Prop :=
  ∃ (hf : Nat) (f : List Int), lv = .slice (some ⟨hf, 0, none⟩) ((xs.length + 1) * (ys.length + 1)) ((xs.length + 1) * (ys.length + 1)) ∧ wq.ownsRow base 3 1 (.slice (some ⟨hf, 0, none⟩) ((xs.length + 1) * (ys.length + 1)) ((xs.length + 1) * (ys.length + 1))) ((xs.length + 1) * (ys.length + 1)) (ints f) ∧
    ∀ a b, a ≤ xs.length → b ≤ ys.length → Zs.at f (a * (ys.length + 1) + b) = RR xs ys k 0 a 0 b
theorem AllLast.of {xs ys : Tr} {k : Co} {base kk ll ki kj hf nf y : Nat} {f T0 T : List Int} {wq : World} (hx : Tr.ok xs = true) (hy : Tr.ok ys = true) (hk : kk + 1 = (Tr.krs xs).length) (hl : ll + 1 = (Tr.krs ys).length) (hi : ki = Tr.kr xs kk) (hj : kj = Tr.kr ys ll)
    (hF : Fill xs ys k ki kj (ki + 1) y (fun a b => Zs.at f (ix (Tr.la xs ki) (Tr.la ys kj) (kj - Tr.la ys kj + 2) a b)) T0 T) (hnf : nf = (ki - Tr.la xs ki + 2) * (kj - Tr.la ys kj + 2))
    (ho : wq.ownsRow base 3 1 (.slice (some ⟨hf, 0, none⟩) nf nf) nf (ints f)) : AllLast xs ys k base (.slice (some ⟨hf, 0, none⟩) nf nf) wq := by
  have n1 := (Tr.len24 hx).1
  have n2 := (Tr.len24 hy).1
  rw [hi, hj] at hF
  have h := fill_last hx hy hk hl hF
  have e1 := Tr.kr_end hx hk
  have e2 := Tr.kr_end hy hl
  rw [hi, hj, e1, e2, Tr.la_last hx, Tr.la_last hy, show xs.length - 1 - 0 + 2 = xs.length + 1 by omega, show ys.length - 1 - 0 + 2 = ys.length + 1 by omega] at hnf
  rw [e1, e2, Tr.la_last hx, Tr.la_last hy, show ys.length - 1 - 0 + 2 = ys.length + 1 by omega] at h
  subst hnf
  exact ⟨hf, f, rfl, ho, fun a b ha hb => by have := h a b ha hb; exact this⟩
end Go.Proofs.Ytgkkeejhfofcaaa
