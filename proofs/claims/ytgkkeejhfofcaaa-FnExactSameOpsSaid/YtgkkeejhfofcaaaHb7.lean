/- Texts of one claim laid into one file, in build order: AllS, SidO, Mem9. -/
import Derived.Test.YtgkkeejhfofcaaaHb1
import Derived.Test.YtgkkeejhfofcaaaHb2
import Derived.Test.YtgkkeejhfofcaaaHb3
import Derived.Test.YtgkkeejhfofcaaaHb4
import Derived.Test.YtgkkeejhfofcaaaHb5
import Derived.Test.YtgkkeejhfofcaaaHb6
import Derived.BigQuiet
import Derived.Deep.CutRange
import Derived.Deep.QuietTactic
import Derived.Deep.RegionHeld3
import Derived.Laws.ResultCell
import Derived.Maps.AppendAt
import Derived.Outline
import Derived.StillTailTactics
import Derived.Test.YtgkkeejhfofcaaaRows
/- Contracts (AllS). -/
namespace Go.Proofs.Ytgkkeejhfofcaaa
open Go.RowKit
set_option linter.unusedVariables false

theorem RowOff.inn {w : World} {B gt n : Nat} {ad : Addr} {zs : List Int} (h : IntIn w B (some ad) n zs) (hn : 0 < n) (hB : B ≤ gt) (hs : B ≤ w.heap.size) : RowOff w gt gt ad n zs := by
  obtain ⟨a, e, hl⟩ := h.2.1 hn
  injection e with e
  subst e
  exact ⟨h.1, by omega, by omega, by omega, fun k hk => h.here hk⟩
/-- what l8All holds ahead of its four rows -/
structure AlG (A A' : Option Addr) (n n' nm : Nat) (xs ys : Tr) (K0 K1 K2 : Option Addr) (c0 c1 c2 : Nat) (k : Co) (T : List Int) (w wq : World) : Prop where
  a : NdIn wq w.heap.size A n xs
  b : NdIn wq w.heap.size A' n' ys
  k : CoIn wq w.heap.size K0 K1 K2 6 6 36 k
  bl : Below w.heap.size w wq
  q : Box3 wq w.heap.size (.slice K0 6 c0) (.slice K1 6 c1) (.slice K2 36 c2)
  t : wq.ownsRow w.heap.size 3 1 (.slice (some ⟨w.heap.size + 1, 0, none⟩) nm nm) nm (ints T)
  lt : w.heap.size + 2 ≤ wq.heap.size
section
variable {A A' : Option Addr} {n n' nm : Nat} {xs ys : Tr} {K0 K1 K2 : Option Addr} {c0 c1 c2 : Nat} {k : Co} {T : List Int} {w wx wq : World}
theorem AlG.keep (h : AlG A A' n n' nm xs ys K0 K1 K2 c0 c1 c2 k T w wx) (hb : Below wx.heap.size wx wq) : AlG A A' n n' nm xs ys K0 K1 K2 c0 c1 c2 k T w wq := by
  have hl := h.lt
  have hb' := hb.mono (B' := w.heap.size) (by omega)
  exact ⟨h.a.below hb', h.b.below hb', h.k.below hb', h.bl.trans hb', h.q.below hb (by omega), own_below h.t hb, Nat.le_trans hl hb.size⟩
theorem AlG.alloc (h : AlG A A' n n' nm xs ys K0 K1 K2 c0 c1 c2 k T w wx) (o : Obj) : AlG A A' n n' nm xs ys K0 K1 K2 c0 c1 c2 k T w (wx.alloc o) := h.keep ((Below.refl _ _).alloc (Nat.le_refl _) _)
theorem AlG.drew (h : AlG A A' n n' nm xs ys K0 K1 K2 c0 c1 c2 k T w wx) : AlG A A' n n' nm xs ys K0 K1 K2 c0 c1 c2 k T w wx.drew := h.keep (Drawn.refl _).drew.toBelow
theorem AlG.set (h : AlG A A' n n' nm xs ys K0 K1 K2 c0 c1 c2 k T w wx) {g : Nat} (hg : w.heap.size + 2 ≤ g) (o : Nat) (v : Value) : AlG A A' n n' nm xs ys K0 K1 K2 c0 c1 c2 k T w (wx.setCell ⟨g, o, none⟩ v) := by
  have hb : Below (w.heap.size + 2) wx (wx.setCell ⟨g, o, none⟩ v) := (Below.refl _ _).setCell hg _
  have hb' := hb.mono (B' := w.heap.size) (by omega)
  exact ⟨h.a.below hb', h.b.below hb', h.k.below hb', h.bl.trans hb', h.q.below hb (by omega), h.t.kept (Kit.grown_set _ _ _ _) (.inr fun e => absurd (show w.heap.size + 1 = g by injection e) (by omega)), by simp; exact h.lt⟩
theorem AlG.r0 {k0 k1 k2 : Addr} (h : AlG A A' n n' nm xs ys (some k0) (some k1) (some k2) c0 c1 c2 k T w wx) : RowOff wx (w.heap.size + 1) (w.heap.size + 1) k0 6 k.d := RowOff.inn h.k.1 (by omega) (by omega) h.bl.size
theorem AlG.r1 {k0 k1 k2 : Addr} (h : AlG A A' n n' nm xs ys (some k0) (some k1) (some k2) c0 c1 c2 k T w wx) : RowOff wx (w.heap.size + 1) (w.heap.size + 1) k1 6 k.i := RowOff.inn h.k.2.1 (by omega) (by omega) h.bl.size
theorem AlG.r2 {k0 k1 k2 : Addr} (h : AlG A A' n n' nm xs ys (some k0) (some k1) (some k2) c0 c1 c2 k T w wx) : RowOff wx (w.heap.size + 1) (w.heap.size + 1) k2 36 k.r := RowOff.inn h.k.2.2 (by omega) (by omega) h.bl.size
theorem AlG.step {T' : List Int} (h : AlG A A' n n' nm xs ys K0 K1 K2 c0 c1 c2 k T w wx) (hc : ∀ p : Addr, p.block < wx.heap.size → p.block ≠ w.heap.size + 1 → wq.cell? p = wx.cell? p) (hb : Below w.heap.size wx wq) (ht : wq.ownsRow w.heap.size 3 1 (.slice (some ⟨w.heap.size + 1, 0, none⟩) nm nm) nm (ints T')) : AlG A A' n n' nm xs ys K0 K1 K2 c0 c1 c2 k T' w wq := by
  have hl := h.lt
  have hq : ∀ i, wq.cell? ⟨w.heap.size, i, none⟩ = wx.cell? ⟨w.heap.size, i, none⟩ := fun i => hc _ (by show w.heap.size < _; omega) (by show w.heap.size ≠ _; omega)
  exact ⟨h.a.below hb, h.b.below hb, h.k.below hb, h.bl.trans hb, ⟨(hq 0).trans h.q.1, (hq 1).trans h.q.2.1, (hq 2).trans h.q.2.2⟩, ht, Nat.le_trans hl hb.size⟩
end
/-- t, its four rows, and what stood ahead -/
structure AlR (A A' : Option Addr) (n n' nm : Nat) (xs ys : Tr) (k0 k1 k2 : Addr) (c0 c1 c2 : Nat) (k : Co) (T : List Int) (g ax ay la lb cx cy dx dy : Nat) (w wq : World) : Prop where
  al : AlG A A' n n' nm xs ys (some k0) (some k1) (some k2) c0 c1 c2 k T w wq
  gl : w.heap.size + 2 ≤ g
  gs : g < wq.heap.size
  t0 : wq.cell? ⟨g, 0, none⟩ = some (.slice (some ⟨ax, 0, none⟩) n cx)
  t1 : wq.cell? ⟨g, 1, none⟩ = some (.slice (some ⟨ay, 0, none⟩) n' cy)
  t2 : wq.cell? ⟨g, 2, none⟩ = some (.slice (some ⟨la, 0, none⟩) n dx)
  t3 : wq.cell? ⟨g, 3, none⟩ = some (.slice (some ⟨lb, 0, none⟩) n' dy)
  t4 : wq.cell? ⟨g, 4, none⟩ = some (.slice (some k0) 6 c0)
  t5 : wq.cell? ⟨g, 5, none⟩ = some (.slice (some k1) 6 c1)
  t6 : wq.cell? ⟨g, 6, none⟩ = some (.slice (some k2) 36 c2)
  rx : RowOff wq (w.heap.size + 1) (w.heap.size + 1) ⟨ax, 0, none⟩ n (Tr.lab xs)
  ry : RowOff wq (w.heap.size + 1) (w.heap.size + 1) ⟨ay, 0, none⟩ n' (Tr.lab ys)
  ra : RowOff wq (w.heap.size + 1) (w.heap.size + 1) ⟨la, 0, none⟩ n (Zs.up (Tr.lfs xs))
  rb : RowOff wq (w.heap.size + 1) (w.heap.size + 1) ⟨lb, 0, none⟩ n' (Zs.up (Tr.lfs ys))
/-- a row made in w1 as it stands in wq -/
theorem RowOff.seen {w1 wq : World} {base g n c gt : Nat} {zs : List Int} (h : w1.ownsRow base 3 1 (.slice (some ⟨g, 0, none⟩) n c) n (ints zs)) (hc : ∀ o, wq.cell? ⟨g, o, none⟩ = w1.cell? ⟨g, o, none⟩) (hl : g < wq.heap.size) (hn : g ≠ gt) : RowOff wq gt gt ⟨g, 0, none⟩ n zs := by
  have hlen : zs.length = n := by have := h.1; rw [ints_length] at this; omega
  refine ⟨hlen, hl, hn, hn, fun k hk => ?_⟩
  have := h.cells rfl k _ (ints_at zs k (by omega))
  have e : (⟨g, 0, none⟩ : Addr).add k = ⟨g, k, none⟩ := by unfold Addr.add; split <;> simp_all
  rw [e] at this ⊢
  rw [hc k]
  exact this
section
variable {A A' : Option Addr} {n n' nm : Nat} {xs ys : Tr} {k0 k1 k2 : Addr} {c0 c1 c2 : Nat} {k : Co} {T T' : List Int} {g ax ay la lb cx cy dx dy : Nat} {w wx wq : World}
theorem AlR.keep (h : AlR A A' n n' nm xs ys k0 k1 k2 c0 c1 c2 k T g ax ay la lb cx cy dx dy w wx) (hb : Below wx.heap.size wx wq) : AlR A A' n n' nm xs ys k0 k1 k2 c0 c1 c2 k T g ax ay la lb cx cy dx dy w wq := by
  have c : ∀ i, wq.cell? ⟨g, i, none⟩ = wx.cell? ⟨g, i, none⟩ := fun i => hb.cell (p := ⟨g, i, none⟩) h.gs
  have r {ad : Addr} {m : Nat} {zs : List Int} (q : RowOff wx (w.heap.size + 1) (w.heap.size + 1) ad m zs) := q.keep hb.size (fun p hp _ _ => hb.cell hp)
  exact ⟨h.al.keep hb, h.gl, Nat.lt_of_lt_of_le h.gs hb.size, (c 0).trans h.t0, (c 1).trans h.t1, (c 2).trans h.t2, (c 3).trans h.t3, (c 4).trans h.t4, (c 5).trans h.t5, (c 6).trans h.t6, r h.rx, r h.ry, r h.ra, r h.rb⟩
theorem AlR.step (h : AlR A A' n n' nm xs ys k0 k1 k2 c0 c1 c2 k T g ax ay la lb cx cy dx dy w wx) (hc : ∀ p : Addr, p.block < wx.heap.size → p.block ≠ w.heap.size + 1 → wq.cell? p = wx.cell? p) (hb : Below w.heap.size wx wq) (ht : wq.ownsRow w.heap.size 3 1 (.slice (some ⟨w.heap.size + 1, 0, none⟩) nm nm) nm (ints T')) : AlR A A' n n' nm xs ys k0 k1 k2 c0 c1 c2 k T' g ax ay la lb cx cy dx dy w wq := by
  have gl := h.gl
  have c : ∀ i, wq.cell? ⟨g, i, none⟩ = wx.cell? ⟨g, i, none⟩ := fun i => hc ⟨g, i, none⟩ h.gs (by show g ≠ _; omega)
  have r {ad : Addr} {m : Nat} {zs : List Int} (q : RowOff wx (w.heap.size + 1) (w.heap.size + 1) ad m zs) := q.keep hb.size (fun p hp h1 _ => hc p hp h1)
  exact ⟨h.al.step hc hb ht, h.gl, Nat.lt_of_lt_of_le h.gs hb.size, (c 0).trans h.t0, (c 1).trans h.t1, (c 2).trans h.t2, (c 3).trans h.t3, (c 4).trans h.t4, (c 5).trans h.t5, (c 6).trans h.t6, r h.rx, r h.ry, r h.ra, r h.rb⟩
end
/-- the last table of forests, that of the roots -/
def AllLast (xs ys : Tr) (k : Co) (base : Nat) (lv : Value) (wq : World) : Prop :=
  ∃ (hf : Nat) (f : List Int), lv = .slice (some ⟨hf, 0, none⟩) ((xs.length + 1) * (ys.length + 1)) ((xs.length + 1) * (ys.length + 1)) ∧ wq.ownsRow base 3 1 (.slice (some ⟨hf, 0, none⟩) ((xs.length + 1) * (ys.length + 1)) ((xs.length + 1) * (ys.length + 1))) ((xs.length + 1) * (ys.length + 1)) (ints f) ∧
    ∀ a b, a ≤ xs.length → b ≤ ys.length → Zs.at f (a * (ys.length + 1) + b) = RR xs ys k 0 a 0 b
theorem AllLast.of {xs ys : Tr} {k : Co} {base kk ll ki kj hf nf y : Nat} {f T0 T : List Int} {wq : World} (hx : Tr.ok xs = true) (hy : Tr.ok ys = true) (hk : kk + 1 = (Tr.krs xs).length) (hl : ll + 1 = (Tr.krs ys).length) (hi : ki = Tr.kr xs kk) (hj : kj = Tr.kr ys ll)
    (hF : Fill xs ys k ki kj (ki + 1) y (fun a b => Zs.at f (ix (Tr.la xs ki) (Tr.la ys kj) (kj - Tr.la ys kj + 2) a b)) T0 T) (hnf : nf = (ki - Tr.la xs ki + 2) * (kj - Tr.la ys kj + 2))
    (ho : wq.ownsRow base 3 1 (.slice (some ⟨hf, 0, none⟩) nf nf) nf (ints f)) : AllLast xs ys k base (.slice (some ⟨hf, 0, none⟩) nf nf) wq := by
  have n1 := (Tr.len24 hx).1
  have n2 := (Tr.len24 hy).1
  rw [hi, hj] at hF
  have h := fill_last hx hy hk hl hF
  have e1 := Tr.kr_end hx hk
  have e2 := Tr.kr_end hy hl
  rw [hi, hj, e1, e2, Tr.la_last hx, Tr.la_last hy, show xs.length - 1 - 0 + 2 = xs.length + 1 by omega, show ys.length - 1 - 0 + 2 = ys.length + 1 by omega] at hnf
  rw [e1, e2, Tr.la_last hx, Tr.la_last hy, show ys.length - 1 - 0 + 2 = ys.length + 1 by omega] at h
  subst hnf
  exact ⟨hf, f, rfl, ho, fun a b ha hb => by have := h a b ha hb; exact this⟩
end Go.Proofs.Ytgkkeejhfofcaaa

/- Contracts (SidO). -/
namespace Go.Proofs.Ytgkkeejhfofcaaa
open Go.RowKit
set_option linter.unusedVariables false

/-- trees and costs are valid -/
def DOk (xs ys : Tr) (k : Co) : Bool := Tr.ok xs && Tr.ok ys && Co.ok k
theorem DOk.parts {xs ys : Tr} {k : Co} (h : DOk xs ys k = true) : Tr.ok xs = true ∧ Tr.ok ys = true ∧ Co.ok k = true := by
  simp only [DOk, Bool.and_eq_true] at h
  exact ⟨h.1.1, h.1.2, h.2⟩
/-- the result's variable of nine cells, the costs' box and the arguments, while sidesOf goes on -/
structure SoG (A A' : Option Addr) (n n' : Nat) (xs ys : Tr) (K0 K1 K2 : Option Addr) (n0 n1 n2 c0 c1 c2 : Nat) (k : Co) (w wq : World) : Prop where
  a : NdIn wq w.heap.size A n xs
  b : NdIn wq w.heap.size A' n' ys
  k : CoIn wq w.heap.size K0 K1 K2 n0 n1 n2 k
  bl : Below w.heap.size w wq
  q : Box3 wq w.heap.size (.slice K0 n0 c0) (.slice K1 n1 c1) (.slice K2 n2 c2)
  cs : ∀ o, o < 9 → ∃ z, wq.cell? ⟨w.heap.size + 1, o, none⟩ = some z
  fz : ∀ o, wq.frozen? ⟨w.heap.size + 1, o, none⟩ = false
  lt : w.heap.size + 1 < wq.heap.size
section
variable {A A' : Option Addr} {n n' : Nat} {xs ys : Tr} {K0 K1 K2 : Option Addr} {n0 n1 n2 c0 c1 c2 : Nat} {k : Co} {w wx wq : World}
theorem SoG.keep (h : SoG A A' n n' xs ys K0 K1 K2 n0 n1 n2 c0 c1 c2 k w wx) (hb : Below wx.heap.size wx wq) : SoG A A' n n' xs ys K0 K1 K2 n0 n1 n2 c0 c1 c2 k w wq := by
  have hs := h.bl.size
  have hl := h.lt
  have hb' := hb.mono (B' := w.heap.size) (by omega)
  exact ⟨h.a.below hb', h.b.below hb', h.k.below hb', h.bl.trans hb', h.q.below hb (by omega), fun o ho => by obtain ⟨z, hz⟩ := h.cs o ho; exact ⟨z, (hb.cell (p := ⟨w.heap.size + 1, o, none⟩) hl).trans hz⟩, free_below hb hl h.fz, Nat.lt_of_lt_of_le hl hb.size⟩
theorem SoG.set (h : SoG A A' n n' xs ys K0 K1 K2 n0 n1 n2 c0 c1 c2 k w wx) (o : Nat) (v : Value) : SoG A A' n n' xs ys K0 K1 K2 n0 n1 n2 c0 c1 c2 k w (wx.setCell ⟨w.heap.size + 1, o, none⟩ v) := by
  have hb : Below w.heap.size wx (wx.setCell ⟨w.heap.size + 1, o, none⟩ v) := (Below.refl _ _).setCell (by show w.heap.size ≤ w.heap.size + 1; omega) _
  have hq : ∀ i, (wx.setCell ⟨w.heap.size + 1, o, none⟩ v).cell? ⟨w.heap.size, i, none⟩ = wx.cell? ⟨w.heap.size, i, none⟩ := fun i => World.cell?_setCell_other _ _ _ _ (fun e => by injection e with e1 _; omega)
  refine ⟨h.a.below hb, h.b.below hb, h.k.below hb, h.bl.setCell (by show w.heap.size ≤ w.heap.size + 1; omega) _, ⟨(hq 0).trans h.q.1, (hq 1).trans h.q.2.1, (hq 2).trans h.q.2.2⟩, fun i hi => ?_, fun i => by rw [World.frozen?_setCell]; exact h.fz i, by simp; exact h.lt⟩
  obtain ⟨z, hz⟩ := h.cs i hi
  by_cases e : i = o
  · rw [e] at hz ⊢
    exact ⟨v, World.cell?_setCell_same' _ _ _ (by rw [hz]; rfl)⟩
  · exact ⟨z, by rw [World.cell?_setCell_other _ _ _ _ (fun e' => e (by injection e' with _ e2; exact e2.symm)), hz]⟩
theorem SoG.made (ha : NdIn w w.heap.size A n xs) (hb : NdIn w w.heap.size A' n' ys) (hk : CoIn w w.heap.size K0 K1 K2 n0 n1 n2 k) : SoG A A' n n' xs ys K0 K1 K2 n0 n1 n2 c0 c1 c2 k w ((w.alloc (.cells #[.slice K0 n0 c0, .slice K1 n1 c1, .slice K2 n2 c2] 31)).alloc (.cells #[.slice none 0 0, .slice none 0 0, .slice none 0 0, .slice none 0 0, .slice none 0 0, .slice none 0 0, .slice none 0 0, .slice none 0 0, .slice none 0 0] 89)) := by
  obtain ⟨wc, hwc⟩ : ∃ wc, wc = w.alloc (.cells #[.slice K0 n0 c0, .slice K1 n1 c1, .slice K2 n2 c2] 31) := ⟨_, rfl⟩
  have hbc : Below w.heap.size w wc := by rw [hwc]; exact (Below.refl _ _).alloc (Nat.le_refl _) _
  have hzc : wc.heap.size = w.heap.size + 1 := by rw [hwc]; simp
  have q : Box3 wc w.heap.size (.slice K0 n0 c0) (.slice K1 n1 c1) (.slice K2 n2 c2) := by rw [hwc]; exact Box3.made _ _ _ _ _
  rw [← hwc]
  have h2 : Below w.heap.size w (wc.alloc (.cells #[.slice none 0 0, .slice none 0 0, .slice none 0 0, .slice none 0 0, .slice none 0 0, .slice none 0 0, .slice none 0 0, .slice none 0 0, .slice none 0 0] 89)) := hbc.alloc (by omega) _
  refine ⟨ha.below h2, hb.below h2, hk.below h2, h2, q.alloc (by omega) _, fun o ho => ⟨.slice none 0 0, ?_⟩, fun o => by rw [← hzc]; simp, by simp; omega⟩
  rw [← hzc]
  refine cell_made _ _ _ _ _ ?_
  rcases o with _ | _ | _ | _ | _ | _ | _ | _ | _ | o <;> first | rfl | omega
end
end Go.Proofs.Ytgkkeejhfofcaaa

/- What is known of forests: the model's memo of chapter 9. -/
namespace Go.Proofs.Ytgkkeejhfofcaaa
open Go.RowKit
set_option linter.unusedVariables false

/-- where what is known of a range of both trees stands -/
def ix9 (n m i j p q : Nat) : Nat := ((i * (n + 1) + j) * (m + 1) + p) * (m + 1) + q
theorem ix9_lt {n m i j p q : Nat} (hi : i ≤ n) (hj : j ≤ n) (hp : p ≤ m) (hq : q ≤ m) : ix9 n m i j p q < (n + 1) * (n + 1) * (m + 1) * (m + 1) := by
  unfold ix9
  exact idx_lt (idx_lt (idx_lt (by omega) (by omega)) (by omega)) (by omega)
theorem ix9_inj {n m i j p q i' j' p' q' : Nat} (hj : j ≤ n) (hp : p ≤ m) (hq : q ≤ m) (hj' : j' ≤ n) (hp' : p' ≤ m) (hq' : q' ≤ m) (h : ix9 n m i j p q = ix9 n m i' j' p' q') : i = i' ∧ j = j' ∧ p = p' ∧ q = q' := by
  unfold ix9 at h
  obtain ⟨h1, h2⟩ := idx_inj (by omega) (by omega) h
  obtain ⟨h3, h4⟩ := idx_inj (by omega) (by omega) h1
  obtain ⟨h5, h6⟩ := idx_inj (by omega) (by omega) h3
  exact ⟨h5, h6, h4, h2⟩
/-- the rows that are read, and their caps -/
structure D9 where
  g : Nat
  gk : Nat
  ax : Addr
  ay : Addr
  la : Addr
  lb : Addr
  k0 : Addr
  k1 : Addr
  k2 : Addr
  cx : Nat
  cy : Nat
  dx : Nat
  dy : Nat
  e0 : Nat
  e1 : Nat
  e2 : Nat
structure M9 (B N : Nat) (D : D9) (xs ys : Tr) (k : Co) (K : List Int) (w : World) : Prop where
  gB : B ≤ D.g
  gl : D.g < w.heap.size
  gg : D.gk ≠ D.g
  hN : N = (xs.length + 1) * (xs.length + 1) * (ys.length + 1) * (ys.length + 1)
  h0 : w.cell? ⟨D.g, 0, none⟩ = some (.slice (some D.ax) xs.length D.cx)
  h1 : w.cell? ⟨D.g, 1, none⟩ = some (.slice (some D.ay) ys.length D.cy)
  h2 : w.cell? ⟨D.g, 2, none⟩ = some (.slice (some D.la) xs.length D.dx)
  h3 : w.cell? ⟨D.g, 3, none⟩ = some (.slice (some D.lb) ys.length D.dy)
  h4 : w.cell? ⟨D.g, 4, none⟩ = some (.slice (some ⟨D.gk, 0, none⟩) N N)
  h5 : w.cell? ⟨D.g, 5, none⟩ = some (.slice (some D.k0) 6 D.e0)
  h6 : w.cell? ⟨D.g, 6, none⟩ = some (.slice (some D.k1) 6 D.e1)
  h7 : w.cell? ⟨D.g, 7, none⟩ = some (.slice (some D.k2) 36 D.e2)
  row : w.ownsRow B 3 1 (.slice (some ⟨D.gk, 0, none⟩) N N) N (ints K)
  kn : ∀ i j p q, i ≤ j → j ≤ xs.length → p ≤ q → q ≤ ys.length → Zs.at K (ix9 xs.length ys.length i j p q) = 0 ∨ Zs.at K (ix9 xs.length ys.length i j p q) = RR xs ys k i j p q + 1
  rx : RowOff w D.g D.gk D.ax xs.length (Tr.lab xs)
  ry : RowOff w D.g D.gk D.ay ys.length (Tr.lab ys)
  ra : RowOff w D.g D.gk D.la xs.length (Zs.up (Tr.lfs xs))
  rb : RowOff w D.g D.gk D.lb ys.length (Zs.up (Tr.lfs ys))
  r0 : RowOff w D.g D.gk D.k0 6 k.d
  r1 : RowOff w D.g D.gk D.k1 6 k.i
  r2 : RowOff w D.g D.gk D.k2 36 k.r
section
variable {B N : Nat} {D : D9} {xs ys : Tr} {k : Co} {K : List Int} {w w' : World}
theorem M9.klen (h : M9 B N D xs ys k K w) : K.length = N := by have := h.row.1; rw [ints_length] at this; omega
theorem M9.drawn (h : M9 B N D xs ys k K w) (hd : Drawn w w') : M9 B N D xs ys k K w' := by
  have hc : ∀ p, w'.cell? p = w.cell? p := fun p => hd.cell p
  have hs : w.heap.size ≤ w'.heap.size := by obtain ⟨m, rfl⟩ := hd; exact Nat.le_refl _
  have r {ad : Addr} {n : Nat} {zs : List Int} (q : RowOff w D.g D.gk ad n zs) : RowOff w' D.g D.gk ad n zs := q.keep hs (fun p _ _ _ => hc p)
  exact ⟨h.gB, Nat.lt_of_lt_of_le h.gl hs, h.gg, h.hN, (hc _).trans h.h0, (hc _).trans h.h1, (hc _).trans h.h2, (hc _).trans h.h3, (hc _).trans h.h4, (hc _).trans h.h5, (hc _).trans h.h6, (hc _).trans h.h7, own_drawn h.row hd, h.kn, r h.rx, r h.ry, r h.ra, r h.rb, r h.r0, r h.r1, r h.r2⟩
theorem M9.set (h : M9 B N D xs ys k K w) {i j p q : Nat} (hij : i ≤ j) (hj : j ≤ xs.length) (hpq : p ≤ q) (hq : q ≤ ys.length) : M9 B N D xs ys k (K.set (ix9 xs.length ys.length i j p q) (RR xs ys k i j p q + 1)) (w.setCell ⟨D.gk, ix9 xs.length ys.length i j p q, none⟩ (.int .i64 (RR xs ys k i j p q + 1))) := by
  have hlt : ix9 xs.length ys.length i j p q < K.length := by rw [h.klen, h.hN]; exact ix9_lt (by omega) hj (by omega) hq
  have hl : ∀ o, (w.setCell ⟨D.gk, ix9 xs.length ys.length i j p q, none⟩ (.int .i64 (RR xs ys k i j p q + 1))).cell? ⟨D.g, o, none⟩ = w.cell? ⟨D.g, o, none⟩ := fun o => World.cell?_setCell_other _ _ _ _ (fun e => by injection e with e1 e2; exact h.gg e1)
  have ho : ∀ z : Addr, z.block < w.heap.size → z.block ≠ D.g → z.block ≠ D.gk → (w.setCell ⟨D.gk, ix9 xs.length ys.length i j p q, none⟩ (.int .i64 (RR xs ys k i j p q + 1))).cell? z = w.cell? z := fun z _ _ hz => World.cell?_setCell_other _ _ _ _ (fun e => hz (by rw [← e]))
  have hsz : (w.setCell ⟨D.gk, ix9 xs.length ys.length i j p q, none⟩ (.int .i64 (RR xs ys k i j p q + 1))).heap.size = w.heap.size := by simp
  have r {ad : Addr} {n : Nat} {zs : List Int} (q : RowOff w D.g D.gk ad n zs) := q.keep (Nat.le_of_eq hsz.symm) ho
  exact ⟨h.gB, by rw [hsz]; exact h.gl, h.gg, h.hN, (hl _).trans h.h0, (hl _).trans h.h1, (hl _).trans h.h2, (hl _).trans h.h3, (hl _).trans h.h4, (hl _).trans h.h5, (hl _).trans h.h6, (hl _).trans h.h7,
    by have := (h.row.stored (ix9 xs.length ys.length i j p q) (.int .i64 (RR xs ys k i j p q + 1))).1; rw [ints_set] at this; exact this,
    fun i' j' p' q' a1 a2 a3 a4 => by
      rw [Zs.at_set hlt]
      by_cases e : ix9 xs.length ys.length i' j' p' q' = ix9 xs.length ys.length i j p q
      · rw [if_pos e]
        obtain ⟨rfl, rfl, rfl, rfl⟩ := ix9_inj (by omega) (by omega) a4 (by omega) (by omega) hq e
        exact .inr rfl
      · rw [if_neg e]; exact h.kn i' j' p' q' a1 a2 a3 a4,
    r h.rx, r h.ry, r h.ra, r h.rb, r h.r0, r h.r1, r h.r2⟩
/-- below B nothing has turned, and above it nothing but block gk -/
structure GB (B gk : Nat) (w0 w : World) : Prop where
  bl : Below B w0 w
  gr : w0.grownBy w (some gk)
theorem GB.refl (B gk : Nat) (w : World) : GB B gk w w := ⟨Below.refl _ _, World.grownBy.refl _ _⟩
theorem GB.trans {B gk : Nat} {a b c : World} (h : GB B gk a b) (h' : GB B gk b c) : GB B gk a c := ⟨h.bl.trans h'.bl, h.gr.trans h'.gr⟩
theorem GB.mono {B B' gk : Nat} {a b : World} (h : GB B gk a b) (hb : B' ≤ B) : Below B' a b := h.bl.mono hb
theorem GB.of_drawn {B gk : Nat} {a b : World} (hd : Drawn a b) : GB B gk a b := ⟨hd.toBelow, ⟨(hd.toBelow (B := 0)).os, (hd.toBelow (B := 0)).tape, (hd.toBelow (B := 0)).output, (hd.toBelow (B := 0)).size, fun i _ _ => (hd.toBelow (B := i + 1)).block i (Nat.lt_succ_self i)⟩⟩
theorem GB.drawn {B gk : Nat} {a b c : World} (h : GB B gk a b) (hd : Drawn b c) : GB B gk a c := h.trans (GB.of_drawn hd)
theorem GB.setCell {B gk : Nat} {a b : World} (h : GB B gk a b) (hB : B ≤ gk) (o : Nat) (v : Value) : GB B gk a (b.setCell ⟨gk, o, none⟩ v) :=
  ⟨h.bl.setCell hB _, h.gr.trans ⟨rfl, rfl, rfl, by simp [World.setCell], fun k _ hne => Below.heap_setCell _ _ _ _ (fun e => hne (by rw [e]))⟩⟩
/-- the memo holds some knowledge; below B nothing has turned -/
def K9 (B N : Nat) (D : D9) (xs ys : Tr) (k : Co) (w0 w : World) : Prop := (∃ K, M9 B N D xs ys k K w) ∧ GB B D.gk w0 w
end

end Go.Proofs.Ytgkkeejhfofcaaa
