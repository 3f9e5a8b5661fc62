/- Texts of one claim laid into one file, in build order: SidO. -/
import Derived.Test.YtgkkeejhfofcaaaHd18
import Derived.Test.YtgkkeejhfofcaaaHd19
import Derived.Test.YtgkkeejhfofcaaaHd8
import Derived.Deep.RegionHeld3
import Derived.Laws.ResultCell
import Derived.Outline
/- Contracts (SidO). -/
namespace Go.Proofs.Ytgkkeejhfofcaaa
open Go.RowKit
set_option linter.unusedVariables false

/-- trees and costs are valid -/
def DOk (xs ys : Tr) (k : Co) : Bool := Tr.ok xs && Tr.ok ys && Co.ok k
theorem DOk.parts {xs ys : Tr} {k : Co} (h : DOk xs ys k = true) : Tr.ok xs = true ∧ Tr.ok ys = true ∧ Co.ok k = true := by
  simp only [DOk, Bool.and_eq_true] at h
  exact ⟨h.1.1, h.1.2, h.2⟩
/-- what sidesOf returns of valid trees and costs -/
def SidesAt (xs ys : Tr) (K0 K1 K2 : Option Addr) (n0 n1 n2 c0 c1 c2 : Nat) (w : World) (e : Ending) (w' : World) : Prop :=
  ∃ ga0 ga1 ga2 gb0 gb1 gb2 ca0 ca1 ca2 cb0 cb1 cb2 : Nat, e = .returned (.tuple #[.agg #[.slice (some ⟨ga0, 0, none⟩) xs.length ca0, .slice (some ⟨ga1, 0, none⟩) xs.length ca1, .slice (some ⟨ga2, 0, none⟩) (Tr.krs xs).length ca2, .slice (some ⟨gb0, 0, none⟩) ys.length cb0, .slice (some ⟨gb1, 0, none⟩) ys.length cb1, .slice (some ⟨gb2, 0, none⟩) (Tr.krs ys).length cb2, .slice K0 n0 c0, .slice K1 n1 c1, .slice K2 n2 c2], .bool true]) ∧
    w'.ownsRow w.heap.size 3 1 (.slice (some ⟨ga0, 0, none⟩) xs.length ca0) xs.length (ints (Tr.lab xs)) ∧ w'.ownsRow w.heap.size 3 1 (.slice (some ⟨ga1, 0, none⟩) xs.length ca1) xs.length (ints (Zs.up (Tr.lfs xs))) ∧ w'.ownsRow w.heap.size 3 1 (.slice (some ⟨ga2, 0, none⟩) (Tr.krs xs).length ca2) (Tr.krs xs).length (ints (Zs.up (Tr.krs xs))) ∧
    w'.ownsRow w.heap.size 3 1 (.slice (some ⟨gb0, 0, none⟩) ys.length cb0) ys.length (ints (Tr.lab ys)) ∧ w'.ownsRow w.heap.size 3 1 (.slice (some ⟨gb1, 0, none⟩) ys.length cb1) ys.length (ints (Zs.up (Tr.lfs ys))) ∧ w'.ownsRow w.heap.size 3 1 (.slice (some ⟨gb2, 0, none⟩) (Tr.krs ys).length cb2) (Tr.krs ys).length (ints (Zs.up (Tr.krs ys))) ∧ Below w.heap.size w w'

/-- the result's variable of nine cells, the costs' box and the arguments, while sidesOf goes on -/
structure SoG (A A' : Option Addr) (n n' : Nat) (xs ys : Tr) (K0 K1 K2 : Option Addr) (n0 n1 n2 c0 c1 c2 : Nat) (k : Co) (w wq : World) : Prop where
  a : NdIn wq w.heap.size A n xs
  b : NdIn wq w.heap.size A' n' ys
  k : CoIn wq w.heap.size K0 K1 K2 n0 n1 n2 k
  bl : Below w.heap.size w wq
  q : Box3 wq w.heap.size (.slice K0 n0 c0) (.slice K1 n1 c1) (.slice K2 n2 c2)
  cs : ∀ o, o < 9 → ∃ z, wq.cell? ⟨w.heap.size + 1, o, none⟩ = some z
  fz : ∀ o, wq.frozen? ⟨w.heap.size + 1, o, none⟩ = false
  lt : w.heap.size + 1 < wq.heap.size
section
variable {A A' : Option Addr} {n n' : Nat} {xs ys : Tr} {K0 K1 K2 : Option Addr} {n0 n1 n2 c0 c1 c2 : Nat} {k : Co} {w wx wq : World}
theorem SoG.keep (h : SoG A A' n n' xs ys K0 K1 K2 n0 n1 n2 c0 c1 c2 k w wx) (hb : Below wx.heap.size wx wq) : SoG A A' n n' xs ys K0 K1 K2 n0 n1 n2 c0 c1 c2 k w wq := by
  have hs := h.bl.size
  have hl := h.lt
  have hb' := hb.mono (B' := w.heap.size) (by omega)
  exact ⟨h.a.below hb', h.b.below hb', h.k.below hb', h.bl.trans hb', h.q.below hb (by omega), fun o ho => by obtain ⟨z, hz⟩ := h.cs o ho; exact ⟨z, (hb.cell (p := ⟨w.heap.size + 1, o, none⟩) hl).trans hz⟩, free_below hb hl h.fz, Nat.lt_of_lt_of_le hl hb.size⟩
theorem SoG.set (h : SoG A A' n n' xs ys K0 K1 K2 n0 n1 n2 c0 c1 c2 k w wx) (o : Nat) (v : Value) : SoG A A' n n' xs ys K0 K1 K2 n0 n1 n2 c0 c1 c2 k w (wx.setCell ⟨w.heap.size + 1, o, none⟩ v) := by
  have hb : Below w.heap.size wx (wx.setCell ⟨w.heap.size + 1, o, none⟩ v) := (Below.refl _ _).setCell (by show w.heap.size ≤ w.heap.size + 1; omega) _
  have hq : ∀ i, (wx.setCell ⟨w.heap.size + 1, o, none⟩ v).cell? ⟨w.heap.size, i, none⟩ = wx.cell? ⟨w.heap.size, i, none⟩ := fun i => World.cell?_setCell_other _ _ _ _ (fun e => by injection e with e1 _; omega)
  refine ⟨h.a.below hb, h.b.below hb, h.k.below hb, h.bl.setCell (by show w.heap.size ≤ w.heap.size + 1; omega) _, ⟨(hq 0).trans h.q.1, (hq 1).trans h.q.2.1, (hq 2).trans h.q.2.2⟩, fun i hi => ?_, fun i => by rw [World.frozen?_setCell]; exact h.fz i, by simp; exact h.lt⟩
  obtain ⟨z, hz⟩ := h.cs i hi
  by_cases e : i = o
  · rw [e] at hz ⊢
    exact ⟨v, World.cell?_setCell_same' _ _ _ (by rw [hz]; rfl)⟩
  · exact ⟨z, by rw [World.cell?_setCell_other _ _ _ _ (fun e' => e (by injection e' with _ e2; exact e2.symm)), hz]⟩
theorem SoG.set9 (h : SoG A A' n n' xs ys K0 K1 K2 n0 n1 n2 c0 c1 c2 k w wx) (v0 v1 v2 v3 v4 v5 v6 v7 v8 : Value) : SoG A A' n n' xs ys K0 K1 K2 n0 n1 n2 c0 c1 c2 k w (((((((((wx.setCell ⟨w.heap.size + 1, 0, none⟩ v0).setCell ⟨w.heap.size + 1, 1, none⟩ v1).setCell ⟨w.heap.size + 1, 2, none⟩ v2).setCell ⟨w.heap.size + 1, 3, none⟩ v3).setCell ⟨w.heap.size + 1, 4, none⟩ v4).setCell ⟨w.heap.size + 1, 5, none⟩ v5).setCell ⟨w.heap.size + 1, 6, none⟩ v6).setCell ⟨w.heap.size + 1, 7, none⟩ v7).setCell ⟨w.heap.size + 1, 8, none⟩ v8) := ((((((((h.set 0 v0).set 1 v1).set 2 v2).set 3 v3).set 4 v4).set 5 v5).set 6 v6).set 7 v7).set 8 v8
theorem row_set {base e g : Nat} {v : Value} {ys : List Value} {m : Nat} (h : wx.ownsRow base e 1 v m ys) (hg : g < base) (o : Nat) (u : Value) : (wx.setCell ⟨g, o, none⟩ u).ownsRow base e 1 v m ys :=
  own_grown h (Kit.grown_set _ _ _ _) (fun b hb => by injection hb with hb; omega)
theorem row_set9 {base e g B : Nat} {v : Value} {ys : List Value} {m : Nat} (h : wx.ownsRow base e 1 v m ys) (hg : g < base) (hB : B ≤ base) (v0 v1 v2 v3 v4 v5 v6 v7 v8 : Value) : (((((((((wx.setCell ⟨g, 0, none⟩ v0).setCell ⟨g, 1, none⟩ v1).setCell ⟨g, 2, none⟩ v2).setCell ⟨g, 3, none⟩ v3).setCell ⟨g, 4, none⟩ v4).setCell ⟨g, 5, none⟩ v5).setCell ⟨g, 6, none⟩ v6).setCell ⟨g, 7, none⟩ v7).setCell ⟨g, 8, none⟩ v8).ownsRow B e 1 v m ys :=
  own_base (row_set (row_set (row_set (row_set (row_set (row_set (row_set (row_set (row_set h hg 0 v0) hg 1 v1) hg 2 v2) hg 3 v3) hg 4 v4) hg 5 v5) hg 6 v6) hg 7 v7) hg 8 v8) hB
theorem SoG.made (ha : NdIn w w.heap.size A n xs) (hb : NdIn w w.heap.size A' n' ys) (hk : CoIn w w.heap.size K0 K1 K2 n0 n1 n2 k) : SoG A A' n n' xs ys K0 K1 K2 n0 n1 n2 c0 c1 c2 k w ((w.alloc (.cells #[.slice K0 n0 c0, .slice K1 n1 c1, .slice K2 n2 c2] 31)).alloc (.cells #[.slice none 0 0, .slice none 0 0, .slice none 0 0, .slice none 0 0, .slice none 0 0, .slice none 0 0, .slice none 0 0, .slice none 0 0, .slice none 0 0] 89)) := by
  obtain ⟨wc, hwc⟩ : ∃ wc, wc = w.alloc (.cells #[.slice K0 n0 c0, .slice K1 n1 c1, .slice K2 n2 c2] 31) := ⟨_, rfl⟩
  have hbc : Below w.heap.size w wc := by rw [hwc]; exact (Below.refl _ _).alloc (Nat.le_refl _) _
  have hzc : wc.heap.size = w.heap.size + 1 := by rw [hwc]; simp
  have q : Box3 wc w.heap.size (.slice K0 n0 c0) (.slice K1 n1 c1) (.slice K2 n2 c2) := by rw [hwc]; exact Box3.made _ _ _ _ _
  rw [← hwc]
  have h2 : Below w.heap.size w (wc.alloc (.cells #[.slice none 0 0, .slice none 0 0, .slice none 0 0, .slice none 0 0, .slice none 0 0, .slice none 0 0, .slice none 0 0, .slice none 0 0, .slice none 0 0] 89)) := hbc.alloc (by omega) _
  refine ⟨ha.below h2, hb.below h2, hk.below h2, h2, q.alloc (by omega) _, fun o ho => ⟨.slice none 0 0, ?_⟩, fun o => by rw [← hzc]; simp, by simp; omega⟩
  rw [← hzc]
  refine cell_made _ _ _ _ _ ?_
  rcases o with _ | _ | _ | _ | _ | _ | _ | _ | _ | o <;> first | rfl | omega
end
set_option maxHeartbeats 3200000 in
set_option maxRecDepth 100000 in
theorem sidesOf_no (A A' : Option Addr) (n n' c c' : Nat) (xs ys : Tr) (K0 K1 K2 : Option Addr) (n0 n1 n2 c0 c1 c2 : Nat) (k : Co) (w : World) (ha : NdIn w w.heap.size A n xs) (hb : NdIn w w.heap.size A' n' ys) (hk : CoIn w w.heap.size K0 K1 K2 n0 n1 n2 k)
    (hn : n ≤ 1048576) (hn' : n' ≤ 1048576) (h0 : n0 ≤ 1048576) (h1 : n1 ≤ 1048576) (h2 : n2 ≤ 1048576) (hc : n ≤ c) (hc' : n' ≤ c') (hno : DOk xs ys k = false) :
    Calls Try.prog 115 #[.slice A n c, .slice A' n' c', .agg #[.slice K0 n0 c0, .slice K1 n1 c1, .slice K2 n2 c2]] w fun e w' => e = .returned (.tuple #[.agg #[.slice none 0 0, .slice none 0 0, .slice none 0 0, .slice none 0 0, .slice none 0 0, .slice none 0 0, .slice none 0 0, .slice none 0 0, .slice none 0 0], .bool false]) ∧ Below w.heap.size w w' := by
  have H0 := Lib.hid h0
  have H1 := Lib.hid h1
  have H2 := Lib.hid h2
  have hn1 := Lib.hid hn
  have hn2 := Lib.hid hn'
  have SG := Lib.hid (SoG.made (c0 := c0) (c1 := c1) (c2 := c2) ha hb hk)
  obtain ⟨wz, hwz⟩ : ∃ wz, wz = (w.alloc (.cells #[.slice K0 n0 c0, .slice K1 n1 c1, .slice K2 n2 c2] 31)).alloc (.cells #[.slice none 0 0, .slice none 0 0, .slice none 0 0, .slice none 0 0, .slice none 0 0, .slice none 0 0, .slice none 0 0, .slice none 0 0, .slice none 0 0] 89) := ⟨_, rfl⟩
  rw [← hwz] at SG
  clear ha hb hk
  unfold DOk at hno
  cases hx : Tr.ok xs with
  | false =>
    have HX := Lib.hid hx
    clear hx hno
    go_enter Try.func115, Try.ntmps115
    go_wp2_with fail
    rw [← hwz]
    refine (implTreeOk_any _ _ _ xs _ (SG.out.a.more SG.out.bl.size) hn1.out hc).mono ?_
    rintro e w1 ⟨rfl, b1⟩
    have SG := Lib.hid (SG.out.keep b1)
    clear b1
    rw [HX.out]
    obtain ⟨_, t0⟩ := SG.out.cs 0 (by omega)
    have u0 := SG.out.fz 0
    obtain ⟨_, t1⟩ := SG.out.cs 1 (by omega)
    have u1 := SG.out.fz 1
    obtain ⟨_, t2⟩ := SG.out.cs 2 (by omega)
    have u2 := SG.out.fz 2
    obtain ⟨_, t3⟩ := SG.out.cs 3 (by omega)
    have u3 := SG.out.fz 3
    obtain ⟨_, t4⟩ := SG.out.cs 4 (by omega)
    have u4 := SG.out.fz 4
    obtain ⟨_, t5⟩ := SG.out.cs 5 (by omega)
    have u5 := SG.out.fz 5
    obtain ⟨_, t6⟩ := SG.out.cs 6 (by omega)
    have u6 := SG.out.fz 6
    obtain ⟨_, t7⟩ := SG.out.cs 7 (by omega)
    have u7 := SG.out.fz 7
    obtain ⟨_, t8⟩ := SG.out.cs 8 (by omega)
    have u8 := SG.out.fz 8
    go_wp2
    refine bodyPost_ret (v := .tuple #[.agg #[.slice none 0 0, .slice none 0 0, .slice none 0 0, .slice none 0 0, .slice none 0 0, .slice none 0 0, .slice none 0 0, .slice none 0 0, .slice none 0 0], .bool false]) ?_ rfl ?_
    · rw [results_cell_tmp rfl]
      go_simp
    · exact ⟨rfl, (SG.out.set9 _ _ _ _ _ _ _ _ _).bl⟩
  | true =>
    cases hy : Tr.ok ys with
    | false =>
      have HX := Lib.hid hx
      have HY := Lib.hid hy
      clear hx hy hno
      go_enter Try.func115, Try.ntmps115
      go_wp2_with fail
      rw [← hwz]
      refine (implTreeOk_any _ _ _ xs _ (SG.out.a.more SG.out.bl.size) hn1.out hc).mono ?_
      rintro e w1 ⟨rfl, b1⟩
      have SG := Lib.hid (SG.out.keep b1)
      clear b1
      rw [HX.out]
      go_wp2_with fail
      refine (implTreeOk_any _ _ _ ys _ (SG.out.b.more SG.out.bl.size) hn2.out hc').mono ?_
      rintro e w2 ⟨rfl, b2⟩
      have SG := Lib.hid (SG.out.keep b2)
      clear b2
      rw [HY.out]
      obtain ⟨_, t0⟩ := SG.out.cs 0 (by omega)
      have u0 := SG.out.fz 0
      obtain ⟨_, t1⟩ := SG.out.cs 1 (by omega)
      have u1 := SG.out.fz 1
      obtain ⟨_, t2⟩ := SG.out.cs 2 (by omega)
      have u2 := SG.out.fz 2
      obtain ⟨_, t3⟩ := SG.out.cs 3 (by omega)
      have u3 := SG.out.fz 3
      obtain ⟨_, t4⟩ := SG.out.cs 4 (by omega)
      have u4 := SG.out.fz 4
      obtain ⟨_, t5⟩ := SG.out.cs 5 (by omega)
      have u5 := SG.out.fz 5
      obtain ⟨_, t6⟩ := SG.out.cs 6 (by omega)
      have u6 := SG.out.fz 6
      obtain ⟨_, t7⟩ := SG.out.cs 7 (by omega)
      have u7 := SG.out.fz 7
      obtain ⟨_, t8⟩ := SG.out.cs 8 (by omega)
      have u8 := SG.out.fz 8
      go_wp2
      refine bodyPost_ret (v := .tuple #[.agg #[.slice none 0 0, .slice none 0 0, .slice none 0 0, .slice none 0 0, .slice none 0 0, .slice none 0 0, .slice none 0 0, .slice none 0 0, .slice none 0 0], .bool false]) ?_ rfl ?_
      · rw [results_cell_tmp rfl]
        go_simp
      · exact ⟨rfl, (SG.out.set9 _ _ _ _ _ _ _ _ _).bl⟩
    | true =>
      rw [hx, hy] at hno
      have HX := Lib.hid hx
      have HY := Lib.hid hy
      have HO := Lib.hid (show Co.ok k = false by simpa using hno)
      clear hx hy hno
      go_enter Try.func115, Try.ntmps115
      go_wp2_with fail
      rw [← hwz]
      refine (implTreeOk_any _ _ _ xs _ (SG.out.a.more SG.out.bl.size) hn1.out hc).mono ?_
      rintro e w1 ⟨rfl, b1⟩
      have SG := Lib.hid (SG.out.keep b1)
      clear b1
      rw [HX.out]
      go_wp2_with fail
      refine (implTreeOk_any _ _ _ ys _ (SG.out.b.more SG.out.bl.size) hn2.out hc').mono ?_
      rintro e w2 ⟨rfl, b2⟩
      have SG := Lib.hid (SG.out.keep b2)
      clear b2
      rw [HY.out]
      obtain ⟨q0, q1, q2⟩ := SG.out.q
      go_wp2_with fail
      clear q0 q1 q2
      refine (implCostOk_any _ _ _ _ _ _ _ _ _ k _ (SG.out.k.more SG.out.bl.size) H0.out H1.out H2.out).mono ?_
      rintro e w3 ⟨rfl, b3⟩
      have SG := Lib.hid (SG.out.keep b3)
      clear b3
      rw [HO.out]
      obtain ⟨_, t0⟩ := SG.out.cs 0 (by omega)
      have u0 := SG.out.fz 0
      obtain ⟨_, t1⟩ := SG.out.cs 1 (by omega)
      have u1 := SG.out.fz 1
      obtain ⟨_, t2⟩ := SG.out.cs 2 (by omega)
      have u2 := SG.out.fz 2
      obtain ⟨_, t3⟩ := SG.out.cs 3 (by omega)
      have u3 := SG.out.fz 3
      obtain ⟨_, t4⟩ := SG.out.cs 4 (by omega)
      have u4 := SG.out.fz 4
      obtain ⟨_, t5⟩ := SG.out.cs 5 (by omega)
      have u5 := SG.out.fz 5
      obtain ⟨_, t6⟩ := SG.out.cs 6 (by omega)
      have u6 := SG.out.fz 6
      obtain ⟨_, t7⟩ := SG.out.cs 7 (by omega)
      have u7 := SG.out.fz 7
      obtain ⟨_, t8⟩ := SG.out.cs 8 (by omega)
      have u8 := SG.out.fz 8
      go_wp2
      refine bodyPost_ret (v := .tuple #[.agg #[.slice none 0 0, .slice none 0 0, .slice none 0 0, .slice none 0 0, .slice none 0 0, .slice none 0 0, .slice none 0 0, .slice none 0 0, .slice none 0 0], .bool false]) ?_ rfl ?_
      · rw [results_cell_tmp rfl]
        go_simp
      · exact ⟨rfl, (SG.out.set9 _ _ _ _ _ _ _ _ _).bl⟩
theorem so_in {A A' : Option Addr} {n n' : Nat} {xs ys : Tr} {K0 K1 K2 : Option Addr} {n0 n1 n2 c0 c1 c2 : Nat} {k : Co} {w wx : World} (h : wx.cell? ⟨w.heap.size, 0, none⟩ = some (.slice K0 n0 c0) ∧ wx.cell? ⟨w.heap.size, 1, none⟩ = some (.slice K1 n1 c1) ∧ wx.cell? ⟨w.heap.size, 2, none⟩ = some (.slice K2 n2 c2) ∧ SoG A A' n n' xs ys K0 K1 K2 n0 n1 n2 c0 c1 c2 k w wx) : SoG A A' n n' xs ys K0 K1 K2 n0 n1 n2 c0 c1 c2 k w wx := h.2.2.2
theorem so_a {A A' : Option Addr} {n n' : Nat} {xs ys : Tr} {K0 K1 K2 : Option Addr} {n0 n1 n2 c0 c1 c2 : Nat} {k : Co} {w wx : World} (h : wx.cell? ⟨w.heap.size, 0, none⟩ = some (.slice K0 n0 c0) ∧ wx.cell? ⟨w.heap.size, 1, none⟩ = some (.slice K1 n1 c1) ∧ wx.cell? ⟨w.heap.size, 2, none⟩ = some (.slice K2 n2 c2) ∧ SoG A A' n n' xs ys K0 K1 K2 n0 n1 n2 c0 c1 c2 k w wx) : NdIn wx wx.heap.size A n xs := h.2.2.2.a.more h.2.2.2.bl.size
theorem so_b {A A' : Option Addr} {n n' : Nat} {xs ys : Tr} {K0 K1 K2 : Option Addr} {n0 n1 n2 c0 c1 c2 : Nat} {k : Co} {w wx : World} (h : wx.cell? ⟨w.heap.size, 0, none⟩ = some (.slice K0 n0 c0) ∧ wx.cell? ⟨w.heap.size, 1, none⟩ = some (.slice K1 n1 c1) ∧ wx.cell? ⟨w.heap.size, 2, none⟩ = some (.slice K2 n2 c2) ∧ SoG A A' n n' xs ys K0 K1 K2 n0 n1 n2 c0 c1 c2 k w wx) : NdIn wx wx.heap.size A' n' ys := h.2.2.2.b.more h.2.2.2.bl.size
theorem so_out {A A' : Option Addr} {n n' : Nat} {xs ys : Tr} {K0 K1 K2 : Option Addr} {n0 n1 n2 c0 c1 c2 : Nat} {k : Co} {w wx : World} (h : SoG A A' n n' xs ys K0 K1 K2 n0 n1 n2 c0 c1 c2 k w wx) : wx.cell? ⟨w.heap.size, 0, none⟩ = some (.slice K0 n0 c0) ∧ wx.cell? ⟨w.heap.size, 1, none⟩ = some (.slice K1 n1 c1) ∧ wx.cell? ⟨w.heap.size, 2, none⟩ = some (.slice K2 n2 c2) ∧ SoG A A' n n' xs ys K0 K1 K2 n0 n1 n2 c0 c1 c2 k w wx := ⟨h.q.1, h.q.2.1, h.q.2.2, h⟩
set_option maxHeartbeats 3200000 in
set_option maxRecDepth 100000 in
theorem sidesOf_yes (A A' : Option Addr) (n n' c c' : Nat) (xs ys : Tr) (K0 K1 K2 : Option Addr) (n0 n1 n2 c0 c1 c2 : Nat) (k : Co) (w : World) (ha : NdIn w w.heap.size A n xs) (hb : NdIn w w.heap.size A' n' ys) (hk : CoIn w w.heap.size K0 K1 K2 n0 n1 n2 k)
    (hc : n ≤ c) (hc' : n' ≤ c') (hx : Tr.ok xs = true) (hy : Tr.ok ys = true) (ho : Co.ok k = true) :
    Calls Try.prog 115 #[.slice A n c, .slice A' n' c', .agg #[.slice K0 n0 c0, .slice K1 n1 c1, .slice K2 n2 c2]] w (SidesAt xs ys K0 K1 K2 n0 n1 n2 c0 c1 c2 w) := by
  have hln := ha.1
  have hln' := hb.1
  have hkl := hk.len
  have l1 := (Zs.fit_iff.1 (Co.fit3 ho).1).1
  have l2 := (Zs.fit_iff.1 (Co.fit3 ho).2.1).1
  have l3 := (Zs.fit_iff.1 (Co.fit3 ho).2.2).1
  have H0 := Lib.hid (show n0 ≤ 1048576 by omega)
  have H1 := Lib.hid (show n1 ≤ 1048576 by omega)
  have H2 := Lib.hid (show n2 ≤ 1048576 by omega)
  obtain ⟨x1, x24⟩ := Tr.len24 hx
  obtain ⟨y1, y24⟩ := Tr.len24 hy
  subst hln
  subst hln'
  have hn : xs.length ≤ 1048576 := by omega
  have hn' : ys.length ≤ 1048576 := by omega
  clear hkl l1 l2 l3
  have hn1 := Lib.hid hn
  have hn2 := Lib.hid hn'
  have SG := Lib.hid (SoG.made (c0 := c0) (c1 := c1) (c2 := c2) ha hb hk)
  obtain ⟨wz, hwz⟩ : ∃ wz, wz = (w.alloc (.cells #[.slice K0 n0 c0, .slice K1 n1 c1, .slice K2 n2 c2] 31)).alloc (.cells #[.slice none 0 0, .slice none 0 0, .slice none 0 0, .slice none 0 0, .slice none 0 0, .slice none 0 0, .slice none 0 0, .slice none 0 0, .slice none 0 0] 89) := ⟨_, rfl⟩
  rw [← hwz] at SG
  clear ha hb hk
  have HX := Lib.hid hx
  have HY := Lib.hid hy
  have HO := Lib.hid ho
  have lk := fun (zs : Tr) (h : Tr.ok zs = true) => show 0 < (Tr.krs zs).length by obtain ⟨r, hr⟩ := Tr.krs_last h; rw [hr]; simp
  have LKX := Lib.hid (lk xs HX.out)
  have LKY := Lib.hid (lk ys HY.out)
  clear lk hx hy ho
  go_enter Try.func115, Try.ntmps115
  go_wp2_with fail
  rw [← hwz]
  refine (implTreeOk_any _ _ _ xs _ (SG.out.a.more SG.out.bl.size) hn1.out hc).mono ?_
  rintro e w1 ⟨rfl, b1⟩
  have SG := Lib.hid (SG.out.keep b1)
  clear b1
  rw [HX.out]
  go_wp2_with fail
  refine (implTreeOk_any _ _ _ ys _ (SG.out.b.more SG.out.bl.size) hn2.out hc').mono ?_
  rintro e w2 ⟨rfl, b2⟩
  have SG := Lib.hid (SG.out.keep b2)
  clear b2
  rw [HY.out]
  obtain ⟨q0, q1, q2⟩ := SG.out.q
  go_wp2_with fail
  clear q0 q1 q2
  refine (implCostOk_any _ _ _ _ _ _ _ _ _ k _ (SG.out.k.more SG.out.bl.size) H0.out H1.out H2.out).mono ?_
  rintro e w3 ⟨rfl, b3⟩
  have SG := Lib.hid (SG.out.keep b3)
  clear b3
  rw [HO.out]
  have S0 := Lib.hid (so_out (SG.out.keep (Drawn.refl _).drew.toBelow))
  have ZW := Lib.hid (Nat.lt_of_succ_lt SG.out.lt)
  have X1 := Lib.hid x1
  have Y1 := Lib.hid y1
  clear x1 x24 y1 y24 hn hn' hwz
  go_wp2_with fail
  go_region_held3 (fun wq => wq.cell? ⟨w.heap.size, 0, none⟩ = some (.slice K0 n0 c0) ∧ wq.cell? ⟨w.heap.size, 1, none⟩ = some (.slice K1 n1 c1) ∧ wq.cell? ⟨w.heap.size, 2, none⟩ = some (.slice K2 n2 c2) ∧ SoG A A' xs.length ys.length xs ys K0 K1 K2 n0 n1 n2 c0 c1 c2 k w wq) (first | (with_reducible exact so_out (SoG.set9 SX.out _ _ _ _ _ _ _ _ _)) | (with_reducible exact S0.out) | (with_reducible refine so_out ((so_in ?_).keep hb); with_reducible assumption)) (first | (go_at_call 151; (fail_if_success (have := m1)); refine (sideOf_any A xs.length c xs _ (so_a (by assumption)) hc HX.out).mono ?_; rintro e w5 ⟨_, _, _, ca0, ca1, ca2, rfl, ra0, ra1, ra2, hb⟩; obtain ⟨ga0, rfl, fa0, fa0'⟩ := own_form ra0 X1.out; obtain ⟨ga1, rfl, fa1, fa1'⟩ := own_form ra1 X1.out; obtain ⟨ga2, rfl, fa2, fa2'⟩ := own_form ra2 LKX.out; have RA := Lib.hid (And.intro ra0 (And.intro ra1 (And.intro ra2 (And.intro fa0 (And.intro fa1 fa2))))); clear ra0 ra1 ra2 fa0 fa1 fa2 fa0' fa1' fa2'; have hba := Lib.hid hb; have m1 := True.intro) | (go_at_call 151; refine (sideOf_any A' ys.length c' ys _ (so_b (by assumption)) hc' HY.out).mono ?_; rintro e w6 ⟨_, _, _, cb0, cb1, cb2, rfl, rb0, rb1, rb2, hb⟩; obtain ⟨gb0, rfl, fb0, fb0'⟩ := own_form rb0 Y1.out; obtain ⟨gb1, rfl, fb1, fb1'⟩ := own_form rb1 Y1.out; obtain ⟨gb2, rfl, fb2, fb2'⟩ := own_form rb2 LKY.out; have RB := Lib.hid (And.intro rb0 (And.intro rb1 (And.intro rb2 (And.intro fb0 (And.intro fb1 fb2))))); clear rb0 rb1 rb2 fb0 fb1 fb2 fb0' fb1' fb2'; have hbb := Lib.hid hb; have SX := (so_in (by assumption)).keep hb; obtain ⟨_, t0⟩ := SX.cs 0 (by omega); have u0 := SX.fz 0; obtain ⟨_, t1⟩ := SX.cs 1 (by omega); have u1 := SX.fz 1; obtain ⟨_, t2⟩ := SX.cs 2 (by omega); have u2 := SX.fz 2; obtain ⟨_, t3⟩ := SX.cs 3 (by omega); have u3 := SX.fz 3; obtain ⟨_, t4⟩ := SX.cs 4 (by omega); have u4 := SX.fz 4; obtain ⟨_, t5⟩ := SX.cs 5 (by omega); have u5 := SX.fz 5; obtain ⟨_, t6⟩ := SX.cs 6 (by omega); have u6 := SX.fz 6; obtain ⟨_, t7⟩ := SX.cs 7 (by omega); have u7 := SX.fz 7; obtain ⟨_, t8⟩ := SX.cs 8 (by omega); have u8 := SX.fz 8; have SX := Lib.hid SX))
  obtain ⟨ra0, ra1, ra2, fa0, fa1, fa2⟩ := RA.out
  obtain ⟨rb0, rb1, rb2, fb0, fb1, fb2⟩ := RB.out
  have hba := hba.out
  have hbb := hbb.out
  have sa := hba.size
  have sb := hbb.size
  have s3 := SG.out.lt
  have zd : w3.drew.heap.size = w3.heap.size := rfl
  go_wp2
  refine bodyPost_ret (v := .tuple #[.agg #[.slice (some ⟨ga0, 0, none⟩) xs.length ca0, .slice (some ⟨ga1, 0, none⟩) xs.length ca1, .slice (some ⟨ga2, 0, none⟩) (Tr.krs xs).length ca2, .slice (some ⟨gb0, 0, none⟩) ys.length cb0, .slice (some ⟨gb1, 0, none⟩) ys.length cb1, .slice (some ⟨gb2, 0, none⟩) (Tr.krs ys).length cb2, .slice K0 n0 c0, .slice K1 n1 c1, .slice K2 n2 c2], .bool true]) ?_ rfl ?_
  · rw [results_cell_tmp rfl]
    go_simp
  · exact ⟨ga0, ga1, ga2, gb0, gb1, gb2, ca0, ca1, ca2, cb0, cb1, cb2, rfl, row_set9 (own_below ra0 hbb) (by omega) (by omega) _ _ _ _ _ _ _ _ _, row_set9 (own_below ra1 hbb) (by omega) (by omega) _ _ _ _ _ _ _ _ _, row_set9 (own_below ra2 hbb) (by omega) (by omega) _ _ _ _ _ _ _ _ _, row_set9 rb0 (by omega) (by omega) _ _ _ _ _ _ _ _ _, row_set9 rb1 (by omega) (by omega) _ _ _ _ _ _ _ _ _, row_set9 rb2 (by omega) (by omega) _ _ _ _ _ _ _ _ _, (SX.out.set9 _ _ _ _ _ _ _ _ _).bl⟩

end Go.Proofs.Ytgkkeejhfofcaaa
