/- Texts of one claim laid into one file, in build order: Bm, Dtb, F8, Fce, Part, L7In. -/
import Derived.Test.YtnfjdlocmdgefaaEa1
import Derived.Test.YtnfjdlocmdgefaaEa2
import Derived.Test.YtnfjdlocmdgefaaEa4
import Derived.Test.YtnfjdlocmdgefaaEa7
import Derived.Test.YtnfjdlocmdgefaaEa8
import Derived.Outline
import Derived.Test.YtnfjdlocmdgefaaRows
/- Contracts (Bm). -/
namespace Go.Proofs.Ytnfjdlocmdgefaa
open Go.RowKit
set_option linter.unusedVariables false

/-- pairs of a mapping of least cost between two ranges of places; cmb lays a pair beside what stands ahead of it and below it -/
def Bm.go (cmb : Tr → Nat → Nat → Tr → Tr) (xs ys : Tr) (k : Co) (i j p q : Nat) : Tr :=
  if j ≤ i ∨ q ≤ p then []
  else if RR xs ys k i j p q = RR xs ys k i (j - 1) p q + Co.del k (Tr.xa xs (j - 1)) then Bm.go cmb xs ys k i (j - 1) p q
  else if RR xs ys k i j p q = RR xs ys k i j p (q - 1) + Co.ins k (Tr.xa ys (q - 1)) then Bm.go cmb xs ys k i j p (q - 1)
  else cmb (Bm.go cmb xs ys k i (min (j - 1) (max i (Tr.la xs (j - 1)))) p (min (q - 1) (max p (Tr.la ys (q - 1))))) (j - 1) (q - 1)
    (Bm.go cmb xs ys k (min (j - 1) (max i (Tr.la xs (j - 1)))) (j - 1) (min (q - 1) (max p (Tr.la ys (q - 1)))) (q - 1))
termination_by (j - i) + (q - p)
decreasing_by all_goals omega
/-- the last ones of both together -/
def Bm.mt (cmb : Tr → Nat → Nat → Tr → Tr) (xs ys : Tr) (k : Co) (i j p q : Nat) : Tr :=
  cmb (Bm.go cmb xs ys k i (max i (Tr.la xs (j - 1))) p (max p (Tr.la ys (q - 1)))) (j - 1) (q - 1)
    (Bm.go cmb xs ys k (max i (Tr.la xs (j - 1))) (j - 1) (max p (Tr.la ys (q - 1))) (q - 1))
/-- the node at a place -/
def Tr.nd (xs : Tr) (u : Nat) : Nat := (Tr.post xs).getD u 0
/-- the model's order: by places, the pair last -/
def Bm.cS (a : Tr) (u v : Nat) (b : Tr) : Tr := a ++ b ++ [((u : Int), (v : Int))]
/-- the program's order: nodes, the pair between -/
def Bm.cP (xs ys : Tr) (a : Tr) (u v : Nat) (b : Tr) : Tr := a ++ [((Tr.nd xs u : Int), (Tr.nd ys v : Int))] ++ b
section
variable {cmb : Tr → Nat → Nat → Tr → Tr} {xs ys : Tr} {k : Co} {i j p q : Nat}
theorem Bm.go_none (h : j ≤ i ∨ q ≤ p) : Bm.go cmb xs ys k i j p q = [] := by rw [Bm.go, if_pos h]
theorem Bm.go_del (h1 : i < j) (h2 : p < q) (h : RR xs ys k i j p q = RR xs ys k i (j - 1) p q + Co.del k (Tr.xa xs (j - 1))) : Bm.go cmb xs ys k i j p q = Bm.go cmb xs ys k i (j - 1) p q := by
  rw [Bm.go, if_neg (by omega), if_pos h]
theorem Bm.go_ins (h1 : i < j) (h2 : p < q) (h : ¬ RR xs ys k i j p q = RR xs ys k i (j - 1) p q + Co.del k (Tr.xa xs (j - 1))) (h' : RR xs ys k i j p q = RR xs ys k i j p (q - 1) + Co.ins k (Tr.xa ys (q - 1))) : Bm.go cmb xs ys k i j p q = Bm.go cmb xs ys k i j p (q - 1) := by
  rw [Bm.go, if_neg (by omega), if_neg h, if_pos h']
theorem Bm.go_both (hx : Tr.ok xs = true) (hy : Tr.ok ys = true) (h1 : i < j) (h2 : p < q) (hj : j ≤ xs.length) (hq : q ≤ ys.length) (h : ¬ RR xs ys k i j p q = RR xs ys k i (j - 1) p q + Co.del k (Tr.xa xs (j - 1))) (h' : ¬ RR xs ys k i j p q = RR xs ys k i j p (q - 1) + Co.ins k (Tr.xa ys (q - 1))) :
    Bm.go cmb xs ys k i j p q = Bm.mt cmb xs ys k i j p q := by
  have a := (Tr.la_nest hx (j - 1) (by omega)).1
  have b := (Tr.la_nest hy (q - 1) (by omega)).1
  rw [Bm.go, if_neg (by omega), if_neg h, if_neg h', show min (j - 1) (max i (Tr.la xs (j - 1))) = max i (Tr.la xs (j - 1)) by omega, show min (q - 1) (max p (Tr.la ys (q - 1))) = max p (Tr.la ys (q - 1)) by omega]
  rfl
/-- what holds of each step holds of the whole -/
theorem Bm.go_ind {M : Nat → Nat → Nat → Nat → Tr → Prop} (hx : Tr.ok xs = true) (hy : Tr.ok ys = true)
    (h0 : ∀ i j p q, j ≤ i ∨ q ≤ p → M i j p q [])
    (h1 : ∀ i j p q L, i < j → p < q → j ≤ xs.length → q ≤ ys.length → RR xs ys k i j p q = RR xs ys k i (j - 1) p q + Co.del k (Tr.xa xs (j - 1)) → M i (j - 1) p q L → M i j p q L)
    (h2 : ∀ i j p q L, i < j → p < q → j ≤ xs.length → q ≤ ys.length → ¬ RR xs ys k i j p q = RR xs ys k i (j - 1) p q + Co.del k (Tr.xa xs (j - 1)) → RR xs ys k i j p q = RR xs ys k i j p (q - 1) + Co.ins k (Tr.xa ys (q - 1)) → M i j p (q - 1) L → M i j p q L)
    (h3 : ∀ i j p q P Q A B, i < j → p < q → j ≤ xs.length → q ≤ ys.length → P = max i (Tr.la xs (j - 1)) → Q = max p (Tr.la ys (q - 1)) → P ≤ j - 1 → Q ≤ q - 1 → ¬ RR xs ys k i j p q = RR xs ys k i (j - 1) p q + Co.del k (Tr.xa xs (j - 1)) → ¬ RR xs ys k i j p q = RR xs ys k i j p (q - 1) + Co.ins k (Tr.xa ys (q - 1)) → RR xs ys k i j p q = RR xs ys k i P p Q + RR xs ys k P (j - 1) Q (q - 1) + Co.rel k (Tr.xa xs (j - 1)) (Tr.xa ys (q - 1)) →
      M i P p Q A → M P (j - 1) Q (q - 1) B → M i j p q (cmb A (j - 1) (q - 1) B)) :
    ∀ (s i j p q : Nat), (j - i) + (q - p) < s → j ≤ xs.length → q ≤ ys.length → M i j p q (Bm.go cmb xs ys k i j p q) := by
  intro s
  induction s with
  | zero => intro i j p q h; omega
  | succ s ih =>
    intro i j p q hs hj hq
    by_cases e : j ≤ i ∨ q ≤ p
    · rw [Bm.go_none e]; exact h0 i j p q e
    · by_cases a : RR xs ys k i j p q = RR xs ys k i (j - 1) p q + Co.del k (Tr.xa xs (j - 1))
      · rw [Bm.go_del (by omega) (by omega) a]; exact h1 i j p q _ (by omega) (by omega) hj hq a (ih i (j - 1) p q (by omega) (by omega) hq)
      · by_cases b : RR xs ys k i j p q = RR xs ys k i j p (q - 1) + Co.ins k (Tr.xa ys (q - 1))
        · rw [Bm.go_ins (by omega) (by omega) a b]; exact h2 i j p q _ (by omega) (by omega) hj hq a b (ih i j p (q - 1) (by omega) hj (by omega))
        · have la1 := (Tr.la_nest hx (j - 1) (by omega)).1
          have lb1 := (Tr.la_nest hy (q - 1) (by omega)).1
          rw [Bm.go_both hx hy (by omega) (by omega) hj hq a b]
          refine h3 i j p q _ _ _ _ (by omega) (by omega) hj hq rfl rfl (by omega) (by omega) a b ?_ (ih _ _ _ _ (by omega) (by omega) (by omega)) (ih _ _ _ _ (by omega) (by omega) (by omega))
          have := RD_both (K := Co.cs k) (x := Tr.xa xs) (y := Tr.xa ys) (Tr.la_nest hx) (Tr.la_nest hy) (i := i) (j := j - 1) (k := p) (l := q - 1) (by omega) (by omega) (by omega) (by omega)
          rw [show j - 1 + 1 = j by omega, show q - 1 + 1 = q by omega] at this
          have t : RR xs ys k i j p q = min (min (RR xs ys k i (j - 1) p q + Co.del k (Tr.xa xs (j - 1))) (RR xs ys k i j p (q - 1) + Co.ins k (Tr.xa ys (q - 1)))) (RR xs ys k i (max i (Tr.la xs (j - 1))) p (max p (Tr.la ys (q - 1))) + RR xs ys k (max i (Tr.la xs (j - 1))) (j - 1) (max p (Tr.la ys (q - 1))) (q - 1) + Co.rel k (Tr.xa xs (j - 1)) (Tr.xa ys (q - 1))) := this
          omega
end
section
variable {xs : Tr} (hok : Tr.ok xs = true)
include hok
theorem Tr.nd_at {u : Nat} (hu : u < xs.length) : Tr.nd xs u < xs.length ∧ Tr.rk xs (Tr.nd xs u) = u ∧ Tr.la xs u = Tr.nd xs u - Tr.dn xs (Tr.nd xs u) ∧ Tr.xa xs u = Tr.l xs (Tr.nd xs u) := by
  obtain ⟨i, h1, h2, h3, h4, h5⟩ := Tr.la_at hok hu
  have : Tr.nd xs u = i := by unfold Tr.nd; rw [List.getD_eq_getElem?_getD, h5]; rfl
  rw [this]
  exact ⟨h1, h2, h3, h4⟩
theorem Tr.nd_rk {i : Nat} (hi : i < xs.length) : Tr.nd xs (Tr.rk xs i) = i := by
  unfold Tr.nd; rw [List.getD_eq_getElem?_getD, Tr.post_rk hok hi]; rfl
/-- ahead of v's first leaf: ahead of v -/
theorem Tr.nd_ahead {u v : Nat} (hv : v < xs.length) (h : u < Tr.la xs v) : Tr.nd xs u < Tr.nd xs v := by
  have l1 := (Tr.la_nest hok v hv).1
  obtain ⟨a1, a2, a3, _⟩ := Tr.nd_at hok (u := u) (by omega)
  obtain ⟨b1, b2, b3, _⟩ := Tr.nd_at hok hv
  rcases Nat.lt_or_ge (Tr.nd xs u) (Tr.nd xs v) with c | c
  · exact c
  · have := Tr.rk_ge hok c a1
    omega
/-- from v's first leaf on: below v -/
theorem Tr.nd_below {u v : Nat} (hv : v < xs.length) (h : Tr.la xs v ≤ u) (huv : u < v) : Tr.nd xs v < Tr.nd xs u ∧ Tr.nd xs u < Tr.endN xs (Tr.nd xs v) := by
  obtain ⟨a1, a2, a3, _⟩ := Tr.nd_at hok (u := u) (by omega)
  obtain ⟨b1, b2, b3, _⟩ := Tr.nd_at hok hv
  have d1 := Tr.dn_le hok a1
  have hlt : Tr.nd xs v < Tr.nd xs u := by
    rcases Nat.lt_trichotomy (Tr.nd xs u) (Tr.nd xs v) with c | c | c
    · by_cases hu : Tr.nd xs v < Tr.endN xs (Tr.nd xs u)
      · have := Tr.rk_under hok a1 c hu; omega
      · have g := Tr.gap_mono hok (i := Tr.endN xs (Tr.nd xs u)) (j := Tr.nd xs v) (by omega) b1
        have e := Tr.endN_dn hok a1
        have r : Tr.rk xs (Tr.nd xs u) = Tr.endN xs (Tr.nd xs u) - 1 - Tr.dn xs (Tr.nd xs u) := rfl
        rcases e.2.2.2 with f | ⟨f1, f2⟩
        · omega
        · omega
    · rw [c] at a2; omega
    · exact c
  refine ⟨hlt, ?_⟩
  rcases Nat.lt_or_ge (Tr.nd xs u) (Tr.endN xs (Tr.nd xs v)) with c | c
  · exact c
  · have := Tr.rk_left hok b1 c a1; omega
theorem Tr.nd_not {u v : Nat} (huv : u ≤ v) (hv : v < xs.length) : Tr.under xs (Tr.nd xs u : Int) (Tr.nd xs v : Int) = false := by
  obtain ⟨a1, a2, a3, _⟩ := Tr.nd_at hok (u := u) (by omega)
  obtain ⟨b1, b2, b3, _⟩ := Tr.nd_at hok hv
  cases e : Tr.under xs (Tr.nd xs u : Int) (Tr.nd xs v : Int) with
  | false => rfl
  | true =>
    simp only [Tr.under, Bool.and_eq_true, decide_eq_true_eq] at e
    obtain ⟨⟨⟨e1, e2⟩, e3⟩, e4⟩ := e
    rw [Tr.endOf_yes e1] at e4
    have := Tr.rk_under hok a1 (by omega) (show Tr.nd xs v < Tr.endN xs (Tr.nd xs u) by omega)
    omega
theorem Tr.has_nd {u : Nat} (hu : u < xs.length) : Tr.has xs (Tr.nd xs u : Int) = true := by
  have := (Tr.nd_at hok hu).1
  rw [Tr.has_iff]
  exact ⟨hok, by omega, by omega⟩
theorem Tr.nd_yes {u v : Nat} (hv : v < xs.length) (h : Tr.la xs v ≤ u) (huv : u < v) : Tr.under xs (Tr.nd xs v : Int) (Tr.nd xs u : Int) = true := by
  obtain ⟨c1, c2⟩ := Tr.nd_below hok hv h huv
  unfold Tr.under
  rw [Tr.has_nd hok hv, Tr.has_nd hok (show u < xs.length by omega), Tr.endOf_yes (Tr.has_nd hok hv), decide_eq_true (by omega), decide_eq_true (by omega)]
  rfl
end

end Go.Proofs.Ytnfjdlocmdgefaa

/- Contracts (Dtb). -/
namespace Go.Proofs.Ytnfjdlocmdgefaa
open Go.RowKit
set_option linter.unusedVariables false

/-! The program's table of distances: one block of 635 cells, the trees' row, the rows that it reads. -/
/-- a row of ints that no store of the table reaches -/
structure RowOff (w : World) (g gt : Nat) (ad : Addr) (n : Nat) (zs : List Int) : Prop where
  len : zs.length = n
  lt : ad.block < w.heap.size
  ng : ad.block ≠ g
  nt : ad.block ≠ gt
  at_ : ∀ k, k < n → w.cell? (ad.add k) = some (.int .i64 (Zs.at zs k))
/-- where the table's parts lie -/
structure DtD where
  g : Nat
  gt : Nat
  a0 : Addr
  a1 : Addr
  a2 : Addr
  b0 : Addr
  b1 : Addr
  b2 : Addr
  k0 : Addr
  k1 : Addr
  k2 : Addr
  ca0 : Nat
  ca1 : Nat
  ca2 : Nat
  cb0 : Nat
  cb1 : Nat
  cb2 : Nat
  ck0 : Nat
  ck1 : Nat
  ck2 : Nat
def updF (F : Nat → Nat → Int) (x y : Nat) (v : Int) : Nat → Nat → Int := fun a b => if a = x ∧ b = y then v else F a b
structure DT (B : Nat) (D : DtD) (xs ys : Tr) (k : Co) (F : Nat → Nat → Int) (T : List Int) (w : World) : Prop where
  gB : B ≤ D.g
  gl : D.g < w.heap.size
  gg : D.gt ≠ D.g
  fz : ∀ off, w.frozen? ⟨D.g, off, none⟩ = false
  h0 : w.cell? ⟨D.g, 0, none⟩ = some (.slice (some D.a0) xs.length D.ca0)
  h1 : w.cell? ⟨D.g, 1, none⟩ = some (.slice (some D.a1) xs.length D.ca1)
  h2 : w.cell? ⟨D.g, 2, none⟩ = some (.slice (some D.a2) (Tr.krs xs).length D.ca2)
  h3 : w.cell? ⟨D.g, 3, none⟩ = some (.slice (some D.b0) ys.length D.cb0)
  h4 : w.cell? ⟨D.g, 4, none⟩ = some (.slice (some D.b1) ys.length D.cb1)
  h5 : w.cell? ⟨D.g, 5, none⟩ = some (.slice (some D.b2) (Tr.krs ys).length D.cb2)
  h6 : w.cell? ⟨D.g, 6, none⟩ = some (.slice (some D.k0) 6 D.ck0)
  h7 : w.cell? ⟨D.g, 7, none⟩ = some (.slice (some D.k1) 6 D.ck1)
  h8 : w.cell? ⟨D.g, 8, none⟩ = some (.slice (some D.k2) 36 D.ck2)
  h9 : w.cell? ⟨D.g, 9, none⟩ = some (.slice (some ⟨D.gt, 0, none⟩) (xs.length * ys.length) (xs.length * ys.length))
  fr : ∀ x y, x < 25 → y < 25 → w.cell? ⟨D.g, 10 + x * 25 + y, none⟩ = some (.int .i64 (F x y))
  row : w.ownsRow B 3 1 (.slice (some ⟨D.gt, 0, none⟩) (xs.length * ys.length) (xs.length * ys.length)) (xs.length * ys.length) (ints T)
  ra0 : RowOff w D.g D.gt D.a0 xs.length (Tr.lab xs)
  ra1 : RowOff w D.g D.gt D.a1 xs.length (Zs.up (Tr.lfs xs))
  ra2 : RowOff w D.g D.gt D.a2 (Tr.krs xs).length (Zs.up (Tr.krs xs))
  rb0 : RowOff w D.g D.gt D.b0 ys.length (Tr.lab ys)
  rb1 : RowOff w D.g D.gt D.b1 ys.length (Zs.up (Tr.lfs ys))
  rb2 : RowOff w D.g D.gt D.b2 (Tr.krs ys).length (Zs.up (Tr.krs ys))
  rk0 : RowOff w D.g D.gt D.k0 6 k.d
  rk1 : RowOff w D.g D.gt D.k1 6 k.i
  rk2 : RowOff w D.g D.gt D.k2 36 k.r
theorem RowOff.keep {w w' : World} {g gt n : Nat} {ad : Addr} {zs : List Int} (h : RowOff w g gt ad n zs) (hs : w.heap.size ≤ w'.heap.size) (hk : ∀ p : Addr, p.block < w.heap.size → p.block ≠ g → p.block ≠ gt → w'.cell? p = w.cell? p) : RowOff w' g gt ad n zs :=
  ⟨h.len, Nat.lt_of_lt_of_le h.lt hs, h.ng, h.nt, fun k hk' => by rw [hk _ (by rw [block_of_add]; exact h.lt) (by rw [block_of_add]; exact h.ng) (by rw [block_of_add]; exact h.nt)]; exact h.at_ k hk'⟩
section
variable {B : Nat} {D : DtD} {xs ys : Tr} {k : Co} {F : Nat → Nat → Int} {T : List Int} {w w' : World}
theorem DT.drawn (h : DT B D xs ys k F T w) (hd : Drawn w w') : DT B D xs ys k F T w' := by obtain ⟨m, rfl⟩ := hd; exact ⟨h.gB, h.gl, h.gg, h.fz, h.h0, h.h1, h.h2, h.h3, h.h4, h.h5, h.h6, h.h7, h.h8, h.h9, h.fr, h.row, ⟨h.ra0.1, h.ra0.2, h.ra0.3, h.ra0.4, h.ra0.5⟩, ⟨h.ra1.1, h.ra1.2, h.ra1.3, h.ra1.4, h.ra1.5⟩, ⟨h.ra2.1, h.ra2.2, h.ra2.3, h.ra2.4, h.ra2.5⟩, ⟨h.rb0.1, h.rb0.2, h.rb0.3, h.rb0.4, h.rb0.5⟩, ⟨h.rb1.1, h.rb1.2, h.rb1.3, h.rb1.4, h.rb1.5⟩, ⟨h.rb2.1, h.rb2.2, h.rb2.3, h.rb2.4, h.rb2.5⟩, ⟨h.rk0.1, h.rk0.2, h.rk0.3, h.rk0.4, h.rk0.5⟩, ⟨h.rk1.1, h.rk1.2, h.rk1.3, h.rk1.4, h.rk1.5⟩, ⟨h.rk2.1, h.rk2.2, h.rk2.3, h.rk2.4, h.rk2.5⟩⟩
theorem DT.tlen (h : DT B D xs ys k F T w) : T.length = xs.length * ys.length := by have := h.row.1; rw [ints_length] at this; omega
theorem DT.tB (h : DT B D xs ys k F T w) : B ≤ D.gt ∧ D.gt < w.heap.size := h.row.lt D.gt rfl
theorem DT.setF (h : DT B D xs ys k F T w) {x y : Nat} (hx : x < 25) (hy : y < 25) (v : Int) : DT B D xs ys k (updF F x y v) T (w.setCell ⟨D.g, 10 + x * 25 + y, none⟩ (.int .i64 v)) := by
  have hsz : (w.setCell ⟨D.g, 10 + x * 25 + y, none⟩ (.int .i64 v)).heap.size = w.heap.size := by simp
  have ho : ∀ p : Addr, p.block < w.heap.size → p.block ≠ D.g → p.block ≠ D.gt → (w.setCell ⟨D.g, 10 + x * 25 + y, none⟩ (.int .i64 v)).cell? p = w.cell? p := fun p _ hp _ => World.cell?_setCell_other _ _ _ _ (fun e => hp (by rw [← e]))
  have hl : ∀ o, o < 10 → (w.setCell ⟨D.g, 10 + x * 25 + y, none⟩ (.int .i64 v)).cell? ⟨D.g, o, none⟩ = w.cell? ⟨D.g, o, none⟩ := fun o ho => World.cell?_setCell_other _ _ _ _ (fun e => by injection e with e1 e2; omega)
  have hle : w.heap.size ≤ (w.setCell ⟨D.g, 10 + x * 25 + y, none⟩ (.int .i64 v)).heap.size := by omega
  have r {ad : Addr} {n : Nat} {zs : List Int} (q : RowOff w D.g D.gt ad n zs) := q.keep hle ho
  exact {
    gB := h.gB, gl := by rw [hsz]; exact h.gl, gg := h.gg
    fz := fun off => by rw [World.frozen?_setCell]; exact h.fz off
    h0 := (hl _ (by omega)).trans h.h0, h1 := (hl _ (by omega)).trans h.h1, h2 := (hl _ (by omega)).trans h.h2
    h3 := (hl _ (by omega)).trans h.h3, h4 := (hl _ (by omega)).trans h.h4, h5 := (hl _ (by omega)).trans h.h5
    h6 := (hl _ (by omega)).trans h.h6, h7 := (hl _ (by omega)).trans h.h7, h8 := (hl _ (by omega)).trans h.h8
    h9 := (hl _ (by omega)).trans h.h9
    fr := fun a b ha hb => by
      unfold updF
      by_cases e : a = x ∧ b = y
      · rw [if_pos e, e.1, e.2]
        exact World.cell?_setCell_same' _ _ _ (by rw [h.fr x y hx hy]; rfl)
      · rw [if_neg e, World.cell?_setCell_other _ _ _ _ (fun e' => by injection e' with e1 e2; omega)]
        exact h.fr a b ha hb
    row := h.row.kept (Kit.grown_set w D.g _ _) (.inr fun e => h.gg (by injection e))
    ra0 := r h.ra0, ra1 := r h.ra1, ra2 := r h.ra2, rb0 := r h.rb0, rb1 := r h.rb1, rb2 := r h.rb2, rk0 := r h.rk0, rk1 := r h.rk1, rk2 := r h.rk2 }
theorem DT.setT (h : DT B D xs ys k F T w) (u : Nat) (v : Int) : DT B D xs ys k F (T.set u v) (w.setCell ⟨D.gt, u, none⟩ (.int .i64 v)) := by
  have hsz : (w.setCell ⟨D.gt, u, none⟩ (.int .i64 v)).heap.size = w.heap.size := by simp
  have ho : ∀ p : Addr, p.block < w.heap.size → p.block ≠ D.g → p.block ≠ D.gt → (w.setCell ⟨D.gt, u, none⟩ (.int .i64 v)).cell? p = w.cell? p := fun p _ _ hp => World.cell?_setCell_other _ _ _ _ (fun e => hp (by rw [← e]))
  have hl : ∀ o, (w.setCell ⟨D.gt, u, none⟩ (.int .i64 v)).cell? ⟨D.g, o, none⟩ = w.cell? ⟨D.g, o, none⟩ := fun o => World.cell?_setCell_other _ _ _ _ (fun e => by injection e with e1 e2; exact h.gg e1)
  have hle : w.heap.size ≤ (w.setCell ⟨D.gt, u, none⟩ (.int .i64 v)).heap.size := by omega
  have r {ad : Addr} {n : Nat} {zs : List Int} (q : RowOff w D.g D.gt ad n zs) := q.keep hle ho
  exact {
    gB := h.gB, gl := by rw [hsz]; exact h.gl, gg := h.gg
    fz := fun off => by rw [World.frozen?_setCell]; exact h.fz off
    h0 := (hl _).trans h.h0, h1 := (hl _).trans h.h1, h2 := (hl _).trans h.h2, h3 := (hl _).trans h.h3, h4 := (hl _).trans h.h4, h5 := (hl _).trans h.h5
    h6 := (hl _).trans h.h6, h7 := (hl _).trans h.h7, h8 := (hl _).trans h.h8, h9 := (hl _).trans h.h9
    fr := fun a b ha hb => (hl _).trans (h.fr a b ha hb)
    row := by have := (h.row.stored u (.int .i64 v)).1; rw [ints_set] at this; exact this
    ra0 := r h.ra0, ra1 := r h.ra1, ra2 := r h.ra2, rb0 := r h.rb0, rb1 := r h.rb1, rb2 := r h.rb2, rk0 := r h.rk0, rk1 := r h.rk1, rk2 := r h.rk2 }
end

end Go.Proofs.Ytnfjdlocmdgefaa

/- Contracts (F8). -/
namespace Go.Proofs.Ytnfjdlocmdgefaa
open Go.RowKit
set_option linter.unusedVariables false

/-! The model's table of forests: one row from the key roots' first leaves on. -/
def ix (p q W a b : Nat) : Nat := (a - p) * W + (b - q)
/-- the row f and the trees, beside what stood ahead of f -/
structure F8 (B gt hf nf nm : Nat) (w0 w1 : World) (f T : List Int) (wr : World) : Prop where
  kb : ∀ p : Addr, p.block < hf → p.block ≠ gt → wr.cell? p = w1.cell? p
  rf : wr.ownsRow hf 3 1 (.slice (some ⟨hf, 0, none⟩) nf nf) nf (ints f)
  rt : wr.ownsRow B 3 1 (.slice (some ⟨gt, 0, none⟩) nm nm) nm (ints T)
  bl : Below B w0 wr
section
variable {B gt hf nf nm : Nat} {w0 w1 wr w' : World} {f T : List Int}
theorem F8.drawn (h : F8 B gt hf nf nm w0 w1 f T wr) (hd : Drawn wr w') : F8 B gt hf nf nm w0 w1 f T w' :=
  ⟨fun p h1 h2 => (hd.cell p).trans (h.kb p h1 h2), own_drawn h.rf hd, own_drawn h.rt hd, Drawn.below h.bl hd⟩
theorem F8.tlen (h : F8 B gt hf nf nm w0 w1 f T wr) : T.length = nm := by have := h.rt.1; rw [ints_length] at this; omega
theorem F8.row {ad : Addr} {n : Nat} {zs : List Int} (h : F8 B gt hf nf nm w0 w1 f T wr) (hr : RowOff w1 gt gt ad n zs) (hl : ad.block < hf) {k : Nat} (hk : k < n) : wr.cell? (ad.add k) = some (.int .i64 (Zs.at zs k)) := by
  rw [h.kb _ (by rw [block_of_add]; exact hl) (by rw [block_of_add]; exact hr.ng)]
  exact hr.at_ k hk
end

end Go.Proofs.Ytnfjdlocmdgefaa

/- The facts of one cell of the model's table of forests. -/
namespace Go.Proofs.Ytnfjdlocmdgefaa
open Go.RowKit
set_option linter.unusedVariables false

theorem RowOff.made {w : World} {gt n : Nat} {ad : Addr} {zs : List Int} {o : Obj} (h : RowOff w gt gt ad n zs) : RowOff (w.alloc o) gt gt ad n zs :=
  ⟨h.len, by have := h.lt; simp; omega, h.ng, h.nt, fun k hk => by rw [World.cell?_alloc_lt w o _ (by rw [block_of_add]; exact h.lt)]; exact h.at_ k hk⟩
section
variable {B gt hf nf nm : Nat} {ax ay ala alb k0 k1 k2 : Addr} {cx cy e0 e1 e2 : Nat} {xs ys : Tr} {k : Co} {T T1 f : List Int} {i j x y p q W V : Nat} {w wb wr : World}
end

end Go.Proofs.Ytnfjdlocmdgefaa

/- Contracts (Part). -/
namespace Go.Proofs.Ytnfjdlocmdgefaa
open Go.RowKit
set_option linter.unusedVariables false

/-- of a row the first k values, then zeroes -/
def Zs.part (F : List Int) (k : Nat) : List Int := F.take k ++ List.replicate (F.length - k) 0
theorem Zs.part_length (F : List Int) (k : Nat) (h : k ≤ F.length) : (Zs.part F k).length = F.length := by simp [Zs.part]; omega
theorem Zs.part_zero (F : List Int) : Zs.part F 0 = List.replicate F.length 0 := by simp [Zs.part]
theorem Zs.part_all (F : List Int) : Zs.part F F.length = F := by simp [Zs.part]
theorem Zs.part_set (F : List Int) (k : Nat) (h : k < F.length) : (Zs.part F k).set k (Zs.at F k) = Zs.part F (k + 1) := by
  unfold Zs.part
  have hl : (F.take k).length = k := by simp; omega
  rw [List.set_append_right _ _ (by omega), hl, Nat.sub_self, show F.length - k = (F.length - (k + 1)) + 1 by omega, List.replicate_succ, List.set_cons_zero, List.take_succ_eq_append_getElem h, List.append_assoc]
  simp [Zs.at, List.getD_eq_getElem?_getD, h]
theorem made_zeros (z n : Nat) : (madeCells (Value.int .i64 0).cells (n * 1)).toList = ints (List.replicate n 0) := by
  unfold madeCells ints
  refine List.ext_getElem (by simp) fun k h1 h2 => ?_
  simp at h1 h2 ⊢
  show (#[Value.int .i64 0] : Array Value)[k % 1]! = _
  rw [Nat.mod_one]
  rfl
theorem info_intZ : (Try.prog.info? 3).map (fun i => (i.zero, i.size, i.bytes)) = some (some (.int .i64 0), 1, 8) := by kernel_rfl

end Go.Proofs.Ytnfjdlocmdgefaa

/- Contracts (L7In). -/
namespace Go.Proofs.Ytnfjdlocmdgefaa
open Go.RowKit
set_option linter.unusedVariables false

set_option maxHeartbeats 1600000 in
set_option maxRecDepth 100000 in
theorem l7In_any (A : Option Addr) (n c : Nat) (zs : List Int) (m : Nat) (w : World) (h : IntIn w w.heap.size A n zs) (hn : n ≤ 1048576) (hm : m ≤ 1000) :
    Calls Try.prog 35 #[.slice A n c, .int .i64 m] w fun e w' => e = .returned (.bool (Zs.fit zs m)) ∧ w = w' := by
  have H := Lib.hid h
  have HL := Lib.hid h.1
  clear h
  go_enter Try.func35, Try.ntmps35
  go_wp2
  go_loop [5] (fun iv => ∃ k : Nat, k ≤ n ∧ iv = .int .i64 k ∧ Zs.inTo zs k) (fun i => n - (intOf i).toNat)
  case atStart => exact ⟨0, Nat.zero_le _, rfl, fun j hj => absurd hj (Nat.not_lt_zero j)⟩
  case round =>
    obtain ⟨k, hk, rfl, hin⟩ := hrel
    have HI := Lib.hid hin
    clear hin
    by_cases hlt : k < n
    · obtain ⟨ad, rfl, _, c1⟩ := H.out.at_ hlt
      obtain ⟨z, hz⟩ : ∃ z, z = Zs.at zs k := ⟨_, rfl⟩
      rw [← hz] at c1
      have HZ := Lib.hid hz
      clear hz
      have k0 : (0 : Int) ≤ (k : Int) := by omega
      have k1 : (k : Int) < (n : Int) := by omega
      by_cases hq : 0 ≤ z ∧ z ≤ 1000
      · have q : decide (0 ≤ z ∧ z ≤ 1000) = true := by simpa using hq
        have Hq := Lib.hid hq
        clear hq
        go_wp2_with fail
        refine (l1In_any _ _ _ _).mono ?_
        rintro e w1 ⟨rfl, rfl⟩
        rw [q]
        go_wp2
        go_round
        case rel => exact ⟨k + 1, by omega, by go_num, fun j hj => by
          rcases Nat.lt_succ_iff_lt_or_eq.1 hj with h' | rfl
          · exact HI.out j h'
          · rw [← HZ.out]; exact Hq.out⟩
        case measure => simp [intOf]; omega
      · have q : decide (0 ≤ z ∧ z ≤ 1000) = false := by simpa using hq
        have Hf := Lib.hid (Zs.fit_not (zs := zs) (k := k) (n := m) (by rw [HL.out]; exact hlt) (by rw [← HZ.out]; exact hq))
        clear hq
        go_wp2_with fail
        refine (l1In_any _ _ _ _).mono ?_
        rintro e w1 ⟨rfl, rfl⟩
        rw [q]
        go_wp2
        go_ret
        exact ⟨Kit.ret_bool Hf.out.symm, rfl⟩
    · obtain rfl : k = n := by omega
      have Hf := Lib.hid (Zs.fit_all (zs := zs) (n := m) (by rw [HL.out]; exact HI.out))
      go_wp2
      go_ret
      exact ⟨Kit.ret_bool (by rw [Hf.out, HL.out, Bool.eq_iff_iff]; simp; omega), rfl⟩

end Go.Proofs.Ytnfjdlocmdgefaa
