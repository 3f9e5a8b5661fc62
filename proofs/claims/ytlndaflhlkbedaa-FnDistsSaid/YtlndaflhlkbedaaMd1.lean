/- Texts of one claim laid into one file, in build order: Com, Bm, DtM, SubS, At, Bxc, Sxn, ForM, Dts, ExDts. -/
import Derived.Test.YtlndaflhlkbedaaMg17
import Derived.Deep.RegionHeld3
import Derived.Outline
import Derived.Test.YtlndaflhlkbedaaRows
/- Contracts (Com). -/
namespace Go.Proofs.Ytlndaflhlkbedaa
open Go.RowKit
set_option linter.unusedVariables false

/-- where b leads, by the first k pairs -/
def Cp.out (ns : Tr) (b : Int) : Nat → List Int
  | 0 => []
  | k + 1 => if b = Tr.l ns k then Cp.out ns b k ++ [Tr.d ns k] else Cp.out ns b k
/-- the pairs of a by way of b -/
def Cp.row (a : Int) (zs : List Int) : Tr := zs.map fun z => (a, z)
def Cp.to (ms ns : Tr) : Nat → Tr
  | 0 => []
  | i + 1 => Cp.to ms ns i ++ Cp.row (Tr.l ms i) (Cp.out ns (Tr.d ms i) ns.length)
def Cp.all (ms ns : Tr) : Tr := Cp.to ms ns ms.length
theorem Cp.out_len (ns : Tr) (b : Int) : ∀ k, (Cp.out ns b k).length ≤ k
  | 0 => Nat.le_refl _
  | k + 1 => by
    have h := Cp.out_len ns b k
    unfold Cp.out
    split
    · rw [List.length_append, List.length_singleton]; omega
    · omega
theorem Cp.row_len (a : Int) (zs : List Int) : (Cp.row a zs).length = zs.length := by simp [Cp.row]
theorem Cp.out_yes {ns : Tr} {b : Int} {k : Nat} (h : b = Tr.l ns k) : Cp.out ns b (k + 1) = Cp.out ns b k ++ [Tr.d ns k] := by rw [Cp.out, if_pos h]
theorem Cp.out_no {ns : Tr} {b : Int} {k : Nat} (h : ¬ b = Tr.l ns k) : Cp.out ns b (k + 1) = Cp.out ns b k := by rw [Cp.out, if_neg h]
theorem Cp.row_add (a : Int) (zs : List Int) (z : Int) : Cp.row a (zs ++ [z]) = Cp.row a zs ++ [(a, z)] := by simp [Cp.row]
theorem Cp.to_len (ms ns : Tr) : ∀ i, (Cp.to ms ns i).length ≤ i * ns.length
  | 0 => by simp [Cp.to]
  | i + 1 => by
    have h := Cp.to_len ms ns i
    have h2 := Cp.out_len ns (Tr.d ms i) ns.length
    rw [Cp.to, List.length_append, Cp.row_len, Nat.succ_mul]
    omega
theorem Cp.to_bound (ms ns : Tr) {i : Nat} (hi : i ≤ 1048576) (hn : ns.length ≤ 1048576) : (Cp.to ms ns i).length ≤ 1099511627776 := Nat.le_trans (Cp.to_len ms ns i) (Nat.mul_le_mul hi hn)
theorem Cp.all_bound (ms ns : Tr) (hi : ms.length ≤ 1048576) (hn : ns.length ≤ 1048576) : (Cp.all ms ns).length ≤ 1099511627776 := Cp.to_bound ms ns hi hn
open Go.RowKit in
/-- one pair appended to a row of one's own, however long -/
theorem step_append_pair {P : Program} {ops : Array Oper} {o : Oper} {a : Act} (w : World) {K : Act → World → Prop} {Q : Exit → Act → World → Prop} {E : Prop} (hgd : o.guard = none) (s x : Operand) (t : TypeId)
    (ho : o.op = .call { callee := .builtin .append, args := #[s, x], argTypes := #[t, t] })
    (base : Nat) (e : TypeId) (i : TypeInfo) (ht : P.underlying t = some (.slice e)) (hi : P.info? e = some i) (hz : i.zero = some (.agg #[.int .i64 0, .int .i64 0]))
    (hsize : i.size = 2) (hby : i.bytes = 16) (v : Value) (n : Nat) (l : Tr) (hs : a.eval s = v) (hown : w.ownsRow base e 2 v n (Tr.cells l)) (hn : n = l.length)
    (b1 b2 : Int) (hx : a.eval x = .slice (some ⟨w.heap.size, 0, none⟩) 1 1)
    (h63 : l.length + 1 ≤ 4398046511104) (hbase : base ≤ w.heap.size)
    (h : ∀ v' w', w'.ownsRow base e 2 v' (l ++ [(b1, b2)]).length (Tr.cells (l ++ [(b1, b2)])) → (w.alloc (.cells #[.int .i64 b1, .int .i64 b2] e)).grownBy w' v.ownBlock → K (a.put o.dst v') w') :
    if Region.wanted o (yielded ops a.tmps) = true then Oper.wp P o a (w.alloc (.cells #[.int .i64 b1, .int .i64 b2] e)) K Q else E := by
  have hw : Region.wanted o (yielded ops a.tmps) = true := by simp [Region.wanted, hgd]
  rw [if_pos hw]
  subst hn
  refine wp_append_own _ s x t ho base e i (.agg #[.int .i64 0, .int .i64 0]) 2 16 ht hi hz hsize hby rfl (by decide) v l.length (Tr.cells l) hs (hown.alloc _) ⟨w.heap.size, 0, none⟩ 1 1 (Tr.cells [(b1, b2)]) hx (by simp [Tr.cells]) ?_ (Tr.cells_cell _) (by unfold maxLen; omega) (by omega) (by simp; omega) ?_
  · intro j u hj
    have hj2 : j < 2 := by
      have := (List.getElem?_eq_some_iff.1 hj).1
      simpa [Tr.cells] using this
    have : j = 0 ∨ j = 1 := by omega
    rcases this with rfl | rfl <;> (simp [Tr.cells] at hj; subst hj; simp [Addr.add])
  · intro v' w' h2 h3 _
    refine h v' w' ?_ h3
    rw [Tr.cells_append, List.length_append]
    exact h2

end Go.Proofs.Ytlndaflhlkbedaa

/- Contracts (Bm). -/
namespace Go.Proofs.Ytlndaflhlkbedaa
open Go.RowKit
set_option linter.unusedVariables false

/-- pairs of a mapping of least cost between two ranges of places; cmb lays a pair beside what stands ahead of it and below it -/
def Bm.go (cmb : Tr → Nat → Nat → Tr → Tr) (xs ys : Tr) (k : Co) (i j p q : Nat) : Tr :=
  if j ≤ i ∨ q ≤ p then []
  else if RR xs ys k i j p q = RR xs ys k i (j - 1) p q + Co.del k (Tr.xa xs (j - 1)) then Bm.go cmb xs ys k i (j - 1) p q
  else if RR xs ys k i j p q = RR xs ys k i j p (q - 1) + Co.ins k (Tr.xa ys (q - 1)) then Bm.go cmb xs ys k i j p (q - 1)
  else cmb (Bm.go cmb xs ys k i (min (j - 1) (max i (Tr.la xs (j - 1)))) p (min (q - 1) (max p (Tr.la ys (q - 1))))) (j - 1) (q - 1)
    (Bm.go cmb xs ys k (min (j - 1) (max i (Tr.la xs (j - 1)))) (j - 1) (min (q - 1) (max p (Tr.la ys (q - 1)))) (q - 1))
termination_by (j - i) + (q - p)
decreasing_by all_goals omega
/-- the last ones of both together -/
def Bm.mt (cmb : Tr → Nat → Nat → Tr → Tr) (xs ys : Tr) (k : Co) (i j p q : Nat) : Tr :=
  cmb (Bm.go cmb xs ys k i (max i (Tr.la xs (j - 1))) p (max p (Tr.la ys (q - 1)))) (j - 1) (q - 1)
    (Bm.go cmb xs ys k (max i (Tr.la xs (j - 1))) (j - 1) (max p (Tr.la ys (q - 1))) (q - 1))
/-- the node at a place -/
def Tr.nd (xs : Tr) (u : Nat) : Nat := (Tr.post xs).getD u 0
/-- the model's order: by places, the pair last -/
def Bm.cS (a : Tr) (u v : Nat) (b : Tr) : Tr := a ++ b ++ [((u : Int), (v : Int))]
/-- the program's order: nodes, the pair between -/
def Bm.cP (xs ys : Tr) (a : Tr) (u v : Nat) (b : Tr) : Tr := a ++ [((Tr.nd xs u : Int), (Tr.nd ys v : Int))] ++ b
section
variable {cmb : Tr → Nat → Nat → Tr → Tr} {xs ys : Tr} {k : Co} {i j p q : Nat}
theorem Bm.go_none (h : j ≤ i ∨ q ≤ p) : Bm.go cmb xs ys k i j p q = [] := by rw [Bm.go, if_pos h]
theorem Bm.go_del (h1 : i < j) (h2 : p < q) (h : RR xs ys k i j p q = RR xs ys k i (j - 1) p q + Co.del k (Tr.xa xs (j - 1))) : Bm.go cmb xs ys k i j p q = Bm.go cmb xs ys k i (j - 1) p q := by
  rw [Bm.go, if_neg (by omega), if_pos h]
theorem Bm.go_ins (h1 : i < j) (h2 : p < q) (h : ¬ RR xs ys k i j p q = RR xs ys k i (j - 1) p q + Co.del k (Tr.xa xs (j - 1))) (h' : RR xs ys k i j p q = RR xs ys k i j p (q - 1) + Co.ins k (Tr.xa ys (q - 1))) : Bm.go cmb xs ys k i j p q = Bm.go cmb xs ys k i j p (q - 1) := by
  rw [Bm.go, if_neg (by omega), if_neg h, if_pos h']
theorem Bm.go_both (hx : Tr.ok xs = true) (hy : Tr.ok ys = true) (h1 : i < j) (h2 : p < q) (hj : j ≤ xs.length) (hq : q ≤ ys.length) (h : ¬ RR xs ys k i j p q = RR xs ys k i (j - 1) p q + Co.del k (Tr.xa xs (j - 1))) (h' : ¬ RR xs ys k i j p q = RR xs ys k i j p (q - 1) + Co.ins k (Tr.xa ys (q - 1))) :
    Bm.go cmb xs ys k i j p q = Bm.mt cmb xs ys k i j p q := by
  have a := (Tr.la_nest hx (j - 1) (by omega)).1
  have b := (Tr.la_nest hy (q - 1) (by omega)).1
  rw [Bm.go, if_neg (by omega), if_neg h, if_neg h', show min (j - 1) (max i (Tr.la xs (j - 1))) = max i (Tr.la xs (j - 1)) by omega, show min (q - 1) (max p (Tr.la ys (q - 1))) = max p (Tr.la ys (q - 1)) by omega]
  rfl
/-- what holds of each step holds of the whole -/
theorem Bm.go_ind {M : Nat → Nat → Nat → Nat → Tr → Prop} (hx : Tr.ok xs = true) (hy : Tr.ok ys = true)
    (h0 : ∀ i j p q, j ≤ i ∨ q ≤ p → M i j p q [])
    (h1 : ∀ i j p q L, i < j → p < q → j ≤ xs.length → q ≤ ys.length → RR xs ys k i j p q = RR xs ys k i (j - 1) p q + Co.del k (Tr.xa xs (j - 1)) → M i (j - 1) p q L → M i j p q L)
    (h2 : ∀ i j p q L, i < j → p < q → j ≤ xs.length → q ≤ ys.length → ¬ RR xs ys k i j p q = RR xs ys k i (j - 1) p q + Co.del k (Tr.xa xs (j - 1)) → RR xs ys k i j p q = RR xs ys k i j p (q - 1) + Co.ins k (Tr.xa ys (q - 1)) → M i j p (q - 1) L → M i j p q L)
    (h3 : ∀ i j p q P Q A B, i < j → p < q → j ≤ xs.length → q ≤ ys.length → P = max i (Tr.la xs (j - 1)) → Q = max p (Tr.la ys (q - 1)) → P ≤ j - 1 → Q ≤ q - 1 → ¬ RR xs ys k i j p q = RR xs ys k i (j - 1) p q + Co.del k (Tr.xa xs (j - 1)) → ¬ RR xs ys k i j p q = RR xs ys k i j p (q - 1) + Co.ins k (Tr.xa ys (q - 1)) → RR xs ys k i j p q = RR xs ys k i P p Q + RR xs ys k P (j - 1) Q (q - 1) + Co.rel k (Tr.xa xs (j - 1)) (Tr.xa ys (q - 1)) →
      M i P p Q A → M P (j - 1) Q (q - 1) B → M i j p q (cmb A (j - 1) (q - 1) B)) :
    ∀ (s i j p q : Nat), (j - i) + (q - p) < s → j ≤ xs.length → q ≤ ys.length → M i j p q (Bm.go cmb xs ys k i j p q) := by
  intro s
  induction s with
  | zero => intro i j p q h; omega
  | succ s ih =>
    intro i j p q hs hj hq
    by_cases e : j ≤ i ∨ q ≤ p
    · rw [Bm.go_none e]; exact h0 i j p q e
    · by_cases a : RR xs ys k i j p q = RR xs ys k i (j - 1) p q + Co.del k (Tr.xa xs (j - 1))
      · rw [Bm.go_del (by omega) (by omega) a]; exact h1 i j p q _ (by omega) (by omega) hj hq a (ih i (j - 1) p q (by omega) (by omega) hq)
      · by_cases b : RR xs ys k i j p q = RR xs ys k i j p (q - 1) + Co.ins k (Tr.xa ys (q - 1))
        · rw [Bm.go_ins (by omega) (by omega) a b]; exact h2 i j p q _ (by omega) (by omega) hj hq a b (ih i j p (q - 1) (by omega) hj (by omega))
        · have la1 := (Tr.la_nest hx (j - 1) (by omega)).1
          have lb1 := (Tr.la_nest hy (q - 1) (by omega)).1
          rw [Bm.go_both hx hy (by omega) (by omega) hj hq a b]
          refine h3 i j p q _ _ _ _ (by omega) (by omega) hj hq rfl rfl (by omega) (by omega) a b ?_ (ih _ _ _ _ (by omega) (by omega) (by omega)) (ih _ _ _ _ (by omega) (by omega) (by omega))
          have := RD_both (K := Co.cs k) (x := Tr.xa xs) (y := Tr.xa ys) (Tr.la_nest hx) (Tr.la_nest hy) (i := i) (j := j - 1) (k := p) (l := q - 1) (by omega) (by omega) (by omega) (by omega)
          rw [show j - 1 + 1 = j by omega, show q - 1 + 1 = q by omega] at this
          have t : RR xs ys k i j p q = min (min (RR xs ys k i (j - 1) p q + Co.del k (Tr.xa xs (j - 1))) (RR xs ys k i j p (q - 1) + Co.ins k (Tr.xa ys (q - 1)))) (RR xs ys k i (max i (Tr.la xs (j - 1))) p (max p (Tr.la ys (q - 1))) + RR xs ys k (max i (Tr.la xs (j - 1))) (j - 1) (max p (Tr.la ys (q - 1))) (q - 1) + Co.rel k (Tr.xa xs (j - 1)) (Tr.xa ys (q - 1))) := this
          omega
end
section
variable {xs : Tr} (hok : Tr.ok xs = true)
include hok
theorem Tr.nd_at {u : Nat} (hu : u < xs.length) : Tr.nd xs u < xs.length ∧ Tr.rk xs (Tr.nd xs u) = u ∧ Tr.la xs u = Tr.nd xs u - Tr.dn xs (Tr.nd xs u) ∧ Tr.xa xs u = Tr.l xs (Tr.nd xs u) := by
  obtain ⟨i, h1, h2, h3, h4, h5⟩ := Tr.la_at hok hu
  have : Tr.nd xs u = i := by unfold Tr.nd; rw [List.getD_eq_getElem?_getD, h5]; rfl
  rw [this]
  exact ⟨h1, h2, h3, h4⟩
theorem Tr.nd_rk {i : Nat} (hi : i < xs.length) : Tr.nd xs (Tr.rk xs i) = i := by
  unfold Tr.nd; rw [List.getD_eq_getElem?_getD, Tr.post_rk hok hi]; rfl
/-- ahead of v's first leaf: ahead of v -/
theorem Tr.nd_ahead {u v : Nat} (hv : v < xs.length) (h : u < Tr.la xs v) : Tr.nd xs u < Tr.nd xs v := by
  have l1 := (Tr.la_nest hok v hv).1
  obtain ⟨a1, a2, a3, _⟩ := Tr.nd_at hok (u := u) (by omega)
  obtain ⟨b1, b2, b3, _⟩ := Tr.nd_at hok hv
  rcases Nat.lt_or_ge (Tr.nd xs u) (Tr.nd xs v) with c | c
  · exact c
  · have := Tr.rk_ge hok c a1
    omega
/-- from v's first leaf on: below v -/
theorem Tr.nd_below {u v : Nat} (hv : v < xs.length) (h : Tr.la xs v ≤ u) (huv : u < v) : Tr.nd xs v < Tr.nd xs u ∧ Tr.nd xs u < Tr.endN xs (Tr.nd xs v) := by
  obtain ⟨a1, a2, a3, _⟩ := Tr.nd_at hok (u := u) (by omega)
  obtain ⟨b1, b2, b3, _⟩ := Tr.nd_at hok hv
  have d1 := Tr.dn_le hok a1
  have hlt : Tr.nd xs v < Tr.nd xs u := by
    rcases Nat.lt_trichotomy (Tr.nd xs u) (Tr.nd xs v) with c | c | c
    · by_cases hu : Tr.nd xs v < Tr.endN xs (Tr.nd xs u)
      · have := Tr.rk_under hok a1 c hu; omega
      · have g := Tr.gap_mono hok (i := Tr.endN xs (Tr.nd xs u)) (j := Tr.nd xs v) (by omega) b1
        have e := Tr.endN_dn hok a1
        have r : Tr.rk xs (Tr.nd xs u) = Tr.endN xs (Tr.nd xs u) - 1 - Tr.dn xs (Tr.nd xs u) := rfl
        rcases e.2.2.2 with f | ⟨f1, f2⟩
        · omega
        · omega
    · rw [c] at a2; omega
    · exact c
  refine ⟨hlt, ?_⟩
  rcases Nat.lt_or_ge (Tr.nd xs u) (Tr.endN xs (Tr.nd xs v)) with c | c
  · exact c
  · have := Tr.rk_left hok b1 c a1; omega
theorem Tr.nd_not {u v : Nat} (huv : u ≤ v) (hv : v < xs.length) : Tr.under xs (Tr.nd xs u : Int) (Tr.nd xs v : Int) = false := by
  obtain ⟨a1, a2, a3, _⟩ := Tr.nd_at hok (u := u) (by omega)
  obtain ⟨b1, b2, b3, _⟩ := Tr.nd_at hok hv
  cases e : Tr.under xs (Tr.nd xs u : Int) (Tr.nd xs v : Int) with
  | false => rfl
  | true =>
    simp only [Tr.under, Bool.and_eq_true, decide_eq_true_eq] at e
    obtain ⟨⟨⟨e1, e2⟩, e3⟩, e4⟩ := e
    rw [Tr.endOf_yes e1] at e4
    have := Tr.rk_under hok a1 (by omega) (show Tr.nd xs v < Tr.endN xs (Tr.nd xs u) by omega)
    omega
theorem Tr.has_nd {u : Nat} (hu : u < xs.length) : Tr.has xs (Tr.nd xs u : Int) = true := by
  have := (Tr.nd_at hok hu).1
  rw [Tr.has_iff]
  exact ⟨hok, by omega, by omega⟩
theorem Tr.nd_yes {u v : Nat} (hv : v < xs.length) (h : Tr.la xs v ≤ u) (huv : u < v) : Tr.under xs (Tr.nd xs v : Int) (Tr.nd xs u : Int) = true := by
  obtain ⟨c1, c2⟩ := Tr.nd_below hok hv h huv
  unfold Tr.under
  rw [Tr.has_nd hok hv, Tr.has_nd hok (show u < xs.length by omega), Tr.endOf_yes (Tr.has_nd hok hv), decide_eq_true (by omega), decide_eq_true (by omega)]
  rfl
end

end Go.Proofs.Ytlndaflhlkbedaa

/- Contracts (DtM). -/
namespace Go.Proofs.Ytlndaflhlkbedaa
open Go.RowKit
set_option linter.unusedVariables false

/-- the subtree at node x, as a tree of its own -/
def Sb (xs : Tr) (x : Nat) : Tr := Tr.subTo xs x (Tr.endN xs x)
section
variable {xs : Tr} {x : Nat}
theorem Sb.len (xs : Tr) (x : Nat) : (Sb xs x).length = Tr.endN xs x - x := Tr.subTo_length _ _ _
theorem Sb.l {v : Nat} (hv : v < Tr.endN xs x - x) : Tr.l (Sb xs x) v = Tr.l xs (x + v) := by simp [Sb, Tr.l, Tr.subTo, List.getD_eq_getElem?_getD, hv]
theorem Sb.d {v : Nat} (hv : v < Tr.endN xs x - x) : Tr.d (Sb xs x) v = Tr.d xs (x + v) - Tr.d xs x := by simp [Sb, Tr.d, Tr.subTo, List.getD_eq_getElem?_getD, hv]
end
section
variable {xs : Tr} (hok : Tr.ok xs = true) {x : Nat} (hx : x < xs.length)
include hok hx
theorem Sb.ok : Tr.ok (Sb xs x) = true := by
  obtain ⟨e1, e2, e3, e4⟩ := Tr.endN_spec xs x hx
  have h24 := (Tr.ok_iff.1 hok).2
  have hl := Sb.len xs x
  refine Tr.ok_iff.2 ⟨fun v hv => ?_, by omega, by omega⟩
  rw [hl] at hv
  have a := Tr.ok_at hok (k := x + v) (by omega)
  have b := Tr.ok_at hok (k := x) hx
  have c0 := Sb.l (xs := xs) (x := x) hv
  have c1 := Sb.d (xs := xs) (x := x) hv
  have key : (0 ≤ Tr.l (Sb xs x) v ∧ Tr.l (Sb xs x) v ≤ 5) ∧ (0 ≤ Tr.d (Sb xs x) v ∧ Tr.d (Sb xs x) v ≤ 12) ∧ (Tr.d (Sb xs x) v = 0 ↔ v = 0) ∧ (v = 0 ∨ Tr.d (Sb xs x) v ≤ Tr.d (Sb xs x) (v - 1) + 1) := by
    rw [c0, c1]
    by_cases hv0 : v = 0
    · subst hv0
      simp only [Nat.add_zero] at a ⊢
      exact ⟨a.1, by omega, by simp, by simp⟩
    · have d1 := e3 (x + v) (by omega) (by omega)
      have c2 := Sb.d (xs := xs) (x := x) (v := v - 1) (by omega)
      rw [c2]
      have a4 := a.2.2.2
      rw [show x + v - 1 = x + (v - 1) by omega] at a4
      refine ⟨a.1, by omega, ⟨fun h => by omega, fun h => absurd h hv0⟩, .inr ?_⟩
      rcases a4 with h | h
      · omega
      · omega
  simpa [Tr.okAt] using key
theorem Sb.dn {v : Nat} (hv : v < Tr.endN xs x - x) : Tr.dn (Sb xs x) v + Tr.dn xs x = Tr.dn xs (x + v) := by
  obtain ⟨e1, e2, e3, e4⟩ := Tr.endN_spec xs x hx
  have h1 := Tr.dn_eq (Sb.ok hok hx) (i := v) (by rw [Sb.len]; exact hv)
  have h2 := Tr.dn_eq hok (i := x) hx
  have h3 := Tr.dn_eq hok (i := x + v) (by omega)
  rw [Sb.d hv] at h1
  omega
theorem Sb.endN {v : Nat} (hv : v < Tr.endN xs x - x) : Tr.endN (Sb xs x) v + x = Tr.endN xs (x + v) := by
  obtain ⟨e1, e2, e3, e4⟩ := Tr.endN_spec xs x hx
  obtain ⟨f1, f2, f3, f4⟩ := Tr.endN_spec xs (x + v) (by omega)
  have hle : Tr.endN xs (x + v) ≤ Tr.endN xs x := by
    by_cases h0 : v = 0
    · subst h0; exact Nat.le_refl _
    · exact Tr.endN_in hok hx (by omega) (by omega)
  have := Tr.endN_is (xs := Sb xs x) (i := v) (k := Tr.endN xs (x + v) - x) (by omega) (by rw [Sb.len]; omega) (fun j h1 h2 => by
      have := f3 (x + j) (by omega) (by omega)
      rw [Sb.d hv, Sb.d (show j < Tr.endN xs x - x by omega)]
      omega) (by
      by_cases h : Tr.endN xs (x + v) = Tr.endN xs x
      · exact .inl (by rw [Sb.len, h])
      · refine .inr ?_
        rcases f4 with f | f
        · omega
        · rw [Sb.d (show Tr.endN xs (x + v) - x < Tr.endN xs x - x by omega), Sb.d hv, show x + (Tr.endN xs (x + v) - x) = Tr.endN xs (x + v) by omega]
          omega)
  omega
theorem Sb.rk {v : Nat} (hv : v < Tr.endN xs x - x) : Tr.rk (Sb xs x) v + (x - Tr.dn xs x) = Tr.rk xs (x + v) := by
  have h1 := Sb.dn hok hx hv
  have h2 := Sb.endN hok hx hv
  obtain ⟨e1, e2, e3, e4⟩ := Tr.endN_spec xs x hx
  have f1 := (Tr.endN_spec xs (x + v) (by omega)).1
  have g := Tr.gap_mono hok (i := x) (j := x + v) (by omega) (by omega)
  have d1 := Tr.dn_le hok hx
  unfold Tr.rk
  omega
/-- first leaves and labels of the subtree are the tree's, shifted -/
theorem Sb.at {p : Nat} (hp : p < Tr.endN xs x - x) : Tr.la xs (x - Tr.dn xs x + p) = x - Tr.dn xs x + Tr.la (Sb xs x) p ∧ Tr.xa xs (x - Tr.dn xs x + p) = Tr.xa (Sb xs x) p := by
  obtain ⟨a1, a2, a3, a4⟩ := Tr.nd_at (Sb.ok hok hx) (u := p) (by rw [Sb.len]; exact hp)
  obtain ⟨v, hv⟩ : ∃ v, v = Tr.nd (Sb xs x) p := ⟨_, rfl⟩
  rw [← hv] at a1 a2 a3 a4
  rw [Sb.len] at a1
  obtain ⟨e1, e2, e3, e4⟩ := Tr.endN_spec xs x hx
  have h1 := Sb.rk hok hx a1
  have h2 := Sb.dn hok hx a1
  have d1 := Tr.dn_le hok hx
  have d2 := Tr.dn_le hok (i := x + v) (by omega)
  have g := Tr.gap_mono hok (i := x) (j := x + v) (by omega) (by omega)
  have hr : x - Tr.dn xs x + p = Tr.rk xs (x + v) := by omega
  have hn := Tr.nd_rk hok (i := x + v) (by omega)
  rw [← hr] at hn
  have hlt := Tr.rk_lt hok (i := x + v) (by omega)
  obtain ⟨b1, b2, b3, b4⟩ := Tr.nd_at hok (u := x - Tr.dn xs x + p) (by omega)
  rw [hn] at b3 b4
  rw [b3, b4, a3, a4, Sb.l a1]
  exact ⟨by omega, rfl⟩
theorem Sb.fr : ∀ (m p j : Nat), j - p = m → p ≤ j → j ≤ Tr.endN xs x - x → fr (Tr.la (Sb xs x)) (Tr.xa (Sb xs x)) p j = fr (Tr.la xs) (Tr.xa xs) (x - Tr.dn xs x + p) (x - Tr.dn xs x + j) := by
  intro m
  induction m using Nat.strongRecOn with
  | _ m ih =>
    intro p j hm hpj hj
    by_cases e : j ≤ p
    · rw [fr_nil e, fr_nil (by omega)]
    · obtain ⟨a, b⟩ := Sb.at hok hx (p := j - 1) (by omega)
      rw [fr.eq_1 (Tr.la (Sb xs x)), fr.eq_1 (Tr.la xs), if_neg e, if_neg (by omega)]
      have e1 : x - Tr.dn xs x + j - 1 = x - Tr.dn xs x + (j - 1) := by omega
      rw [e1, a, b]
      have e2 : min (x - Tr.dn xs x + (j - 1)) (max (x - Tr.dn xs x + p) (x - Tr.dn xs x + Tr.la (Sb xs x) (j - 1))) = x - Tr.dn xs x + min (j - 1) (max p (Tr.la (Sb xs x) (j - 1))) := by omega
      rw [e2, ← ih (min (j - 1) (max p (Tr.la (Sb xs x) (j - 1))) - p) (by omega) p _ rfl (by omega) (by omega), ← ih (j - 1 - min (j - 1) (max p (Tr.la (Sb xs x) (j - 1)))) (by omega) _ (j - 1) rfl (by omega) (by omega)]
end
theorem Sb.place {xs : Tr} (hok : Tr.ok xs = true) {i : Nat} (hi : i < xs.length) : Tr.subTree xs (Tr.nd xs i : Int) = Sb xs (Tr.nd xs i) ∧ Tr.ok (Sb xs (Tr.nd xs i)) = true ∧ Tr.la xs i = Tr.nd xs i - Tr.dn xs (Tr.nd xs i) ∧ i + 1 = Tr.la xs i + (Sb xs (Tr.nd xs i)).length := by
  obtain ⟨a1, a2, a3, _⟩ := Tr.nd_at hok hi
  have h := Tr.has_nd hok hi
  have d := Tr.dn_le hok a1
  have e := (Tr.endN_spec xs _ a1).1
  have r : Tr.rk xs (Tr.nd xs i) = Tr.endN xs (Tr.nd xs i) - 1 - Tr.dn xs (Tr.nd xs i) := rfl
  exact ⟨by rw [Tr.subTree_yes h]; rfl, Sb.ok hok a1, a3, by rw [Sb.len, a3]; omega⟩
theorem Sb.dist {xs ys : Tr} {k : Co} (hx : Tr.ok xs = true) (hy : Tr.ok ys = true) (hk : Co.ok k = true) {i j : Nat} (hi : i < xs.length) (hj : j < ys.length) :
    Tr.dist (Tr.subTree xs (Tr.nd xs i : Int)) (Tr.subTree ys (Tr.nd ys j : Int)) k = TT xs ys k i j := by
  obtain ⟨a1, a2, a3, a4⟩ := Sb.place hx hi
  obtain ⟨b1, b2, b3, b4⟩ := Sb.place hy hj
  have n1 := (Tr.len24 a2).1
  have n2 := (Tr.len24 b2).1
  have c1 := (Tr.nd_at hx hi).1
  have c2 := (Tr.nd_at hy hj).1
  rw [a1, b1]
  unfold Tr.dist
  rw [a2, b2, hk]
  simp only [Bool.and_self, if_true]
  rw [TT_eq, TT_eq, Tr.la_last a2, Tr.la_last b2]
  rw [show (Sb xs (Tr.nd xs i)).length - 1 + 1 = (Sb xs (Tr.nd xs i)).length by omega, show (Sb ys (Tr.nd ys j)).length - 1 + 1 = (Sb ys (Tr.nd ys j)).length by omega, a4, b4]
  show FD (Co.cs k) (_root_.Go.Proofs.Ytlndaflhlkbedaa.fr _ _ _ _) (_root_.Go.Proofs.Ytlndaflhlkbedaa.fr _ _ _ _) = FD (Co.cs k) (_root_.Go.Proofs.Ytlndaflhlkbedaa.fr _ _ _ _) (_root_.Go.Proofs.Ytlndaflhlkbedaa.fr _ _ _ _)
  rw [Sb.fr hx c1 _ 0 _ rfl (Nat.zero_le _) (by rw [Sb.len]; exact Nat.le_refl _), Sb.fr hy c2 _ 0 _ rfl (Nat.zero_le _) (by rw [Sb.len]; exact Nat.le_refl _), ← a3, ← b3]
  rfl

end Go.Proofs.Ytlndaflhlkbedaa

/- Contracts (SubS). -/
namespace Go.Proofs.Ytlndaflhlkbedaa
open Go.RowKit
set_option linter.unusedVariables false

theorem info_ndS : (Try.prog.info? 42).map (fun i => (i.zero, i.size, i.bytes)) = some (some (.agg #[.int .i64 0, .int .i64 0]), 2, 16) := by kernel_rfl

set_option maxHeartbeats 800000 in
set_option maxRecDepth 100000 in
theorem specSubTree_any (A : Option Addr) (n c : Nat) (xs : Tr) (i : Int) (w : World) (h : NdIn w w.heap.size A n xs) (hn : n ≤ 1048576) :
    Calls Try.prog 29 #[.slice A n c, .int .i64 i] w (OwnNodes 42 (Tr.subTree xs i) w) := by
  have H := Lib.hid h
  clear h
  have HL := Lib.hid H.out.1
  obtain ⟨i0, hi, hz0, hz1, hz2⟩ := info_parts info_ndS
  rcases hok : Tr.has xs i with _ | _
  · have Hf := Lib.hid (Tr.subTree_no hok)
    have Hok := Lib.hid hok
    clear hok
    go_enter Try.func29, Try.ntmps29
    go_wp2
    refine wp_loop_rounds 1 ?_
    rw [rounds_succ]
    go_wp2_with fail
    refine (l3At_any _ _ _ xs _ _ ((H.out.to_below ((Below.refl _ _).alloc (Nat.le_refl _) _))) hn).mono ?_
    rintro e w1 ⟨rfl, hd1⟩
    have HB := Lib.hid (Drawn.below ((Below.refl w.heap.size w).alloc (Nat.le_refl _) _) hd1)
    have Ho := Lib.hid (own_drawn (World.ownsRow_lit (e := 42) (size := 2) w #[] 0 (Nat.le_refl _) (Nat.zero_le _) rfl) hd1)
    clear hd1
    rw [Hok.out]
    go_wp2
    go_ret
    exact ⟨_, _, by rw [Hf.out]; rfl, by rw [Hf.out]; exact Ho.out, HB.out⟩
  · have h1 := (Tr.has_iff.1 hok).2
    have h0 := (Tr.has_iff.1 hok).1
    rw [HL.out] at h1
    have hbd := Lib.hid fun k => Tr.ok_at (xs := xs) h0 (k := k)
    obtain ⟨j, rfl⟩ := Int.eq_ofNat_of_zero_le h1.1
    have hj : j < n := by omega
    have Hf := Lib.hid (Tr.subTree_yes hok)
    have He := Lib.hid (Tr.endOf_yes hok)
    have hE := Tr.endN_spec xs j (by rw [HL.out]; exact hj)
    have hE1 := hE.1
    have hE2 := hE.2.1
    rw [HL.out] at hE2
    have Hok := Lib.hid hok
    clear hok h1 h0 hE
    go_enter Try.func29, Try.ntmps29
    go_wp2
    go_loopw [6, 5] (fun kv ov wr => ∃ k : Nat, j ≤ k ∧ k ≤ Tr.endN xs j ∧ kv = .int .i64 k ∧ wr.ownsRow w.heap.size 42 2 ov (Tr.subTo xs j k).length (Tr.cells (Tr.subTo xs j k)) ∧ Below w.heap.size w wr) (fun k _ _ => n - (intOf k).toNat)
    case atStart => exact ⟨j, by omega, by omega, rfl, by rw [show Tr.subTo xs j j = [] by simp [Tr.subTo]]; exact World.ownsRow_lit w #[] 0 (Nat.le_refl _) (Nat.zero_le _) rfl, (Below.refl _ _).alloc (Nat.le_refl _) _⟩
    case round =>
      obtain ⟨k, hjk, hk, rfl, hown, hB⟩ := hrel
      have hz := Lib.hid (H.out.to_below hB)
      have Ho := Lib.hid hown
      have HB := Lib.hid hB
      clear hown hB
      go_wp2_with fail
      refine (l3At_any _ _ _ xs _ _ hz.out hn).mono ?_
      rintro e w1 ⟨rfl, hd1⟩
      have hz := Lib.hid (hz.out.to_drawn hd1)
      have Ho := Lib.hid (own_drawn Ho.out hd1)
      have HB := Lib.hid (Drawn.below HB.out hd1)
      clear hd1
      rw [Hok.out]
      go_wp2_with fail
      refine (specEndOf_any _ _ _ xs _ _ hz.out hn).mono ?_
      rintro e w2 ⟨rfl, hd2⟩
      have hz := Lib.hid (hz.out.to_drawn hd2)
      have Ho := Lib.hid (own_drawn Ho.out hd2)
      have HB := Lib.hid (Drawn.below HB.out hd2)
      have hsz2 := HB.out.size
      clear hd2
      rw [He.out]
      by_cases hlt : k < Tr.endN xs j
      · obtain ⟨ad, rfl, hb, hl, hd⟩ := hz.out.at_ (k := k) (by omega)
        obtain ⟨hl', hd'⟩ := hz.out.here hj
        clear hl'
        have Hs := Lib.hid (Tr.subTo_succ xs j k hjk)
        have Hlen := Lib.hid (Tr.subTo_length xs j k)
        have hk0 : (0 : Int) ≤ (k : Int) := by omega
        have hj0 : (0 : Int) ≤ (j : Int) := by omega
        have hbj := (hbd.out j (by rw [HL.out]; exact hj)).2.1
        have hbk := (hbd.out k (by rw [HL.out]; omega)).2.1
        have hklt : (k : Int) < (n : Int) := by omega
        have hjlt : (j : Int) < (n : Int) := by omega
        have a5 : IntKind.i64.wrap (Tr.d xs k - Tr.d xs j) = Tr.d xs k - Tr.d xs j := Kit.w64 (by omega) (by omega)
        go_wp2
        go_region_law ((refine step_append_node w2.drew rfl _ _ 24 rfl w.heap.size 42 i0 Try.underlying24 hi hz0 hz1 hz2 u5 (Tr.subTo xs j k).length (Tr.subTo xs j k) rfl Ho.out.drew rfl (Tr.l xs k) (Tr.d xs k - Tr.d xs j) rfl (by rw [Hlen.out]; omega) hsz2 ?_; intro v' w3 hown3 hgrow3))
        all_goals
          clear a5
          have hb3 := Kit.below_own HB.out.drew Ho.out.drew hgrow3
          go_wp2
          go_roundw
          case rel => exact ⟨k + 1, by omega, by omega, by go_num, by rw [Hs.out]; exact hown3, hb3⟩
          case measure => simp [intOf]; omega
      · obtain rfl : k = Tr.endN xs j := by omega
        obtain ⟨A', c', rfl⟩ := own_slice Ho.out
        go_wp2
        go_ret
        exact ⟨A', c', by rw [Hf.out]; rfl, by rw [Hf.out]; exact Ho.out, HB.out⟩

end Go.Proofs.Ytlndaflhlkbedaa

/- Contracts (At). -/
namespace Go.Proofs.Ytlndaflhlkbedaa
open Go.RowKit
set_option linter.unusedVariables false

set_option maxHeartbeats 800000 in
set_option maxRecDepth 100000 in
theorem at0_any (a : Option Addr) (n cap : Nat) (cs : List Int) (w : World) (h : CodeIn w w.heap.size a cs) (hn : cs.length = n) (hl : n ≤ 1048576) :
    Calls Try.prog 24 #[.slice a n cap, .int .i64 0] w fun e w' => (∃ z : Nat, z < 256 ∧ e = .returned (.int .i64 (z : Int))) ∧ Below w.heap.size w w' := by
  by_cases h1 : 0 < n
  · obtain ⟨b, off, rfl, hb, hc, h0, h256⟩ := h 0 (by omega)
    obtain ⟨z, hz⟩ := Int.eq_ofNat_of_zero_le h0
    rw [hz] at hc h256
    rw [Nat.add_zero] at hc
    have a0 : IntKind.i64.wrap (z : Int) = (z : Int) := Kit.w64 (by omega) (by omega)
    have g0 : decide (0 < n) = true := decide_eq_true h1
    have g1 : (0 : Int) < (n : Int) := by omega
    have hz2 : z < 256 := by omega
    clear h hz h0 h256 hn
    go_enter Try.func24, Try.ntmps24
    go_wp2
    go_ret
    exact ⟨⟨z, hz2, rfl⟩, Below.refl _ _⟩
  · have g0 : decide (0 < n) = false := decide_eq_false h1
    obtain rfl : n = 0 := by omega
    go_enter Try.func24, Try.ntmps24
    go_wp2
    go_ret
    exact ⟨⟨0, by omega, rfl⟩, Below.refl _ _⟩
set_option maxHeartbeats 800000 in
set_option maxRecDepth 100000 in
theorem at1_any (a : Option Addr) (n cap : Nat) (cs : List Int) (w : World) (h : CodeIn w w.heap.size a cs) (hn : cs.length = n) (hl : n ≤ 1048576) :
    Calls Try.prog 24 #[.slice a n cap, .int .i64 1] w fun e w' => (∃ z : Nat, z < 256 ∧ e = .returned (.int .i64 (z : Int))) ∧ Below w.heap.size w w' := by
  by_cases h1 : 1 < n
  · obtain ⟨b, off, rfl, hb, hc, h0, h256⟩ := h 1 (by omega)
    obtain ⟨z, hz⟩ := Int.eq_ofNat_of_zero_le h0
    rw [hz] at hc h256 
    skip
    have a0 : IntKind.i64.wrap (z : Int) = (z : Int) := Kit.w64 (by omega) (by omega)
    have g0 : decide (1 < n) = true := decide_eq_true h1
    have g1 : (1 : Int) < (n : Int) := by omega
    have hz2 : z < 256 := by omega
    clear h hz h0 h256 hn
    go_enter Try.func24, Try.ntmps24
    go_wp2
    go_ret
    exact ⟨⟨z, hz2, rfl⟩, Below.refl _ _⟩
  · have g0 : decide (1 < n) = false := decide_eq_false h1
    rcases (show n = 0 ∨ n = 1 by omega) with e | e
    · subst e
      go_enter Try.func24, Try.ntmps24
      go_wp2
      go_ret
      exact ⟨⟨37, by omega, rfl⟩, Below.refl _ _⟩
    · subst e
      go_enter Try.func24, Try.ntmps24
      go_wp2
      go_ret
      exact ⟨⟨48, by omega, rfl⟩, Below.refl _ _⟩

end Go.Proofs.Ytlndaflhlkbedaa

/- Contracts (Bxc). -/
namespace Go.Proofs.Ytlndaflhlkbedaa
open Go.RowKit
set_option linter.unusedVariables false

/-- below a world's blocks nothing has turned -/
def BelA (w wq : World) : Prop := Below w.heap.size w wq
section
variable {wa wx wy : World} {b : Nat} {v0 v1 v2 : Value}
theorem bx_below (h : wx.cell? ⟨b, 0, none⟩ = some v0 ∧ wx.cell? ⟨b, 1, none⟩ = some v1 ∧ wx.cell? ⟨b, 2, none⟩ = some v2 ∧ BelA wa wx) : Below wa.heap.size wa wx := h.2.2.2
theorem bx_keep (h : wx.cell? ⟨b, 0, none⟩ = some v0 ∧ wx.cell? ⟨b, 1, none⟩ = some v1 ∧ wx.cell? ⟨b, 2, none⟩ = some v2 ∧ BelA wa wx) (hb : Below wx.heap.size wx wy) : wy.cell? ⟨b, 0, none⟩ = some v0 ∧ wy.cell? ⟨b, 1, none⟩ = some v1 ∧ wy.cell? ⟨b, 2, none⟩ = some v2 ∧ BelA wa wy :=
  have c : ∀ {p : Addr} {v : Value}, wx.cell? p = some v → wy.cell? p = some v := fun hc => (hb.cell (World.block_lt_of_cell? _ _ hc)).trans hc
  ⟨c h.1, c h.2.1, c h.2.2.1, h.2.2.2.trans (hb.mono h.2.2.2.size)⟩
theorem bx_drawn (h : wx.cell? ⟨b, 0, none⟩ = some v0 ∧ wx.cell? ⟨b, 1, none⟩ = some v1 ∧ wx.cell? ⟨b, 2, none⟩ = some v2 ∧ BelA wa wx) (hd : Drawn wx wy) : wy.cell? ⟨b, 0, none⟩ = some v0 ∧ wy.cell? ⟨b, 1, none⟩ = some v1 ∧ wy.cell? ⟨b, 2, none⟩ = some v2 ∧ BelA wa wy := bx_keep h hd.toBelow
end

end Go.Proofs.Ytlndaflhlkbedaa

/- Contracts (Sxn). -/
namespace Go.Proofs.Ytlndaflhlkbedaa
open Go.RowKit
set_option linter.unusedVariables false

section
variable {wa wx wy : World} {b : Nat} {v0 v1 v2 u0 u1 u2 u3 : Value} {d0 d1 d2 d3 : Addr}
theorem s1_below (h : (wx.cell? ⟨b, 0, none⟩ = some v0 ∧ wx.cell? ⟨b, 1, none⟩ = some v1 ∧ wx.cell? ⟨b, 2, none⟩ = some v2 ∧ wx.cell? d0 = some u0) ∧ BelA wa wx) : Below wa.heap.size wa wx := h.2
theorem s1_keep (h : (wx.cell? ⟨b, 0, none⟩ = some v0 ∧ wx.cell? ⟨b, 1, none⟩ = some v1 ∧ wx.cell? ⟨b, 2, none⟩ = some v2 ∧ wx.cell? d0 = some u0) ∧ BelA wa wx) (hb : Below wx.heap.size wx wy) : (wy.cell? ⟨b, 0, none⟩ = some v0 ∧ wy.cell? ⟨b, 1, none⟩ = some v1 ∧ wy.cell? ⟨b, 2, none⟩ = some v2 ∧ wy.cell? d0 = some u0) ∧ BelA wa wy :=
  have c : ∀ {p : Addr} {v : Value}, wx.cell? p = some v → wy.cell? p = some v := fun hc => (hb.cell (World.block_lt_of_cell? _ _ hc)).trans hc
  ⟨⟨c h.1.1, c h.1.2.1, c h.1.2.2.1, c h.1.2.2.2⟩, h.2.trans (hb.mono h.2.size)⟩
theorem s4_below (h : (wx.cell? ⟨b, 0, none⟩ = some v0 ∧ wx.cell? ⟨b, 1, none⟩ = some v1 ∧ wx.cell? ⟨b, 2, none⟩ = some v2 ∧ wx.cell? d0 = some u0 ∧ wx.cell? d1 = some u1 ∧ wx.cell? d2 = some u2 ∧ wx.cell? d3 = some u3) ∧ BelA wa wx) : Below wa.heap.size wa wx := h.2
theorem s4_keep (h : (wx.cell? ⟨b, 0, none⟩ = some v0 ∧ wx.cell? ⟨b, 1, none⟩ = some v1 ∧ wx.cell? ⟨b, 2, none⟩ = some v2 ∧ wx.cell? d0 = some u0 ∧ wx.cell? d1 = some u1 ∧ wx.cell? d2 = some u2 ∧ wx.cell? d3 = some u3) ∧ BelA wa wx) (hb : Below wx.heap.size wx wy) : (wy.cell? ⟨b, 0, none⟩ = some v0 ∧ wy.cell? ⟨b, 1, none⟩ = some v1 ∧ wy.cell? ⟨b, 2, none⟩ = some v2 ∧ wy.cell? d0 = some u0 ∧ wy.cell? d1 = some u1 ∧ wy.cell? d2 = some u2 ∧ wy.cell? d3 = some u3) ∧ BelA wa wy :=
  have c : ∀ {p : Addr} {v : Value}, wx.cell? p = some v → wy.cell? p = some v := fun hc => (hb.cell (World.block_lt_of_cell? _ _ hc)).trans hc
  ⟨⟨c h.1.1, c h.1.2.1, c h.1.2.2.1, c h.1.2.2.2.1, c h.1.2.2.2.2.1, c h.1.2.2.2.2.2.1, c h.1.2.2.2.2.2.2⟩, h.2.trans (hb.mono h.2.size)⟩
end

end Go.Proofs.Ytlndaflhlkbedaa

/- Contracts (ForM). -/
namespace Go.Proofs.Ytlndaflhlkbedaa
open Go.RowKit
set_option linter.unusedVariables false

theorem Tr.fdist_yes {xs ys : Tr} {k : Co} (h : DOk xs ys k = true) {i j p q : Nat} (h1 : i ≤ j) (h2 : j ≤ xs.length) (h3 : p ≤ q) (h4 : q ≤ ys.length) : Tr.fdist xs ys k i j p q = RR xs ys k i j p q := by
  unfold Tr.fdist
  rw [if_pos ⟨h, ⟨by omega, by omega, by omega⟩, by omega, by omega, by omega⟩]
  simp
theorem Tr.fdist_no {xs ys : Tr} {k : Co} {i j p q : Int} (h : ¬ (DOk xs ys k = true ∧ (0 ≤ i ∧ i ≤ j ∧ j ≤ xs.length) ∧ (0 ≤ p ∧ p ≤ q ∧ q ≤ ys.length))) : Tr.fdist xs ys k i j p q = -1 := if_neg h
theorem RR_cat {xs ys : Tr} {k : Co} (i j p q : Nat) : RR xs ys k i j p q ≤ RR xs ys k i j p p + RR xs ys k i i p q := by
  have e1 : fr (Tr.la xs) (Tr.xa xs) i i = .nil := fr_nil (Nat.le_refl _)
  have e2 : fr (Tr.la ys) (Tr.xa ys) p p = .nil := fr_nil (Nat.le_refl _)
  have h := FD_cat (Co.cs k) _ (fr (Tr.la xs) (Tr.xa xs) i j) .nil .nil (fr (Tr.la ys) (Tr.xa ys) p q) rfl
  rw [Fst.nil_cat] at h
  show RD _ _ _ _ _ _ _ _ _ ≤ RD _ _ _ _ _ _ _ _ _ + RD _ _ _ _ _ _ _ _ _
  unfold RD
  rw [e1, e2]
  have e3 : (fr (Tr.la xs) (Tr.xa xs) i j).cat .nil = fr (Tr.la xs) (Tr.xa xs) i j := by rw [Fst.cat]
  rw [e3] at h
  exact h
theorem RR_more {xs ys : Tr} {k : Co} (hx : Tr.ok xs = true) {i j p q : Nat} (hi : i ≤ j) (hj : j < xs.length) : RR xs ys k i (j + 1) p q ≤ RR xs ys k i j p q + Co.del k (Tr.xa xs j) := by
  show RD _ _ _ _ _ _ _ _ _ ≤ RD _ _ _ _ _ _ _ _ _ + (Co.cs k).del _
  unfold RD
  rw [fr_succ (Tr.la_nest hx) hi hj]
  refine Int.le_trans (FD_del _ _ _ _ _) ?_
  rw [fr_open (Tr.la_nest hx) hi hj]
  exact Int.le_refl _
/-- a place's node and its label -/
theorem Tr.post_lab {xs : Tr} (hx : Tr.ok xs = true) {x : Nat} (h : x < xs.length) : ∃ u : Nat, u < xs.length ∧ Zs.at (Zs.up (Tr.post xs)) x = (u : Int) ∧ Tr.l xs u = Tr.xa xs x := by
  obtain ⟨i, h1, h2, _⟩ := Tr.post_get hx h
  refine ⟨i, h1, Tr.post_z h2, ?_⟩
  simp [Tr.xa, Tr.lab, List.getD_eq_getElem?_getD, h2]

end Go.Proofs.Ytlndaflhlkbedaa

/- Contracts (Dts). -/
namespace Go.Proofs.Ytlndaflhlkbedaa
open Go.RowKit
set_option linter.unusedVariables false

set_option maxHeartbeats 3200000 in
set_option maxRecDepth 100000 in
theorem dists_any (k : Code) (w : World) (hcode : CodeIn w w.heap.size k.a k.cs) (hlen : k.cs.length ≤ 1048576) :
    Calls Try.prog 4 #[.slice k.a k.cs.length k.cap] w fun e w' => e = .returned (.bool true) ∧ Below w.heap.size w w' := by
  have HC := Lib.hid hcode
  clear hcode
  go_enter Try.func4, Try.ntmps4
  go_wp2_with fail
  refine (big_small _ _ _ (by omega) _).mono ?_
  rintro e w0 ⟨rfl, rfl⟩
  go_wp2_with fail
  refine (l8DrawTreeDists_ex w k HC.out hlen).mono ?_
  rintro e w1 ⟨xs, ys, A, A', n, n', cp, cp', h0, h2, c0, c2, A1, n1, q1, K, rfl, ha, hb, hcp, hcp', hn, hn', hn1, hk, hbl⟩
  obtain ⟨wa, hwa⟩ : ∃ wb, wb = w1.alloc (.cells #[.slice (some ⟨h0, 0, none⟩) 6 c0, .slice A1 n1 q1, .slice (some ⟨h2, 0, none⟩) 36 c2] 27) := ⟨_, rfl⟩
  have hba : Below w1.heap.size w1 wa := by rw [hwa]; exact (Below.refl _ _).alloc (Nat.le_refl _) _
  have HN0 := Lib.hid (ha.to_below hba)
  have HN1 := Lib.hid (hb.to_below hba)
  have HK := Lib.hid (hk.to_below hba)
  have HW := Lib.hid (hbl.trans (hba.mono hbl.size))
  have HQ := Lib.hid (show Box3 wa w1.heap.size (.slice (some ⟨h0, 0, none⟩) 6 c0) (.slice A1 n1 q1) (.slice (some ⟨h2, 0, none⟩) 36 c2) by rw [hwa]; exact Box3.made _ _ _ _ _)
  have Hwa := Lib.hid hwa
  have L0 := Lib.hid ha.1
  have L1 := Lib.hid hb.1
  have hN1 : n1 ≤ 1048576 := by rcases hn1 with h | h <;> omega
  have hs0 : n ≤ 1048576 := by omega
  have hs1 : n' ≤ 1048576 := by omega
  clear ha hb hk hbl hba hwa
  obtain ⟨DD, hDD⟩ : ∃ x, x = Tr.dists xs ys K := ⟨_, rfl⟩
  have CBM := Lib.hid (show Calls Try.prog 21 #[.slice A n cp, .slice A' n' cp', .agg #[.slice (some ⟨h0, 0, none⟩) 6 c0, .slice A1 n1 q1, .slice (some ⟨h2, 0, none⟩) 36 c2]] wa (OwnInts 3 (Tr.dists xs ys K) wa) from implTreeDists_any (c := _) (c' := _) (c0 := _) (c1 := _) (c2 := _) (ha := HN0.out) (hb := HN1.out) (hk := HK.out) (hn := hs0) (hn' := hs1) (h0 := by decide) (h1 := hN1) (h2 := by decide) (hc := hcp) (hc' := hcp'))
  rw [← hDD] at CBM
  have HDD := Lib.hid hDD
  clear hDD
  have HBX := Lib.hid (show w1.heap.size < wa.heap.size by rw [Hwa.out]; simp)
  obtain ⟨r0, r1, r2⟩ := HQ.out
  rw [Hwa.out] at r0 r1 r2
  go_wp2_with fail
  clear r0 r1 r2
  rw [← Hwa.out]
  refine CBM.out.mono ?_
  rintro e wb ⟨Am, cm, rfl, hom, hbm⟩
  have HMM := Lib.hid hom
  have HQ := Lib.hid (HQ.out.below hbm HBX.out)
  have HN0 := Lib.hid (HN0.out.to_below hbm)
  have HN1 := Lib.hid (HN1.out.to_below hbm)
  have HK := Lib.hid (HK.out.to_below hbm)
  have HW := Lib.hid (HW.out.trans (hbm.mono HW.out.size))
  have HBX := Lib.hid (Nat.lt_of_lt_of_le HBX.out hbm.size)
  clear hom hbm CBM Hwa
  cases hcx : Tr.ok xs with
  | false =>
    have hno : (Tr.ok xs && Tr.ok ys && Co.ok K) = false := by rw [hcx]; rfl
    have f0 : ((DD.length : Int) == 0) = true := by rw [HDD.out, show Tr.dists xs ys K = [] by unfold Tr.dists; rw [hno]; rfl]; rfl
    have hdn : Tr.dist xs ys K = -1 := by unfold Tr.dist; rw [hno]; rfl
    clear hno
    go_wp2_with fail
    refine (specTreeOk_any _ _ _ xs _ HN0.out hs0).mono ?_
    rintro e wx ⟨rfl, hdr⟩
    have hbb := hdr.toBelow (B := wb.heap.size)
    clear hdr
    have HN0 := Lib.hid (HN0.out.to_below hbb)
    have HN1 := Lib.hid (HN1.out.to_below hbb)
    have HK := Lib.hid (HK.out.to_below hbb)
    have HMM := Lib.hid (own_below HMM.out hbb)
    have HQ := Lib.hid (HQ.out.below hbb HBX.out)
    have HBX := Lib.hid (Nat.lt_of_lt_of_le HBX.out hbb.size)
    have HW := Lib.hid (HW.out.trans (hbb.mono HW.out.size))
    clear hbb
    rw [hcx]
    have CN := Lib.hid (show Calls Try.prog 19 #[.slice A n cp, .slice A' n' cp', .agg #[.slice (some ⟨h0, 0, none⟩) 6 c0, .slice A1 n1 q1, .slice (some ⟨h2, 0, none⟩) 36 c2]] wx fun e w' => e = .returned (.int .i64 (-1)) ∧ Below (World.heap wx).size wx w' from by
      rw [show (-1 : Int) = Tr.dist xs ys K from hdn.symm]
      exact implTreeDist_any (c := _) (c' := _) (c0 := _) (c1 := _) (c2 := _) (ha := HN0.out) (hb := HN1.out) (hk := HK.out) (hn := hs0) (hn' := hs1) (h0 := by decide) (h1 := hN1) (h2 := by decide) (hc := hcp) (hc' := hcp'))
    clear hdn
    obtain ⟨r0, r1, r2⟩ := HQ.out
    go_wp2_with fail
    clear r0 r1 r2
    refine CN.out.mono ?_
    rintro e wl ⟨rfl, hbb⟩
    have HW := Lib.hid (HW.out.trans (hbb.mono HW.out.size))
    clear hbb
    go_wp2
    go_ret
    exact ⟨rfl, HW.out⟩
  | true =>
    cases hcy : Tr.ok ys with
    | false =>
      have hno : (Tr.ok xs && Tr.ok ys && Co.ok K) = false := by rw [hcx, hcy]; rfl
      have f0 : ((DD.length : Int) == 0) = true := by rw [HDD.out, show Tr.dists xs ys K = [] by unfold Tr.dists; rw [hno]; rfl]; rfl
      have hdn : Tr.dist xs ys K = -1 := by unfold Tr.dist; rw [hno]; rfl
      clear hno
      go_wp2_with fail
      refine (specTreeOk_any _ _ _ xs _ HN0.out hs0).mono ?_
      rintro e wx ⟨rfl, hdr⟩
      have hbb := hdr.toBelow (B := wb.heap.size)
      clear hdr
      have HN0 := Lib.hid (HN0.out.to_below hbb)
      have HN1 := Lib.hid (HN1.out.to_below hbb)
      have HK := Lib.hid (HK.out.to_below hbb)
      have HMM := Lib.hid (own_below HMM.out hbb)
      have HQ := Lib.hid (HQ.out.below hbb HBX.out)
      have HBX := Lib.hid (Nat.lt_of_lt_of_le HBX.out hbb.size)
      have HW := Lib.hid (HW.out.trans (hbb.mono HW.out.size))
      clear hbb
      rw [hcx]
      go_wp2_with fail
      refine (specTreeOk_any _ _ _ ys _ HN1.out hs1).mono ?_
      rintro e wy ⟨rfl, hdr⟩
      have hbb := hdr.toBelow (B := wx.heap.size)
      clear hdr
      have HN0 := Lib.hid (HN0.out.to_below hbb)
      have HN1 := Lib.hid (HN1.out.to_below hbb)
      have HK := Lib.hid (HK.out.to_below hbb)
      have HMM := Lib.hid (own_below HMM.out hbb)
      have HQ := Lib.hid (HQ.out.below hbb HBX.out)
      have HBX := Lib.hid (Nat.lt_of_lt_of_le HBX.out hbb.size)
      have HW := Lib.hid (HW.out.trans (hbb.mono HW.out.size))
      clear hbb
      rw [hcy]
      have CN := Lib.hid (show Calls Try.prog 19 #[.slice A n cp, .slice A' n' cp', .agg #[.slice (some ⟨h0, 0, none⟩) 6 c0, .slice A1 n1 q1, .slice (some ⟨h2, 0, none⟩) 36 c2]] wy fun e w' => e = .returned (.int .i64 (-1)) ∧ Below (World.heap wy).size wy w' from by
        rw [show (-1 : Int) = Tr.dist xs ys K from hdn.symm]
        exact implTreeDist_any (c := _) (c' := _) (c0 := _) (c1 := _) (c2 := _) (ha := HN0.out) (hb := HN1.out) (hk := HK.out) (hn := hs0) (hn' := hs1) (h0 := by decide) (h1 := hN1) (h2 := by decide) (hc := hcp) (hc' := hcp'))
      clear hdn
      obtain ⟨r0, r1, r2⟩ := HQ.out
      go_wp2_with fail
      clear r0 r1 r2
      refine CN.out.mono ?_
      rintro e wl ⟨rfl, hbb⟩
      have HW := Lib.hid (HW.out.trans (hbb.mono HW.out.size))
      clear hbb
      go_wp2
      go_ret
      exact ⟨rfl, HW.out⟩
    | true =>
      cases hcok : Co.ok K with
      | false =>
        have hno : (Tr.ok xs && Tr.ok ys && Co.ok K) = false := by rw [hcx, hcy, hcok]; rfl
        have f0 : ((DD.length : Int) == 0) = true := by rw [HDD.out, show Tr.dists xs ys K = [] by unfold Tr.dists; rw [hno]; rfl]; rfl
        have hdn : Tr.dist xs ys K = -1 := by unfold Tr.dist; rw [hno]; rfl
        clear hno
        go_wp2_with fail
        refine (specTreeOk_any _ _ _ xs _ HN0.out hs0).mono ?_
        rintro e wx ⟨rfl, hdr⟩
        have hbb := hdr.toBelow (B := wb.heap.size)
        clear hdr
        have HN0 := Lib.hid (HN0.out.to_below hbb)
        have HN1 := Lib.hid (HN1.out.to_below hbb)
        have HK := Lib.hid (HK.out.to_below hbb)
        have HMM := Lib.hid (own_below HMM.out hbb)
        have HQ := Lib.hid (HQ.out.below hbb HBX.out)
        have HBX := Lib.hid (Nat.lt_of_lt_of_le HBX.out hbb.size)
        have HW := Lib.hid (HW.out.trans (hbb.mono HW.out.size))
        clear hbb
        rw [hcx]
        go_wp2_with fail
        refine (specTreeOk_any _ _ _ ys _ HN1.out hs1).mono ?_
        rintro e wy ⟨rfl, hdr⟩
        have hbb := hdr.toBelow (B := wx.heap.size)
        clear hdr
        have HN0 := Lib.hid (HN0.out.to_below hbb)
        have HN1 := Lib.hid (HN1.out.to_below hbb)
        have HK := Lib.hid (HK.out.to_below hbb)
        have HMM := Lib.hid (own_below HMM.out hbb)
        have HQ := Lib.hid (HQ.out.below hbb HBX.out)
        have HBX := Lib.hid (Nat.lt_of_lt_of_le HBX.out hbb.size)
        have HW := Lib.hid (HW.out.trans (hbb.mono HW.out.size))
        clear hbb
        rw [hcy]
        obtain ⟨r0, r1, r2⟩ := HQ.out
        go_wp2_with fail
        clear r0 r1 r2
        refine (specCostOk_any _ _ _ _ _ _ _ _ _ K _ HK.out (by decide) hN1 (by decide)).mono ?_
        rintro e wk ⟨rfl, hbb⟩
        have HN0 := Lib.hid (HN0.out.to_below hbb)
        have HN1 := Lib.hid (HN1.out.to_below hbb)
        have HK := Lib.hid (HK.out.to_below hbb)
        have HMM := Lib.hid (own_below HMM.out hbb)
        have HQ := Lib.hid (HQ.out.below hbb HBX.out)
        have HBX := Lib.hid (Nat.lt_of_lt_of_le HBX.out hbb.size)
        have HW := Lib.hid (HW.out.trans (hbb.mono HW.out.size))
        clear hbb
        rw [hcok]
        have CN := Lib.hid (show Calls Try.prog 19 #[.slice A n cp, .slice A' n' cp', .agg #[.slice (some ⟨h0, 0, none⟩) 6 c0, .slice A1 n1 q1, .slice (some ⟨h2, 0, none⟩) 36 c2]] wk fun e w' => e = .returned (.int .i64 (-1)) ∧ Below (World.heap wk).size wk w' from by
          rw [show (-1 : Int) = Tr.dist xs ys K from hdn.symm]
          exact implTreeDist_any (c := _) (c' := _) (c0 := _) (c1 := _) (c2 := _) (ha := HN0.out) (hb := HN1.out) (hk := HK.out) (hn := hs0) (hn' := hs1) (h0 := by decide) (h1 := hN1) (h2 := by decide) (hc := hcp) (hc' := hcp'))
        clear hdn
        obtain ⟨r0, r1, r2⟩ := HQ.out
        go_wp2_with fail
        clear r0 r1 r2
        refine CN.out.mono ?_
        rintro e wl ⟨rfl, hbb⟩
        have HW := Lib.hid (HW.out.trans (hbb.mono HW.out.size))
        clear hbb
        go_wp2
        go_ret
        exact ⟨rfl, HW.out⟩
      | true =>
        have X1 := Lib.hid (show 1 ≤ n ∧ n ≤ 24 ∧ 1 ≤ n' ∧ n' ≤ 24 by have := Tr.len24 hcx; have := Tr.len24 hcy; have := L0.out; have := L1.out; omega)
        have HX := Lib.hid hcx
        have HY := Lib.hid hcy
        have HO := Lib.hid hcok
        go_wp2_with fail
        refine (specTreeOk_any _ _ _ xs _ HN0.out hs0).mono ?_
        rintro e wx ⟨rfl, hdr⟩
        have hbb := hdr.toBelow (B := wb.heap.size)
        clear hdr
        have HN0 := Lib.hid (HN0.out.to_below hbb)
        have HN1 := Lib.hid (HN1.out.to_below hbb)
        have HK := Lib.hid (HK.out.to_below hbb)
        have HMM := Lib.hid (own_below HMM.out hbb)
        have HQ := Lib.hid (HQ.out.below hbb HBX.out)
        have HBX := Lib.hid (Nat.lt_of_lt_of_le HBX.out hbb.size)
        have HW := Lib.hid (HW.out.trans (hbb.mono HW.out.size))
        clear hbb
        rw [hcx]
        go_wp2_with fail
        refine (specTreeOk_any _ _ _ ys _ HN1.out hs1).mono ?_
        rintro e wy ⟨rfl, hdr⟩
        have hbb := hdr.toBelow (B := wx.heap.size)
        clear hdr
        have HN0 := Lib.hid (HN0.out.to_below hbb)
        have HN1 := Lib.hid (HN1.out.to_below hbb)
        have HK := Lib.hid (HK.out.to_below hbb)
        have HMM := Lib.hid (own_below HMM.out hbb)
        have HQ := Lib.hid (HQ.out.below hbb HBX.out)
        have HBX := Lib.hid (Nat.lt_of_lt_of_le HBX.out hbb.size)
        have HW := Lib.hid (HW.out.trans (hbb.mono HW.out.size))
        clear hbb
        rw [hcy]
        obtain ⟨r0, r1, r2⟩ := HQ.out
        go_wp2_with fail
        clear r0 r1 r2
        refine (specCostOk_any _ _ _ _ _ _ _ _ _ K _ HK.out (by decide) hN1 (by decide)).mono ?_
        rintro e wk ⟨rfl, hbb⟩
        have HN0 := Lib.hid (HN0.out.to_below hbb)
        have HN1 := Lib.hid (HN1.out.to_below hbb)
        have HK := Lib.hid (HK.out.to_below hbb)
        have HMM := Lib.hid (own_below HMM.out hbb)
        have HQ := Lib.hid (HQ.out.below hbb HBX.out)
        have HBX := Lib.hid (Nat.lt_of_lt_of_le HBX.out hbb.size)
        have HW := Lib.hid (HW.out.trans (hbb.mono HW.out.size))
        clear hbb
        rw [hcok]
        obtain ⟨nm, hnm⟩ : ∃ x, x = n * n' := ⟨_, rfl⟩
        have NM := Lib.hid hnm
        have b1 : nm ≤ 24 * 24 := by rw [hnm]; exact Nat.mul_le_mul (by have := X1.out; omega) (by have := X1.out; omega)
        have b2 : 1 ≤ nm := by rw [hnm]; exact Nat.mul_pos (by have := X1.out; omega) (by have := X1.out; omega)
        have DL := Lib.hid (show DD.length = nm by rw [HDD.out, show Tr.dists xs ys K = Tr.tds xs ys K by unfold Tr.dists; rw [hcx, hcy, hcok]; rfl, Tr.tds_length, L0.out, L1.out, hnm])
        have DT := Lib.hid (show DD = Tr.tds xs ys K by rw [HDD.out]; unfold Tr.dists; rw [hcx, hcy, hcok]; rfl)
        obtain ⟨gT, rfl, _, _⟩ := own_form HMM.out (by have := DL.out; omega)
        rw [DL.out] at HMM ⊢
        obtain ⟨z1, hz1⟩ : ∃ z, nm = z + 1 := ⟨nm - 1, by omega⟩
        obtain ⟨T1, hT1⟩ : ∃ x, x = Tr.dist xs ys K := ⟨_, rfl⟩
        have e1 : (n : Int) * (n' : Int) = (nm : Int) := by rw [hnm]; exact (Int.natCast_mul n n').symm
        have e2 : IntKind.i64.wrap (nm : Int) = (nm : Int) := Kit.w64 (by omega) (by omega)
        have e3 : IntKind.i64.wrap ((nm : Int) - 1) = (z1 : Int) := by rw [Kit.w64 (by omega) (by omega)]; omega
        have e4 : (0 : Int) ≤ (z1 : Int) := by omega
        have e5 : (z1 : Int) < (nm : Int) := by omega
        have ld := own_int HMM.out (k := z1) (by have := DL.out; omega)
        have ev : Zs.at DD z1 = T1 := by
          have h1 := Tr.tds_last (k := K) hcx hcy
          rw [L0.out, L1.out, ← hnm, show nm - 1 = z1 by omega, ← DT.out] at h1
          rw [h1, hT1]
          unfold Tr.dist
          rw [hcx, hcy, hcok, L0.out, L1.out]
          rfl
        rw [ev] at ld
        have C1 := Lib.hid (fun (wq : World) (hq : Below wk.heap.size wk wq) => show Calls Try.prog 19 #[.slice A n cp, .slice A' n' cp', .agg #[.slice (some ⟨h0, 0, none⟩) 6 c0, .slice A1 n1 q1, .slice (some ⟨h2, 0, none⟩) 36 c2]] wq fun e w' => e = .returned (.int .i64 T1) ∧ Below wq.heap.size wq w' from by
          rw [hT1]
          exact implTreeDist_any (c := _) (c' := _) (c0 := _) (c1 := _) (c2 := _) (ha := HN0.out.to_below hq) (hb := HN1.out.to_below hq) (hk := HK.out.to_below hq) (hn := hs0) (hn' := hs1) (h0 := by decide) (h1 := hN1) (h2 := by decide) (hc := hcp) (hc' := hcp'))
        have S0 := Lib.hid (show (wk.drew.cell? ⟨w1.heap.size, 0, none⟩ = some (.slice (some ⟨h0, 0, none⟩) 6 c0) ∧ wk.drew.cell? ⟨w1.heap.size, 1, none⟩ = some (.slice A1 n1 q1) ∧ wk.drew.cell? ⟨w1.heap.size, 2, none⟩ = some (.slice (some ⟨h2, 0, none⟩) 36 c2) ∧ wk.drew.cell? ⟨gT, z1, none⟩ = some (.int .i64 T1)) ∧ BelA wk wk.drew from ⟨⟨HQ.out.1, HQ.out.2.1, HQ.out.2.2, ld⟩, (Drawn.refl _).drew.toBelow⟩)
        clear hnm hT1 ev ld hz1
        go_wp2_with fail
        go_region_held3 (fun wq => (wq.cell? ⟨w1.heap.size, 0, none⟩ = some (.slice (some ⟨h0, 0, none⟩) 6 c0) ∧ wq.cell? ⟨w1.heap.size, 1, none⟩ = some (.slice A1 n1 q1) ∧ wq.cell? ⟨w1.heap.size, 2, none⟩ = some (.slice (some ⟨h2, 0, none⟩) 36 c2) ∧ wq.cell? ⟨gT, z1, none⟩ = some (.int .i64 T1)) ∧ BelA wk wq) (first | (with_reducible exact SC) | (with_reducible exact S0.out)) (first | ((go_at_call 19; with_reducible refine (C1.out _ (s1_below (by assumption))).mono ?_); rintro e w5 ⟨rfl, hb5⟩; have SC := s1_keep (by assumption) hb5))
        have hbb := s1_below SC
        clear SC S0 C1 hb5
        obtain ⟨we, hwe⟩ : ∃ x, x = w5 := ⟨_, rfl⟩
        rw [← hwe] at hbb ⊢
        clear hwe
        have HN0 := Lib.hid (HN0.out.to_below hbb)
        have HN1 := Lib.hid (HN1.out.to_below hbb)
        have HK := Lib.hid (HK.out.to_below hbb)
        have HMM := Lib.hid (own_below HMM.out hbb)
        have HQ := Lib.hid (HQ.out.below hbb HBX.out)
        have HBX := Lib.hid (Nat.lt_of_lt_of_le HBX.out hbb.size)
        have HW := Lib.hid (HW.out.trans (hbb.mono HW.out.size))
        clear hbb
        clear e1 e2 e3 e4 e5
        go_wp2_with fail
        refine (at0_any k.a k.cs.length k.cap k.cs we (HC.out.onto HW.out HW.out.size) rfl hlen).mono ?_
        rintro e wf ⟨⟨zi, zib, rfl⟩, hbb⟩
        have HN0 := Lib.hid (HN0.out.to_below hbb)
        have HN1 := Lib.hid (HN1.out.to_below hbb)
        have HK := Lib.hid (HK.out.to_below hbb)
        have HMM := Lib.hid (own_below HMM.out hbb)
        have HQ := Lib.hid (HQ.out.below hbb HBX.out)
        have HBX := Lib.hid (Nat.lt_of_lt_of_le HBX.out hbb.size)
        have HW := Lib.hid (HW.out.trans (hbb.mono HW.out.size))
        clear hbb
        obtain ⟨i, hi⟩ : ∃ x, x = zi % n := ⟨_, rfl⟩
        have Bi := Lib.hid (show i < n by rw [hi]; exact Nat.mod_lt _ (by have := X1.out; omega))
        have ti : (zi : Int).tmod (n : Int) = (i : Int) := by rw [Kit.tmod_nat, hi]; exact (Int.natCast_emod _ _).symm
        have ni : ¬ (n : Int) = 0 := by have := X1.out; omega
        have mi : ((n : Int) == 0) = false := by simp; have := X1.out; omega
        clear hi
        go_wp2_with fail
        refine (at1_any k.a k.cs.length k.cap k.cs wf (HC.out.onto HW.out HW.out.size) rfl hlen).mono ?_
        rintro e wg ⟨⟨zj, zjb, rfl⟩, hbb⟩
        have HN0 := Lib.hid (HN0.out.to_below hbb)
        have HN1 := Lib.hid (HN1.out.to_below hbb)
        have HK := Lib.hid (HK.out.to_below hbb)
        have HMM := Lib.hid (own_below HMM.out hbb)
        have HQ := Lib.hid (HQ.out.below hbb HBX.out)
        have HBX := Lib.hid (Nat.lt_of_lt_of_le HBX.out hbb.size)
        have HW := Lib.hid (HW.out.trans (hbb.mono HW.out.size))
        clear hbb
        obtain ⟨j, hj⟩ : ∃ x, x = zj % n' := ⟨_, rfl⟩
        have Bj := Lib.hid (show j < n' by rw [hj]; exact Nat.mod_lt _ (by have := X1.out; omega))
        have tj : (zj : Int).tmod (n' : Int) = (j : Int) := by rw [Kit.tmod_nat, hj]; exact (Int.natCast_emod _ _).symm
        have nj : ¬ (n' : Int) = 0 := by have := X1.out; omega
        have mj : ((n' : Int) == 0) = false := by simp; have := X1.out; omega
        clear hj
        have PLRA := Lib.hid (show (Zs.up (Tr.lfs xs)).length = n by rw [Zs.up_length, Tr.lfs_len hcx]; exact L0.out)
        have PLRB := Lib.hid (show (Zs.up (Tr.lfs ys)).length = n' by rw [Zs.up_length, Tr.lfs_len hcy]; exact L1.out)
        have PLRC := Lib.hid (show (Zs.up (Tr.post xs)).length = n by rw [Zs.up_length, Tr.post_length hcx]; exact L0.out)
        have PLRD := Lib.hid (show (Zs.up (Tr.post ys)).length = n' by rw [Zs.up_length, Tr.post_length hcy]; exact L1.out)
        go_wp2_with fail
        refine (specLeftLeaf_any _ _ _ xs _ HN0.out hs0).mono ?_
        rintro e wh ⟨ARA, cRA, rfl, ho, hbb⟩
        have HN0 := Lib.hid (HN0.out.to_below hbb)
        have HN1 := Lib.hid (HN1.out.to_below hbb)
        have HK := Lib.hid (HK.out.to_below hbb)
        have HMM := Lib.hid (own_below HMM.out hbb)
        have HQ := Lib.hid (HQ.out.below hbb HBX.out)
        have HBX := Lib.hid (Nat.lt_of_lt_of_le HBX.out hbb.size)
        have HW := Lib.hid (HW.out.trans (hbb.mono HW.out.size))
        clear hbb
        obtain ⟨gRA, rfl, _, _⟩ := own_form ho (by have := PLRA.out; have := X1.out; omega)
        have RA := Lib.hid ho
        clear ho
        rw [PLRA.out] at RA ⊢
        go_wp2_with fail
        refine (specLeftLeaf_any _ _ _ ys _ HN1.out hs1).mono ?_
        rintro e wi ⟨ARB, cRB, rfl, ho, hbb⟩
        have HN0 := Lib.hid (HN0.out.to_below hbb)
        have HN1 := Lib.hid (HN1.out.to_below hbb)
        have HK := Lib.hid (HK.out.to_below hbb)
        have HMM := Lib.hid (own_below HMM.out hbb)
        have RA := Lib.hid (own_below RA.out hbb)
        have HQ := Lib.hid (HQ.out.below hbb HBX.out)
        have HBX := Lib.hid (Nat.lt_of_lt_of_le HBX.out hbb.size)
        have HW := Lib.hid (HW.out.trans (hbb.mono HW.out.size))
        clear hbb
        obtain ⟨gRB, rfl, _, _⟩ := own_form ho (by have := PLRB.out; have := X1.out; omega)
        have RB := Lib.hid ho
        clear ho
        rw [PLRB.out] at RB ⊢
        go_wp2_with fail
        refine (specPostOrder_any _ _ _ xs _ HN0.out hs0).mono ?_
        rintro e wj ⟨ARC, cRC, rfl, ho, hbb⟩
        have HN0 := Lib.hid (HN0.out.to_below hbb)
        have HN1 := Lib.hid (HN1.out.to_below hbb)
        have HK := Lib.hid (HK.out.to_below hbb)
        have HMM := Lib.hid (own_below HMM.out hbb)
        have RA := Lib.hid (own_below RA.out hbb)
        have RB := Lib.hid (own_below RB.out hbb)
        have HQ := Lib.hid (HQ.out.below hbb HBX.out)
        have HBX := Lib.hid (Nat.lt_of_lt_of_le HBX.out hbb.size)
        have HW := Lib.hid (HW.out.trans (hbb.mono HW.out.size))
        clear hbb
        obtain ⟨gRC, rfl, _, _⟩ := own_form ho (by have := PLRC.out; have := X1.out; omega)
        have RC := Lib.hid ho
        clear ho
        rw [PLRC.out] at RC ⊢
        go_wp2_with fail
        refine (specPostOrder_any _ _ _ ys _ HN1.out hs1).mono ?_
        rintro e wm ⟨ARD, cRD, rfl, ho, hbb⟩
        have HN0 := Lib.hid (HN0.out.to_below hbb)
        have HN1 := Lib.hid (HN1.out.to_below hbb)
        have HK := Lib.hid (HK.out.to_below hbb)
        have HMM := Lib.hid (own_below HMM.out hbb)
        have RA := Lib.hid (own_below RA.out hbb)
        have RB := Lib.hid (own_below RB.out hbb)
        have RC := Lib.hid (own_below RC.out hbb)
        have HQ := Lib.hid (HQ.out.below hbb HBX.out)
        have HBX := Lib.hid (Nat.lt_of_lt_of_le HBX.out hbb.size)
        have HW := Lib.hid (HW.out.trans (hbb.mono HW.out.size))
        clear hbb
        obtain ⟨gRD, rfl, _, _⟩ := own_form ho (by have := PLRD.out; have := X1.out; omega)
        have RD := Lib.hid ho
        clear ho
        rw [PLRD.out] at RD ⊢
        obtain ⟨T0, hT0⟩ : ∃ x, x = TT xs ys K i j := ⟨_, rfl⟩
        obtain ⟨im, him⟩ : ∃ x, x = i * n' := ⟨_, rfl⟩
        obtain ⟨ix, hix⟩ : ∃ x, x = im + j := ⟨_, rfl⟩
        have hlt : ix < nm := by rw [hix, him, NM.out]; exact idx_lt Bi.out Bj.out
        have b1 : nm ≤ 24 * 24 := by rw [NM.out]; exact Nat.mul_le_mul (by have := X1.out; omega) (by have := X1.out; omega)
        have e1 : (i : Int) * (n' : Int) = (im : Int) := by rw [him]; exact (Int.natCast_mul i n').symm
        have e2 : IntKind.i64.wrap (im : Int) = (im : Int) := Kit.w64 (by omega) (by omega)
        have e3 : (im : Int) + (j : Int) = (ix : Int) := by omega
        have e4 : IntKind.i64.wrap (ix : Int) = (ix : Int) := Kit.w64 (by omega) (by omega)
        have e5 : (0 : Int) ≤ (ix : Int) := by omega
        have e6 : (ix : Int) < (nm : Int) := by omega
        have ld := own_int HMM.out (k := ix) (by have := DL.out; omega)
        have ev : Zs.at DD ix = T0 := by
          rw [DT.out, hT0, hix, him]
          unfold Zs.at Tr.tds
          have hl : i * n' + j < xs.length * ys.length := by rw [L0.out, L1.out]; exact idx_lt Bi.out Bj.out
          rw [List.getD_eq_getElem?_getD, List.getElem?_map, List.getElem?_range hl]
          have hn : 0 < n' := by have := X1.out; omega
          simp only [Option.map_some, Option.getD_some]
          rw [L1.out, show (i * n' + j) / n' = i by rw [Nat.mul_comm, Nat.mul_add_div hn, Nat.div_eq_of_lt Bj.out, Nat.add_zero], show (i * n' + j) % n' = j by rw [Nat.mul_comm, Nat.mul_add_mod, Nat.mod_eq_of_lt Bj.out]]
        rw [ev] at ld
        obtain ⟨li, hli⟩ : ∃ x, x = Tr.la xs i := ⟨_, rfl⟩
        obtain ⟨lj, hlj⟩ : ∃ x, x = Tr.la ys j := ⟨_, rfl⟩
        obtain ⟨ni, hni⟩ : ∃ x, x = Tr.nd xs i := ⟨_, rfl⟩
        obtain ⟨nj, hnj⟩ : ∃ x, x = Tr.nd ys j := ⟨_, rfl⟩
        have hi2 : i < xs.length := by rw [L0.out]; exact Bi.out
        have hj2 : j < ys.length := by rw [L1.out]; exact Bj.out
        have d0 := own_int RA.out (k := i) (by rw [PLRA.out]; exact Bi.out)
        have d1 := own_int RB.out (k := j) (by rw [PLRB.out]; exact Bj.out)
        have d2 := own_int RC.out (k := i) (by rw [PLRC.out]; exact Bi.out)
        have d3 := own_int RD.out (k := j) (by rw [PLRD.out]; exact Bj.out)
        rw [Tr.la_up hcx hi2, ← hli] at d0
        rw [Tr.la_up hcy hj2, ← hlj] at d1
        have zz : ∀ (l : List Nat) (u : Nat), Zs.at (Zs.up l) u = (l.getD u 0 : Nat) := fun l u => by
          simp only [Zs.at, Zs.up, List.getD_eq_getElem?_getD, List.getElem?_map]
          cases l[u]? <;> simp
        rw [zz, show (Tr.post xs).getD i 0 = ni from hni.symm] at d2
        rw [zz, show (Tr.post ys).getD j 0 = nj from hnj.symm] at d3
        obtain ⟨i1, hi1⟩ : ∃ x, x = i + 1 := ⟨_, rfl⟩
        obtain ⟨j1, hj1⟩ : ∃ x, x = j + 1 := ⟨_, rfl⟩
        have f1 : (i : Int) + 1 = (i1 : Int) := by omega
        have f2 : IntKind.i64.wrap (i1 : Int) = (i1 : Int) := by have := X1.out; have := Bi.out; exact Kit.w64 (by omega) (by omega)
        have f3 : (j : Int) + 1 = (j1 : Int) := by omega
        have f4 : IntKind.i64.wrap (j1 : Int) = (j1 : Int) := by have := X1.out; have := Bj.out; exact Kit.w64 (by omega) (by omega)
        have g0 : (0 : Int) ≤ (i : Int) := by omega
        have g1 : (i : Int) < (n : Int) := by have := Bi.out; omega
        have g2 : (0 : Int) ≤ (j : Int) := by omega
        have g3 : (j : Int) < (n' : Int) := by have := Bj.out; omega
        have qq : (T0 == T0) = true := by simp
        obtain ⟨SA, hSA⟩ : ∃ x, x = Tr.subTree xs (ni : Int) := ⟨_, rfl⟩
        obtain ⟨SBB, hSB⟩ : ∃ x, x = Tr.subTree ys (nj : Int) := ⟨_, rfl⟩
        have LSA := Lib.hid (show SA.length ≤ 1048576 by rw [hSA]; have := Tr.subTree_len xs (ni : Int); have := L0.out; omega)
        have LSB := Lib.hid (show SBB.length ≤ 1048576 by rw [hSB]; have := Tr.subTree_len ys (nj : Int); have := L1.out; omega)
        have C1 := Lib.hid (fun (wq : World) (hq : Below wm.heap.size wm wq) => show Calls Try.prog 27 #[.slice A n cp, .int .i64 (li : Int), .int .i64 (i1 : Int), .slice A' n' cp', .int .i64 (lj : Int), .int .i64 (j1 : Int), .agg #[.slice (some ⟨h0, 0, none⟩) 6 c0, .slice A1 n1 q1, .slice (some ⟨h2, 0, none⟩) 36 c2]] wq fun e w' => e = .returned (.int .i64 T0) ∧ Below wq.heap.size wq w' from by
          have hv : Tr.fdist xs ys K (li : Int) (i1 : Int) (lj : Int) (j1 : Int) = T0 := by
            have l1 := (Tr.la_nest hcx i hi2).1
            have l2 := (Tr.la_nest hcy j hj2).1
            rw [Tr.fdist_yes (by unfold DOk; rw [hcx, hcy, hcok]; rfl) (by omega) (by omega) (by omega) (by omega), hT0, TT_eq, hli, hlj, hi1, hj1]
          rw [← hv]
          exact implForestDist_any A A' n n' cp cp' xs ys _ _ _ _ _ _ _ _ _ K wq (HN0.out.to_below hq) (HN1.out.to_below hq) (HK.out.to_below hq) _ _ _ _ hs0 hs1 (by decide) hN1 (by decide) hcp hcp')
        have C2 := Lib.hid (fun (wq : World) (hq : Below wm.heap.size wm wq) => show Calls Try.prog 29 #[.slice A n cp, .int .i64 (ni : Int)] wq (OwnNodes 42 SA wq) from by
          rw [hSA]
          exact specSubTree_any _ _ _ xs _ wq (HN0.out.to_below hq) hs0)
        have C3 := Lib.hid (fun (wq : World) (hq : Below wm.heap.size wm wq) => show Calls Try.prog 29 #[.slice A' n' cp', .int .i64 (nj : Int)] wq (OwnNodes 42 SBB wq) from by
          rw [hSB]
          exact specSubTree_any _ _ _ ys _ wq (HN1.out.to_below hq) hs1)
        have C4 := Lib.hid (fun (wq : World) (hq : Below wm.heap.size wm wq) (As Bs : Option Addr) (cs ds : Nat) (y1 : NdIn wq wq.heap.size As SA.length SA) (y2 : NdIn wq wq.heap.size Bs SBB.length SBB) => show Calls Try.prog 28 #[.slice As SA.length cs, .slice Bs SBB.length ds, .agg #[.slice (some ⟨h0, 0, none⟩) 6 c0, .slice A1 n1 q1, .slice (some ⟨h2, 0, none⟩) 36 c2]] wq fun e w' => e = .returned (.int .i64 T0) ∧ Below wq.heap.size wq w' from by
          have hv : Tr.dist SA SBB K = T0 := by rw [hSA, hSB, hni, hnj, hT0]; exact Sb.dist hcx hcy hcok hi2 hj2
          rw [← hv]
          exact specTreeDist_any (c := _) (c' := _) (c0 := _) (c1 := _) (c2 := _) (ha := y1) (hb := y2) (hk := HK.out.to_below hq) (hn := LSA.out) (hn' := LSB.out) (h0 := by decide) (h1 := hN1) (h2 := by decide))
        clear hT0 him hix hlt b1 ev hli hlj hni hnj hi2 hj2 zz hi1 hj1 hSA hSB
        go_wp2_with fail
        clear e1 e2 e3 e4 e5 e6 ld ti tj
        have S0 := Lib.hid (show (wm.drew.cell? ⟨w1.heap.size, 0, none⟩ = some (.slice (some ⟨h0, 0, none⟩) 6 c0) ∧ wm.drew.cell? ⟨w1.heap.size, 1, none⟩ = some (.slice A1 n1 q1) ∧ wm.drew.cell? ⟨w1.heap.size, 2, none⟩ = some (.slice (some ⟨h2, 0, none⟩) 36 c2) ∧ wm.drew.cell? ⟨gRA, i, none⟩ = some (.int .i64 (li : Int)) ∧ wm.drew.cell? ⟨gRB, j, none⟩ = some (.int .i64 (lj : Int)) ∧ wm.drew.cell? ⟨gRC, i, none⟩ = some (.int .i64 (ni : Int)) ∧ wm.drew.cell? ⟨gRD, j, none⟩ = some (.int .i64 (nj : Int))) ∧ BelA wm wm.drew from ⟨⟨HQ.out.1, HQ.out.2.1, HQ.out.2.2, d0, d1, d2, d3⟩, (Drawn.refl _).drew.toBelow⟩)
        go_region_held3 (fun wq => (wq.cell? ⟨w1.heap.size, 0, none⟩ = some (.slice (some ⟨h0, 0, none⟩) 6 c0) ∧ wq.cell? ⟨w1.heap.size, 1, none⟩ = some (.slice A1 n1 q1) ∧ wq.cell? ⟨w1.heap.size, 2, none⟩ = some (.slice (some ⟨h2, 0, none⟩) 36 c2) ∧ wq.cell? ⟨gRA, i, none⟩ = some (.int .i64 (li : Int)) ∧ wq.cell? ⟨gRB, j, none⟩ = some (.int .i64 (lj : Int)) ∧ wq.cell? ⟨gRC, i, none⟩ = some (.int .i64 (ni : Int)) ∧ wq.cell? ⟨gRD, j, none⟩ = some (.int .i64 (nj : Int))) ∧ BelA wm wq) (first | (with_reducible exact SC) | (with_reducible exact S0.out)) (first | ((go_at_call 27; with_reducible refine (C1.out _ (s4_below (by assumption))).mono ?_); rintro e w5 ⟨rfl, hb5⟩; have SC := s4_keep (by assumption) hb5) | ((go_at_call 29; with_reducible refine (C2.out _ (s4_below (by assumption))).mono ?_); rintro e w5 ⟨Aa, ca, rfl, ho5, hb5⟩; have SC := s4_keep (by assumption) hb5; (try (have OBx := Lib.hid (own_below OBx.out hb5))); have OAx := Lib.hid ho5; clear ho5) | ((go_at_call 29; with_reducible refine (C3.out _ (s4_below (by assumption))).mono ?_); rintro e w5 ⟨Ab, cb, rfl, ho5, hb5⟩; have SC := s4_keep (by assumption) hb5; (try (have OAx := Lib.hid (own_below OAx.out hb5))); have OBx := Lib.hid ho5; clear ho5) | ((go_at_call 28; refine (C4.out _ (s4_below (by assumption)) _ _ _ _ (NdIn.of_own OAx.out) (NdIn.of_own OBx.out)).mono ?_); rintro e w5 ⟨rfl, hb5⟩; have SC := s4_keep (by assumption) hb5))
        all_goals
          have HE := Lib.hid (HW.out.trans ((s4_below SC).mono HW.out.size))
          go_wp2
          go_ret
          exact ⟨rfl, HE.out⟩

end Go.Proofs.Ytlndaflhlkbedaa

/- Contracts (ExDts). -/
namespace Go.Proofs.Ytlndaflhlkbedaa
open Go.RowKit
set_option linter.unusedVariables false

set_option maxHeartbeats 400000 in
theorem fnDists_walk (a : Option Addr) (n cap : Nat) (zs : List Int) (w : World) (hz : Kit.BytesIn w a n cap zs) :
    Calls Try.prog 4 #[.slice a n cap] w fun e w' => e = .returned (.bool true) ∧ Below w.heap.size w w' := by
  by_cases hb : (1048576 : Int) < n
  · clear hz
    go_enter Try.func4, Try.ntmps4
    go_wp2_with fail
    refine (big_big _ _ _ hb _).mono ?_
    rintro e w0 ⟨rfl, rfl⟩
    go_wp2
    go_ret
    exact ⟨rfl, Below.refl _ _⟩
  · obtain ⟨hl, hcode⟩ := code_of hz
    have h := dists_any ⟨a, zs.take n, cap⟩ w hcode (by simp only; omega)
    simp only [hl] at h
    exact h

end Go.Proofs.Ytlndaflhlkbedaa
