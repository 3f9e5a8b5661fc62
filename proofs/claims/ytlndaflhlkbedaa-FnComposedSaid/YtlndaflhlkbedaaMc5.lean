/- Texts of one claim laid into one file, in build order: Com, Bm, BmD, Bm2, Bm3, Mp, Mc, Tur, Un, Bm4. -/
import Derived.Test.YtlndaflhlkbedaaMg12
/- Contracts (Com). -/
namespace Go.Proofs.Ytlndaflhlkbedaa
open Go.RowKit
set_option linter.unusedVariables false

/-- where b leads, by the first k pairs -/
def Cp.out (ns : Tr) (b : Int) : Nat → List Int
  | 0 => []
  | k + 1 => if b = Tr.l ns k then Cp.out ns b k ++ [Tr.d ns k] else Cp.out ns b k
/-- the pairs of a by way of b -/
def Cp.row (a : Int) (zs : List Int) : Tr := zs.map fun z => (a, z)
def Cp.to (ms ns : Tr) : Nat → Tr
  | 0 => []
  | i + 1 => Cp.to ms ns i ++ Cp.row (Tr.l ms i) (Cp.out ns (Tr.d ms i) ns.length)
def Cp.all (ms ns : Tr) : Tr := Cp.to ms ns ms.length
theorem Cp.out_len (ns : Tr) (b : Int) : ∀ k, (Cp.out ns b k).length ≤ k
  | 0 => Nat.le_refl _
  | k + 1 => by
    have h := Cp.out_len ns b k
    unfold Cp.out
    split
    · rw [List.length_append, List.length_singleton]; omega
    · omega
theorem Cp.row_len (a : Int) (zs : List Int) : (Cp.row a zs).length = zs.length := by simp [Cp.row]
theorem Cp.out_yes {ns : Tr} {b : Int} {k : Nat} (h : b = Tr.l ns k) : Cp.out ns b (k + 1) = Cp.out ns b k ++ [Tr.d ns k] := by rw [Cp.out, if_pos h]
theorem Cp.out_no {ns : Tr} {b : Int} {k : Nat} (h : ¬ b = Tr.l ns k) : Cp.out ns b (k + 1) = Cp.out ns b k := by rw [Cp.out, if_neg h]
theorem Cp.row_add (a : Int) (zs : List Int) (z : Int) : Cp.row a (zs ++ [z]) = Cp.row a zs ++ [(a, z)] := by simp [Cp.row]
theorem Cp.to_len (ms ns : Tr) : ∀ i, (Cp.to ms ns i).length ≤ i * ns.length
  | 0 => by simp [Cp.to]
  | i + 1 => by
    have h := Cp.to_len ms ns i
    have h2 := Cp.out_len ns (Tr.d ms i) ns.length
    rw [Cp.to, List.length_append, Cp.row_len, Nat.succ_mul]
    omega
theorem Cp.to_bound (ms ns : Tr) {i : Nat} (hi : i ≤ 1048576) (hn : ns.length ≤ 1048576) : (Cp.to ms ns i).length ≤ 1099511627776 := Nat.le_trans (Cp.to_len ms ns i) (Nat.mul_le_mul hi hn)
theorem Cp.all_bound (ms ns : Tr) (hi : ms.length ≤ 1048576) (hn : ns.length ≤ 1048576) : (Cp.all ms ns).length ≤ 1099511627776 := Cp.to_bound ms ns hi hn
open Go.RowKit in
/-- one pair appended to a row of one's own, however long -/
theorem step_append_pair {P : Program} {ops : Array Oper} {o : Oper} {a : Act} (w : World) {K : Act → World → Prop} {Q : Exit → Act → World → Prop} {E : Prop} (hgd : o.guard = none) (s x : Operand) (t : TypeId)
    (ho : o.op = .call { callee := .builtin .append, args := #[s, x], argTypes := #[t, t] })
    (base : Nat) (e : TypeId) (i : TypeInfo) (ht : P.underlying t = some (.slice e)) (hi : P.info? e = some i) (hz : i.zero = some (.agg #[.int .i64 0, .int .i64 0]))
    (hsize : i.size = 2) (hby : i.bytes = 16) (v : Value) (n : Nat) (l : Tr) (hs : a.eval s = v) (hown : w.ownsRow base e 2 v n (Tr.cells l)) (hn : n = l.length)
    (b1 b2 : Int) (hx : a.eval x = .slice (some ⟨w.heap.size, 0, none⟩) 1 1)
    (h63 : l.length + 1 ≤ 4398046511104) (hbase : base ≤ w.heap.size)
    (h : ∀ v' w', w'.ownsRow base e 2 v' (l ++ [(b1, b2)]).length (Tr.cells (l ++ [(b1, b2)])) → (w.alloc (.cells #[.int .i64 b1, .int .i64 b2] e)).grownBy w' v.ownBlock → K (a.put o.dst v') w') :
    if Region.wanted o (yielded ops a.tmps) = true then Oper.wp P o a (w.alloc (.cells #[.int .i64 b1, .int .i64 b2] e)) K Q else E := by
  have hw : Region.wanted o (yielded ops a.tmps) = true := by simp [Region.wanted, hgd]
  rw [if_pos hw]
  subst hn
  refine wp_append_own _ s x t ho base e i (.agg #[.int .i64 0, .int .i64 0]) 2 16 ht hi hz hsize hby rfl (by decide) v l.length (Tr.cells l) hs (hown.alloc _) ⟨w.heap.size, 0, none⟩ 1 1 (Tr.cells [(b1, b2)]) hx (by simp [Tr.cells]) ?_ (Tr.cells_cell _) (by unfold maxLen; omega) (by omega) (by simp; omega) ?_
  · intro j u hj
    have hj2 : j < 2 := by
      have := (List.getElem?_eq_some_iff.1 hj).1
      simpa [Tr.cells] using this
    have : j = 0 ∨ j = 1 := by omega
    rcases this with rfl | rfl <;> (simp [Tr.cells] at hj; subst hj; simp [Addr.add])
  · intro v' w' h2 h3 _
    refine h v' w' ?_ h3
    rw [Tr.cells_append, List.length_append]
    exact h2

end Go.Proofs.Ytlndaflhlkbedaa

/- Contracts (Bm). -/
namespace Go.Proofs.Ytlndaflhlkbedaa
open Go.RowKit
set_option linter.unusedVariables false

/-- pairs of a mapping of least cost between two ranges of places; cmb lays a pair beside what stands ahead of it and below it -/
def Bm.go (cmb : Tr → Nat → Nat → Tr → Tr) (xs ys : Tr) (k : Co) (i j p q : Nat) : Tr :=
  if j ≤ i ∨ q ≤ p then []
  else if RR xs ys k i j p q = RR xs ys k i (j - 1) p q + Co.del k (Tr.xa xs (j - 1)) then Bm.go cmb xs ys k i (j - 1) p q
  else if RR xs ys k i j p q = RR xs ys k i j p (q - 1) + Co.ins k (Tr.xa ys (q - 1)) then Bm.go cmb xs ys k i j p (q - 1)
  else cmb (Bm.go cmb xs ys k i (min (j - 1) (max i (Tr.la xs (j - 1)))) p (min (q - 1) (max p (Tr.la ys (q - 1))))) (j - 1) (q - 1)
    (Bm.go cmb xs ys k (min (j - 1) (max i (Tr.la xs (j - 1)))) (j - 1) (min (q - 1) (max p (Tr.la ys (q - 1)))) (q - 1))
termination_by (j - i) + (q - p)
decreasing_by all_goals omega
/-- the last ones of both together -/
def Bm.mt (cmb : Tr → Nat → Nat → Tr → Tr) (xs ys : Tr) (k : Co) (i j p q : Nat) : Tr :=
  cmb (Bm.go cmb xs ys k i (max i (Tr.la xs (j - 1))) p (max p (Tr.la ys (q - 1)))) (j - 1) (q - 1)
    (Bm.go cmb xs ys k (max i (Tr.la xs (j - 1))) (j - 1) (max p (Tr.la ys (q - 1))) (q - 1))
/-- the node at a place -/
def Tr.nd (xs : Tr) (u : Nat) : Nat := (Tr.post xs).getD u 0
/-- the model's order: by places, the pair last -/
def Bm.cS (a : Tr) (u v : Nat) (b : Tr) : Tr := a ++ b ++ [((u : Int), (v : Int))]
/-- the program's order: nodes, the pair between -/
def Bm.cP (xs ys : Tr) (a : Tr) (u v : Nat) (b : Tr) : Tr := a ++ [((Tr.nd xs u : Int), (Tr.nd ys v : Int))] ++ b
section
variable {cmb : Tr → Nat → Nat → Tr → Tr} {xs ys : Tr} {k : Co} {i j p q : Nat}
theorem Bm.go_none (h : j ≤ i ∨ q ≤ p) : Bm.go cmb xs ys k i j p q = [] := by rw [Bm.go, if_pos h]
theorem Bm.go_del (h1 : i < j) (h2 : p < q) (h : RR xs ys k i j p q = RR xs ys k i (j - 1) p q + Co.del k (Tr.xa xs (j - 1))) : Bm.go cmb xs ys k i j p q = Bm.go cmb xs ys k i (j - 1) p q := by
  rw [Bm.go, if_neg (by omega), if_pos h]
theorem Bm.go_ins (h1 : i < j) (h2 : p < q) (h : ¬ RR xs ys k i j p q = RR xs ys k i (j - 1) p q + Co.del k (Tr.xa xs (j - 1))) (h' : RR xs ys k i j p q = RR xs ys k i j p (q - 1) + Co.ins k (Tr.xa ys (q - 1))) : Bm.go cmb xs ys k i j p q = Bm.go cmb xs ys k i j p (q - 1) := by
  rw [Bm.go, if_neg (by omega), if_neg h, if_pos h']
theorem Bm.go_both (hx : Tr.ok xs = true) (hy : Tr.ok ys = true) (h1 : i < j) (h2 : p < q) (hj : j ≤ xs.length) (hq : q ≤ ys.length) (h : ¬ RR xs ys k i j p q = RR xs ys k i (j - 1) p q + Co.del k (Tr.xa xs (j - 1))) (h' : ¬ RR xs ys k i j p q = RR xs ys k i j p (q - 1) + Co.ins k (Tr.xa ys (q - 1))) :
    Bm.go cmb xs ys k i j p q = Bm.mt cmb xs ys k i j p q := by
  have a := (Tr.la_nest hx (j - 1) (by omega)).1
  have b := (Tr.la_nest hy (q - 1) (by omega)).1
  rw [Bm.go, if_neg (by omega), if_neg h, if_neg h', show min (j - 1) (max i (Tr.la xs (j - 1))) = max i (Tr.la xs (j - 1)) by omega, show min (q - 1) (max p (Tr.la ys (q - 1))) = max p (Tr.la ys (q - 1)) by omega]
  rfl
/-- what holds of each step holds of the whole -/
theorem Bm.go_ind {M : Nat → Nat → Nat → Nat → Tr → Prop} (hx : Tr.ok xs = true) (hy : Tr.ok ys = true)
    (h0 : ∀ i j p q, j ≤ i ∨ q ≤ p → M i j p q [])
    (h1 : ∀ i j p q L, i < j → p < q → j ≤ xs.length → q ≤ ys.length → RR xs ys k i j p q = RR xs ys k i (j - 1) p q + Co.del k (Tr.xa xs (j - 1)) → M i (j - 1) p q L → M i j p q L)
    (h2 : ∀ i j p q L, i < j → p < q → j ≤ xs.length → q ≤ ys.length → ¬ RR xs ys k i j p q = RR xs ys k i (j - 1) p q + Co.del k (Tr.xa xs (j - 1)) → RR xs ys k i j p q = RR xs ys k i j p (q - 1) + Co.ins k (Tr.xa ys (q - 1)) → M i j p (q - 1) L → M i j p q L)
    (h3 : ∀ i j p q P Q A B, i < j → p < q → j ≤ xs.length → q ≤ ys.length → P = max i (Tr.la xs (j - 1)) → Q = max p (Tr.la ys (q - 1)) → P ≤ j - 1 → Q ≤ q - 1 → ¬ RR xs ys k i j p q = RR xs ys k i (j - 1) p q + Co.del k (Tr.xa xs (j - 1)) → ¬ RR xs ys k i j p q = RR xs ys k i j p (q - 1) + Co.ins k (Tr.xa ys (q - 1)) → RR xs ys k i j p q = RR xs ys k i P p Q + RR xs ys k P (j - 1) Q (q - 1) + Co.rel k (Tr.xa xs (j - 1)) (Tr.xa ys (q - 1)) →
      M i P p Q A → M P (j - 1) Q (q - 1) B → M i j p q (cmb A (j - 1) (q - 1) B)) :
    ∀ (s i j p q : Nat), (j - i) + (q - p) < s → j ≤ xs.length → q ≤ ys.length → M i j p q (Bm.go cmb xs ys k i j p q) := by
  intro s
  induction s with
  | zero => intro i j p q h; omega
  | succ s ih =>
    intro i j p q hs hj hq
    by_cases e : j ≤ i ∨ q ≤ p
    · rw [Bm.go_none e]; exact h0 i j p q e
    · by_cases a : RR xs ys k i j p q = RR xs ys k i (j - 1) p q + Co.del k (Tr.xa xs (j - 1))
      · rw [Bm.go_del (by omega) (by omega) a]; exact h1 i j p q _ (by omega) (by omega) hj hq a (ih i (j - 1) p q (by omega) (by omega) hq)
      · by_cases b : RR xs ys k i j p q = RR xs ys k i j p (q - 1) + Co.ins k (Tr.xa ys (q - 1))
        · rw [Bm.go_ins (by omega) (by omega) a b]; exact h2 i j p q _ (by omega) (by omega) hj hq a b (ih i j p (q - 1) (by omega) hj (by omega))
        · have la1 := (Tr.la_nest hx (j - 1) (by omega)).1
          have lb1 := (Tr.la_nest hy (q - 1) (by omega)).1
          rw [Bm.go_both hx hy (by omega) (by omega) hj hq a b]
          refine h3 i j p q _ _ _ _ (by omega) (by omega) hj hq rfl rfl (by omega) (by omega) a b ?_ (ih _ _ _ _ (by omega) (by omega) (by omega)) (ih _ _ _ _ (by omega) (by omega) (by omega))
          have := RD_both (K := Co.cs k) (x := Tr.xa xs) (y := Tr.xa ys) (Tr.la_nest hx) (Tr.la_nest hy) (i := i) (j := j - 1) (k := p) (l := q - 1) (by omega) (by omega) (by omega) (by omega)
          rw [show j - 1 + 1 = j by omega, show q - 1 + 1 = q by omega] at this
          have t : RR xs ys k i j p q = min (min (RR xs ys k i (j - 1) p q + Co.del k (Tr.xa xs (j - 1))) (RR xs ys k i j p (q - 1) + Co.ins k (Tr.xa ys (q - 1)))) (RR xs ys k i (max i (Tr.la xs (j - 1))) p (max p (Tr.la ys (q - 1))) + RR xs ys k (max i (Tr.la xs (j - 1))) (j - 1) (max p (Tr.la ys (q - 1))) (q - 1) + Co.rel k (Tr.xa xs (j - 1)) (Tr.xa ys (q - 1))) := this
          omega
end
section
variable {xs : Tr} (hok : Tr.ok xs = true)
include hok
theorem Tr.nd_at {u : Nat} (hu : u < xs.length) : Tr.nd xs u < xs.length ∧ Tr.rk xs (Tr.nd xs u) = u ∧ Tr.la xs u = Tr.nd xs u - Tr.dn xs (Tr.nd xs u) ∧ Tr.xa xs u = Tr.l xs (Tr.nd xs u) := by
  obtain ⟨i, h1, h2, h3, h4, h5⟩ := Tr.la_at hok hu
  have : Tr.nd xs u = i := by unfold Tr.nd; rw [List.getD_eq_getElem?_getD, h5]; rfl
  rw [this]
  exact ⟨h1, h2, h3, h4⟩
theorem Tr.nd_rk {i : Nat} (hi : i < xs.length) : Tr.nd xs (Tr.rk xs i) = i := by
  unfold Tr.nd; rw [List.getD_eq_getElem?_getD, Tr.post_rk hok hi]; rfl
/-- ahead of v's first leaf: ahead of v -/
theorem Tr.nd_ahead {u v : Nat} (hv : v < xs.length) (h : u < Tr.la xs v) : Tr.nd xs u < Tr.nd xs v := by
  have l1 := (Tr.la_nest hok v hv).1
  obtain ⟨a1, a2, a3, _⟩ := Tr.nd_at hok (u := u) (by omega)
  obtain ⟨b1, b2, b3, _⟩ := Tr.nd_at hok hv
  rcases Nat.lt_or_ge (Tr.nd xs u) (Tr.nd xs v) with c | c
  · exact c
  · have := Tr.rk_ge hok c a1
    omega
/-- from v's first leaf on: below v -/
theorem Tr.nd_below {u v : Nat} (hv : v < xs.length) (h : Tr.la xs v ≤ u) (huv : u < v) : Tr.nd xs v < Tr.nd xs u ∧ Tr.nd xs u < Tr.endN xs (Tr.nd xs v) := by
  obtain ⟨a1, a2, a3, _⟩ := Tr.nd_at hok (u := u) (by omega)
  obtain ⟨b1, b2, b3, _⟩ := Tr.nd_at hok hv
  have d1 := Tr.dn_le hok a1
  have hlt : Tr.nd xs v < Tr.nd xs u := by
    rcases Nat.lt_trichotomy (Tr.nd xs u) (Tr.nd xs v) with c | c | c
    · by_cases hu : Tr.nd xs v < Tr.endN xs (Tr.nd xs u)
      · have := Tr.rk_under hok a1 c hu; omega
      · have g := Tr.gap_mono hok (i := Tr.endN xs (Tr.nd xs u)) (j := Tr.nd xs v) (by omega) b1
        have e := Tr.endN_dn hok a1
        have r : Tr.rk xs (Tr.nd xs u) = Tr.endN xs (Tr.nd xs u) - 1 - Tr.dn xs (Tr.nd xs u) := rfl
        rcases e.2.2.2 with f | ⟨f1, f2⟩
        · omega
        · omega
    · rw [c] at a2; omega
    · exact c
  refine ⟨hlt, ?_⟩
  rcases Nat.lt_or_ge (Tr.nd xs u) (Tr.endN xs (Tr.nd xs v)) with c | c
  · exact c
  · have := Tr.rk_left hok b1 c a1; omega
theorem Tr.nd_not {u v : Nat} (huv : u ≤ v) (hv : v < xs.length) : Tr.under xs (Tr.nd xs u : Int) (Tr.nd xs v : Int) = false := by
  obtain ⟨a1, a2, a3, _⟩ := Tr.nd_at hok (u := u) (by omega)
  obtain ⟨b1, b2, b3, _⟩ := Tr.nd_at hok hv
  cases e : Tr.under xs (Tr.nd xs u : Int) (Tr.nd xs v : Int) with
  | false => rfl
  | true =>
    simp only [Tr.under, Bool.and_eq_true, decide_eq_true_eq] at e
    obtain ⟨⟨⟨e1, e2⟩, e3⟩, e4⟩ := e
    rw [Tr.endOf_yes e1] at e4
    have := Tr.rk_under hok a1 (by omega) (show Tr.nd xs v < Tr.endN xs (Tr.nd xs u) by omega)
    omega
theorem Tr.has_nd {u : Nat} (hu : u < xs.length) : Tr.has xs (Tr.nd xs u : Int) = true := by
  have := (Tr.nd_at hok hu).1
  rw [Tr.has_iff]
  exact ⟨hok, by omega, by omega⟩
theorem Tr.nd_yes {u v : Nat} (hv : v < xs.length) (h : Tr.la xs v ≤ u) (huv : u < v) : Tr.under xs (Tr.nd xs v : Int) (Tr.nd xs u : Int) = true := by
  obtain ⟨c1, c2⟩ := Tr.nd_below hok hv h huv
  unfold Tr.under
  rw [Tr.has_nd hok hv, Tr.has_nd hok (show u < xs.length by omega), Tr.endOf_yes (Tr.has_nd hok hv), decide_eq_true (by omega), decide_eq_true (by omega)]
  rfl
end

end Go.Proofs.Ytlndaflhlkbedaa

/- Contracts (BmD). -/
namespace Go.Proofs.Ytlndaflhlkbedaa
open Go.RowKit
set_option linter.unusedVariables false

/-- what BestMap answers -/
def Bm.best (xs ys : Tr) (k : Co) : Tr := if DOk xs ys k = true then Bm.mt (Bm.cP xs ys) xs ys k 0 xs.length 0 ys.length else []
theorem Bm.best_no {xs ys : Tr} {k : Co} (h : DOk xs ys k = false) : Bm.best xs ys k = [] := by unfold Bm.best; rw [h]; rfl
theorem Bm.best_yes {xs ys : Tr} {k : Co} (h : DOk xs ys k = true) : Bm.best xs ys k = Bm.mt (Bm.cP xs ys) xs ys k 0 xs.length 0 ys.length := by unfold Bm.best; rw [if_pos h]

end Go.Proofs.Ytlndaflhlkbedaa

/- Contracts (Bm2). -/
namespace Go.Proofs.Ytlndaflhlkbedaa
open Go.RowKit
set_option linter.unusedVariables false

/-- places as nodes -/
def Bm.f (xs ys : Tr) (e : Int × Int) : Int × Int := ((Tr.nd xs e.1.toNat : Int), (Tr.nd ys e.2.toNat : Int))
/-- pair after pair: both ascend, and descent agrees -/
def Bm.R (xs ys : Tr) (e e' : Int × Int) : Prop := e.1 < e'.1 ∧ e.2 < e'.2 ∧ Tr.under xs e.1 e'.1 = Tr.under ys e.2 e'.2
def Bm.inn (xs ys : Tr) (i j p q : Nat) (e : Int × Int) : Prop := ∃ u v : Nat, e = ((Tr.nd xs u : Int), (Tr.nd ys v : Int)) ∧ i ≤ u ∧ u < j ∧ p ≤ v ∧ v < q
/-- the model's row of pairs at node i, and all of them -/
def Bm.srow (xs ys W : Tr) (i : Nat) : Nat → Tr
  | 0 => []
  | k + 1 => if Tr.nd xs (Tr.l W k).toNat = i then Bm.srow xs ys W i k ++ [((i : Int), (Tr.nd ys (Tr.d W k).toNat : Int))] else Bm.srow xs ys W i k
def Bm.sort (xs ys W : Tr) : Nat → Tr
  | 0 => []
  | i + 1 => Bm.sort xs ys W i ++ Bm.srow xs ys W i W.length
theorem Bm.srow_yes {xs ys W : Tr} {i k : Nat} (h : Tr.nd xs (Tr.l W k).toNat = i) : Bm.srow xs ys W i (k + 1) = Bm.srow xs ys W i k ++ [((i : Int), (Tr.nd ys (Tr.d W k).toNat : Int))] := by rw [Bm.srow, if_pos h]
theorem Bm.srow_no {xs ys W : Tr} {i k : Nat} (h : ¬ Tr.nd xs (Tr.l W k).toNat = i) : Bm.srow xs ys W i (k + 1) = Bm.srow xs ys W i k := by rw [Bm.srow, if_neg h]
theorem Bm.srow_len (xs ys W : Tr) (i : Nat) : ∀ k, (Bm.srow xs ys W i k).length ≤ k
  | 0 => Nat.le_refl _
  | k + 1 => by
    have h := Bm.srow_len xs ys W i k
    unfold Bm.srow
    split
    · rw [List.length_append, List.length_singleton]; omega
    · omega
theorem Bm.sort_len (xs ys W : Tr) : ∀ i, (Bm.sort xs ys W i).length ≤ i * W.length
  | 0 => by simp [Bm.sort]
  | i + 1 => by
    have h := Bm.sort_len xs ys W i
    have h2 := Bm.srow_len xs ys W i W.length
    rw [Bm.sort, List.length_append, Nat.succ_mul]
    omega
theorem Bm.srow_eq (xs ys W : Tr) (i : Nat) : ∀ k, k ≤ W.length → Bm.srow xs ys W i k = (((W.take k).map (Bm.f xs ys)).filter fun e => decide (e.1 = (i : Int)))
  | 0, _ => by simp [Bm.srow]
  | k + 1, hk => by
    have h := Bm.srow_eq xs ys W i k (by omega)
    have e0 : W[k]? = some (Tr.l W k, Tr.d W k) := by
      rw [List.getElem?_eq_getElem (show k < W.length by omega)]
      simp [Tr.l, Tr.d, List.getD_eq_getElem?_getD, show k < W.length by omega]
    rw [List.take_add_one, e0, List.map_append, List.filter_append, ← h]
    by_cases e : Tr.nd xs (Tr.l W k).toNat = i
    · rw [Bm.srow_yes e]
      congr 1
      simp [Bm.f, e]
    · rw [Bm.srow_no e]
      have : ¬ ((Tr.nd xs (Tr.l W k).toNat : Int) = (i : Int)) := by omega
      simp [Bm.f, this]
theorem asc_split {L : Tr} (h : L.Pairwise fun e e' => e.1 < e'.1) (i : Nat) : (L.filter fun e => decide (e.1 < (i : Int))) ++ (L.filter fun e => decide (e.1 = (i : Int))) = L.filter fun e => decide (e.1 < ((i + 1 : Nat) : Int)) := by
  induction L with
  | nil => rfl
  | cons e L ih =>
    obtain ⟨h1, h2⟩ := List.pairwise_cons.1 h
    have ih := ih h2
    by_cases c : e.1 < (i : Int)
    · rw [List.filter_cons_of_pos (by simpa using c), List.filter_cons_of_neg (by simp; omega), List.filter_cons_of_pos (by simp; omega), List.cons_append, ih]
    · have n1 : (L.filter fun e => decide (e.1 < (i : Int))) = [] := List.filter_eq_nil_iff.2 fun e' h' => by have := h1 e' h'; simp; omega
      rw [List.filter_cons_of_neg (by simpa using c), n1]
      rw [n1, List.nil_append] at ih
      by_cases c2 : e.1 = (i : Int)
      · have n2 : (L.filter fun e => decide (e.1 = (i : Int))) = [] := List.filter_eq_nil_iff.2 fun e' h' => by have := h1 e' h'; simp; omega
        rw [List.filter_cons_of_pos (by simpa using c2), List.filter_cons_of_pos (by simp; omega), n2, ← ih, n2]
        rfl
      · rw [List.filter_cons_of_neg (by simpa using c2), List.filter_cons_of_neg (by simp; omega), List.nil_append]
        exact ih
theorem one_key {L : Tr} (h : L.Pairwise fun e e' => e.1 < e'.1) (a : Int) : (L.filter fun e => decide (e.1 = a)) = [] ∨ ∃ x, (L.filter fun e => decide (e.1 = a)) = [x] := by
  have hp : (L.filter fun e => decide (e.1 = a)).Pairwise fun e e' => e.1 < e'.1 := h.filter _
  rcases hl : (L.filter fun e => decide (e.1 = a)) with _ | ⟨x, _ | ⟨y, r⟩⟩
  · exact .inl hl
  · exact .inr ⟨x, hl⟩
  · rw [hl] at hp
    have hx : x ∈ (L.filter fun e => decide (e.1 = a)) := by rw [hl]; simp
    have hy : y ∈ (L.filter fun e => decide (e.1 = a)) := by rw [hl]; simp
    have := (List.pairwise_cons.1 hp).1 y (by simp)
    have e1 := (List.mem_filter.1 hx).2
    have e2 := (List.mem_filter.1 hy).2
    simp only [decide_eq_true_eq] at e1 e2
    omega
/-- the model's sorting of pairs that are the same as an ascending list's -/
theorem Bm.sort_of {xs ys W L : Tr} (hp : L.Perm (W.map (Bm.f xs ys))) (h : L.Pairwise fun e e' => e.1 < e'.1) : ∀ i, Bm.sort xs ys W i = L.filter fun e => decide (e.1 < (i : Int)) ∧ decide (0 ≤ e.1)
  | 0 => by
    refine (List.filter_eq_nil_iff.2 fun e _ => ?_).symm
    simp <;> omega
  | i + 1 => by
    have ih := Bm.sort_of hp h i
    have nn : ∀ e ∈ L, 0 ≤ e.1 := fun e he => by
      obtain ⟨x, _, rfl⟩ := List.mem_map.1 (hp.mem_iff.1 he)
      simp [Bm.f]
    have fe : ∀ m : Nat, (L.filter fun e => decide (e.1 < (m : Int)) ∧ decide (0 ≤ e.1)) = L.filter fun e => decide (e.1 < (m : Int)) := fun m => List.filter_congr fun e he => by have := nn e he; simp [this]
    rw [fe] at ih
    rw [fe, Bm.sort, ih, Bm.srow_eq _ _ _ _ _ (Nat.le_refl _), List.take_length, ← asc_split h i]
    congr 1
    have hf := hp.filter fun e => decide (e.1 = (i : Int))
    rcases one_key h (i : Int) with hn | ⟨x, hx⟩
    · rw [hn] at hf ⊢
      exact hf.symm.eq_nil
    · rw [hx] at hf ⊢
      exact List.perm_singleton.1 hf.symm
section
variable {xs ys : Tr} {k : Co} (hx : Tr.ok xs = true) (hy : Tr.ok ys = true)
include hx hy
theorem Bm.go_perm {i j p q : Nat} (hj : j ≤ xs.length) (hq : q ≤ ys.length) : (Bm.go (Bm.cP xs ys) xs ys k i j p q).Perm ((Bm.go Bm.cS xs ys k i j p q).map (Bm.f xs ys)) := by
  refine Bm.go_ind (M := fun i j p q L => L.Perm ((Bm.go Bm.cS xs ys k i j p q).map (Bm.f xs ys))) hx hy ?_ ?_ ?_ ?_ (j - i + (q - p) + 1) i j p q (by omega) hj hq
  · intro i j p q h; rw [Bm.go_none h]; exact List.Perm.refl _
  · intro i j p q L h1 h2 _ _ h h3; rw [Bm.go_del h1 h2 h]; exact h3
  · intro i j p q L h1 h2 _ _ h h' h3; rw [Bm.go_ins h1 h2 h h']; exact h3
  · intro i j p q P Q A B h1 h2 h3 h4 hP hQ _ _ n1 n2 _ hA hB
    rw [Bm.go_both hx hy h1 h2 h3 h4 n1 n2]
    unfold Bm.mt Bm.cP Bm.cS
    rw [← hP, ← hQ, List.map_append, List.map_append, List.append_assoc, List.append_assoc]
    refine hA.append ?_
    refine List.perm_append_comm.trans (hB.append ?_)
    exact List.Perm.refl _
theorem Bm.go_asc {i j p q : Nat} (hj : j ≤ xs.length) (hq : q ≤ ys.length) : (Bm.go (Bm.cP xs ys) xs ys k i j p q).Pairwise (Bm.R xs ys) ∧ ∀ e ∈ Bm.go (Bm.cP xs ys) xs ys k i j p q, Bm.inn xs ys i j p q e := by
  refine Bm.go_ind (M := fun i j p q L => L.Pairwise (Bm.R xs ys) ∧ ∀ e ∈ L, Bm.inn xs ys i j p q e) hx hy ?_ ?_ ?_ ?_ (j - i + (q - p) + 1) i j p q (by omega) hj hq
  · intro i j p q h; exact ⟨List.Pairwise.nil, fun e he => absurd he (by simp)⟩
  · rintro i j p q L h1 h2 _ _ h ⟨h3, h4⟩
    exact ⟨h3, fun e he => by obtain ⟨u, v, a, b, c, d, f⟩ := h4 e he; exact ⟨u, v, a, by omega, by omega, by omega, by omega⟩⟩
  · rintro i j p q L h1 h2 _ _ h h' ⟨h3, h4⟩
    exact ⟨h3, fun e he => by obtain ⟨u, v, a, b, c, d, f⟩ := h4 e he; exact ⟨u, v, a, by omega, by omega, by omega, by omega⟩⟩
  · rintro i j p q P Q A B h1 h2 h3 h4 hP hQ hP1 hQ1 n1 n2 _ ⟨hA, iA⟩ ⟨hB, iB⟩
    have la1 := Tr.la_nest hx (j - 1) (by omega)
    have lb1 := Tr.la_nest hy (q - 1) (by omega)
    have AX : ∀ e ∈ A, Bm.R xs ys e ((Tr.nd xs (j - 1) : Int), (Tr.nd ys (q - 1) : Int)) := fun e he => by
      obtain ⟨u, v, rfl, a, b, c, d⟩ := iA e he
      have l1 : Tr.la xs (j - 1) = P := by omega
      have l2 : Tr.la ys (q - 1) = Q := by omega
      refine ⟨?_, ?_, ?_⟩
      · have := Tr.nd_ahead hx (u := u) (v := j - 1) (by omega) (by omega)
        show (Tr.nd xs u : Int) < (Tr.nd xs (j - 1) : Int)
        omega
      · have := Tr.nd_ahead hy (u := v) (v := q - 1) (by omega) (by omega)
        show (Tr.nd ys v : Int) < (Tr.nd ys (q - 1) : Int)
        omega
      · exact (Tr.nd_not hx (by omega) (by omega)).trans (Tr.nd_not hy (by omega) (by omega)).symm
    have XB : ∀ e ∈ B, Bm.R xs ys ((Tr.nd xs (j - 1) : Int), (Tr.nd ys (q - 1) : Int)) e := fun e he => by
      obtain ⟨u, v, rfl, a, b, c, d⟩ := iB e he
      refine ⟨?_, ?_, ?_⟩
      · have := (Tr.nd_below hx (u := u) (v := j - 1) (by omega) (by omega) (by omega)).1
        show (Tr.nd xs (j - 1) : Int) < (Tr.nd xs u : Int)
        omega
      · have := (Tr.nd_below hy (u := v) (v := q - 1) (by omega) (by omega) (by omega)).1
        show (Tr.nd ys (q - 1) : Int) < (Tr.nd ys v : Int)
        omega
      · exact (Tr.nd_yes hx (by omega) (by omega) (by omega)).trans (Tr.nd_yes hy (by omega) (by omega) (by omega)).symm
    have AB : ∀ e ∈ A, ∀ e' ∈ B, Bm.R xs ys e e' := fun e he e' he' => by
      obtain ⟨u, v, rfl, a, b, c, d⟩ := iA e he
      obtain ⟨u', v', rfl, a', b', c', d'⟩ := iB e' he'
      have l1 : Tr.la xs (j - 1) = P := by omega
      have l2 : Tr.la ys (q - 1) = Q := by omega
      have m1 := la1.2 u' (by omega) (by omega)
      have m2 := lb1.2 v' (by omega) (by omega)
      refine ⟨?_, ?_, ?_⟩
      · have := Tr.nd_ahead hx (u := u) (v := u') (by omega) (by omega)
        show (Tr.nd xs u : Int) < (Tr.nd xs u' : Int)
        omega
      · have := Tr.nd_ahead hy (u := v) (v := v') (by omega) (by omega)
        show (Tr.nd ys v : Int) < (Tr.nd ys v' : Int)
        omega
      · exact (Tr.nd_not hx (by omega) (by omega)).trans (Tr.nd_not hy (by omega) (by omega)).symm
    unfold Bm.cP
    refine ⟨?_, ?_⟩
    · refine List.pairwise_append.2 ⟨List.pairwise_append.2 ⟨hA, List.pairwise_singleton _ _, fun a ha b hb => ?_⟩, hB, fun a ha b hb => ?_⟩
      · rw [List.mem_singleton.1 hb]; exact AX a ha
      · rcases List.mem_append.1 ha with h | h
        · exact AB a h b hb
        · rw [List.mem_singleton.1 h]; exact XB b hb
    · intro e he
      rcases List.mem_append.1 he with h | h
      · rcases List.mem_append.1 h with h | h
        · obtain ⟨u, v, a, b, c, d, f⟩ := iA e h; exact ⟨u, v, a, by omega, by omega, by omega, by omega⟩
        · rw [List.mem_singleton.1 h]; exact ⟨j - 1, q - 1, rfl, by omega, by omega, by omega, by omega⟩
      · obtain ⟨u, v, a, b, c, d, f⟩ := iB e h; exact ⟨u, v, a, by omega, by omega, by omega, by omega⟩
end

end Go.Proofs.Ytlndaflhlkbedaa

/- Contracts (Bm3). -/
namespace Go.Proofs.Ytlndaflhlkbedaa
open Go.RowKit
set_option linter.unusedVariables false

theorem Bm.mtS_in {xs ys : Tr} {k : Co} (hx : Tr.ok xs = true) (hy : Tr.ok ys = true) : ∀ e ∈ Bm.mt Bm.cS xs ys k 0 xs.length 0 ys.length, ∃ u v : Nat, e = ((u : Int), (v : Int)) ∧ u < xs.length ∧ v < ys.length := by
  have x1 := (Tr.len24 hx).1
  have y1 := (Tr.len24 hy).1
  have la1 := (Tr.la_nest hx (xs.length - 1) (by omega)).1
  have lb1 := (Tr.la_nest hy (ys.length - 1) (by omega)).1
  have G : ∀ {i j p q : Nat}, j ≤ xs.length → q ≤ ys.length → ∀ e ∈ Bm.go Bm.cS xs ys k i j p q, ∃ u v : Nat, e = ((u : Int), (v : Int)) ∧ u < xs.length ∧ v < ys.length := fun {i j p q} hj hq => by
    refine Bm.go_ind (M := fun i j p q L => ∀ e ∈ L, ∃ u v : Nat, e = ((u : Int), (v : Int)) ∧ u < xs.length ∧ v < ys.length) hx hy ?_ ?_ ?_ ?_ (j - i + (q - p) + 1) i j p q (by omega) hj hq
    · intro i j p q _ e he; exact absurd he (by simp)
    · intro i j p q L _ _ _ _ _ h; exact h
    · intro i j p q L _ _ _ _ _ _ h; exact h
    · intro i j p q P Q A B h1 h2 h3 h4 _ _ _ _ _ _ _ hA hB e he
      unfold Bm.cS at he
      rcases List.mem_append.1 he with h | h
      · rcases List.mem_append.1 h with h | h
        · exact hA e h
        · exact hB e h
      · rw [List.mem_singleton.1 h]; exact ⟨j - 1, q - 1, rfl, by omega, by omega⟩
  intro e he
  unfold Bm.mt Bm.cS at he
  rcases List.mem_append.1 he with h | h
  · rcases List.mem_append.1 h with h | h
    · exact G (by omega) (by omega) e h
    · exact G (by omega) (by omega) e h
  · rw [List.mem_singleton.1 h]; exact ⟨xs.length - 1, ys.length - 1, rfl, by omega, by omega⟩
theorem Bm.mtS_at {xs ys : Tr} {k : Co} (hx : Tr.ok xs = true) (hy : Tr.ok ys = true) {W : Tr} (hW : W = Bm.mt Bm.cS xs ys k 0 xs.length 0 ys.length) {t : Nat} (ht : t < W.length) : ∃ u v : Nat, Tr.l W t = (u : Int) ∧ Tr.d W t = (v : Int) ∧ u < xs.length ∧ v < ys.length := by
  obtain ⟨u, v, e, hu, hv⟩ := Bm.mtS_in hx hy (k := k) (W[t]) (by rw [← hW]; exact List.getElem_mem ht)
  have e0 : W[t] = (Tr.l W t, Tr.d W t) := by simp [Tr.l, Tr.d, List.getD_eq_getElem?_getD, ht]
  rw [e0] at e
  injection e with e1 e2
  exact ⟨u, v, e1, e2, hu, hv⟩
theorem Bm.mt_facts {xs ys : Tr} {k : Co} (hx : Tr.ok xs = true) (hy : Tr.ok ys = true) : (Bm.mt (Bm.cP xs ys) xs ys k 0 xs.length 0 ys.length).Perm ((Bm.mt Bm.cS xs ys k 0 xs.length 0 ys.length).map (Bm.f xs ys)) ∧ (Bm.mt (Bm.cP xs ys) xs ys k 0 xs.length 0 ys.length).Pairwise (Bm.R xs ys) ∧ (∀ e ∈ Bm.mt (Bm.cP xs ys) xs ys k 0 xs.length 0 ys.length, Bm.inn xs ys 0 xs.length 0 ys.length e) ∧
    (Bm.mt (Bm.cP xs ys) xs ys k 0 xs.length 0 ys.length).length ≤ ys.length ∧ (Bm.mt Bm.cS xs ys k 0 xs.length 0 ys.length).length ≤ ys.length ∧ ∃ B, Bm.mt (Bm.cP xs ys) xs ys k 0 xs.length 0 ys.length = (0, 0) :: B ∧ B = Bm.go (Bm.cP xs ys) xs ys k 0 (xs.length - 1) 0 (ys.length - 1) := by
  have x1 := (Tr.len24 hx).1
  have y1 := (Tr.len24 hy).1
  have la0 := Tr.la_last hx
  have lb0 := Tr.la_last hy
  have root : ∀ {zs : Tr}, Tr.ok zs = true → Tr.nd zs (zs.length - 1) = 0 := fun {zs} hz => by
    have z1 := (Tr.len24 hz).1
    have := Tr.nd_rk hz (i := 0) (by omega)
    rw [show Tr.rk zs 0 = zs.length - 1 by unfold Tr.rk; rw [Tr.endN_zero hz, Tr.dn_zero hz]; omega] at this
    exact this
  have e1 : Bm.mt (Bm.cP xs ys) xs ys k 0 xs.length 0 ys.length = [((0 : Int), (0 : Int))] ++ Bm.go (Bm.cP xs ys) xs ys k 0 (xs.length - 1) 0 (ys.length - 1) := by
    unfold Bm.mt
    rw [la0, lb0, show max 0 0 = (0 : Nat) from rfl, Bm.go_none (i := 0) (j := 0) (.inl (Nat.le_refl _))]
    show [] ++ [((Tr.nd xs (xs.length - 1) : Int), (Tr.nd ys (ys.length - 1) : Int))] ++ _ = _
    rw [root hx, root hy]
    rfl
  have e2 : Bm.mt Bm.cS xs ys k 0 xs.length 0 ys.length = Bm.go Bm.cS xs ys k 0 (xs.length - 1) 0 (ys.length - 1) ++ [(((xs.length - 1 : Nat) : Int), ((ys.length - 1 : Nat) : Int))] := by
    unfold Bm.mt
    rw [la0, lb0, show max 0 0 = (0 : Nat) from rfl, Bm.go_none (i := 0) (j := 0) (.inl (Nat.le_refl _))]
    rfl
  have hp := Bm.go_perm (k := k) hx hy (i := 0) (j := xs.length - 1) (p := 0) (q := ys.length - 1) (by omega) (by omega)
  obtain ⟨ha, hin⟩ := Bm.go_asc (k := k) hx hy (i := 0) (j := xs.length - 1) (p := 0) (q := ys.length - 1) (by omega) (by omega)
  have hl : (Bm.go Bm.cS xs ys k 0 (xs.length - 1) 0 (ys.length - 1)).length ≤ ys.length - 1 - 0 := by
    refine Bm.go_ind (M := fun i j p q L => L.length ≤ q - p) hx hy ?_ ?_ ?_ ?_ (xs.length - 1 - 0 + (ys.length - 1 - 0) + 1) 0 (xs.length - 1) 0 (ys.length - 1) (by omega) (by omega) (by omega)
    · intro i j p q _; simp
    · intro i j p q L _ _ _ _ _ h; exact h
    · intro i j p q L _ _ _ _ _ _ h; omega
    · intro i j p q P Q A B _ _ _ _ _ _ _ _ _ _ _ h1 h2
      unfold Bm.cS
      simp only [List.length_append, List.length_singleton]
      omega
  have hl2 : (Bm.go (Bm.cP xs ys) xs ys k 0 (xs.length - 1) 0 (ys.length - 1)).length ≤ ys.length - 1 := by
    have := hp.length_eq
    rw [List.length_map] at this
    omega
  rw [e1, e2]
  refine ⟨?_, ?_, ?_, ?_, ?_, _, rfl, rfl⟩
  · rw [List.map_append]
    refine List.perm_append_comm.trans (hp.append ?_)
    simp [Bm.f, root hx, root hy]
  · refine List.pairwise_append.2 ⟨List.pairwise_singleton _ _, ha, fun a ha' b hb => ?_⟩
    rw [List.mem_singleton.1 ha']
    obtain ⟨u, v, rfl, _, hu, _, hv⟩ := hin b hb
    have b1 := Tr.nd_below hx (u := u) (v := xs.length - 1) (by omega) (by omega) hu
    have b2 := Tr.nd_below hy (u := v) (v := ys.length - 1) (by omega) (by omega) hv
    have c1 := Tr.nd_yes hx (u := u) (v := xs.length - 1) (by omega) (by omega) hu
    have c2 := Tr.nd_yes hy (u := v) (v := ys.length - 1) (by omega) (by omega) hv
    rw [root hx] at b1 c1
    rw [root hy] at b2 c2
    refine ⟨?_, ?_, c1.trans c2.symm⟩
    · show (0 : Int) < (Tr.nd xs u : Int)
      omega
    · show (0 : Int) < (Tr.nd ys v : Int)
      omega
  · intro e he
    rcases List.mem_append.1 he with h | h
    · rw [List.mem_singleton.1 h]
      exact ⟨xs.length - 1, ys.length - 1, by rw [root hx, root hy]; rfl, by omega, by omega, by omega, by omega⟩
    · obtain ⟨u, v, a, b, c, d, f⟩ := hin e h
      exact ⟨u, v, a, by omega, by omega, by omega, by omega⟩
  · rw [List.length_append, List.length_singleton]; omega
  · rw [List.length_append, List.length_singleton]; omega
/-- the model's answer is the program's -/
theorem Bm.sort_best {xs ys : Tr} {k : Co} (hx : Tr.ok xs = true) (hy : Tr.ok ys = true) : Bm.sort xs ys (Bm.mt Bm.cS xs ys k 0 xs.length 0 ys.length) xs.length = Bm.mt (Bm.cP xs ys) xs ys k 0 xs.length 0 ys.length := by
  obtain ⟨h1, h2, h3, _⟩ := Bm.mt_facts (k := k) hx hy
  rw [Bm.sort_of h1 (h2.imp (fun h => h.1))]
  refine List.filter_eq_self.2 fun e he => ?_
  obtain ⟨u, v, rfl, _, hu, _, _⟩ := h3 e he
  have := (Tr.nd_at hx hu).1
  simp
  omega

end Go.Proofs.Ytlndaflhlkbedaa

/- Contracts (Mp). -/
namespace Go.Proofs.Ytlndaflhlkbedaa
open Go.RowKit
set_option linter.unusedVariables false

/-- pair k can stand ahead of (a, b) -/
def Mp.at (xs ys ms : Tr) (a b : Int) (k : Nat) : Bool := decide (Tr.l ms k < a) && decide (Tr.d ms k < b) && (Tr.under xs (Tr.l ms k) a == Tr.under ys (Tr.d ms k) b)
def Mp.after (xs ys ms : Tr) (n : Nat) (a b : Int) : Bool := (List.range n).all (Mp.at xs ys ms a b)
def Mp.okAt (xs ys ms : Tr) (i : Nat) : Bool := Tr.has xs (Tr.l ms i) && Tr.has ys (Tr.d ms i) && Mp.after xs ys ms i (Tr.l ms i) (Tr.d ms i)
/-- a valid mapping -/
def Mp.ok (xs ys ms : Tr) : Bool := Tr.ok xs && Tr.ok ys && (List.range ms.length).all (Mp.okAt xs ys ms)
section
variable {xs ys ms : Tr} {a b : Int} {n i k : Nat}
theorem Mp.after_iff : Mp.after xs ys ms n a b = true ↔ ∀ k, k < n → Mp.at xs ys ms a b k = true := by
  unfold Mp.after
  rw [List.all_eq_true]
  exact ⟨fun h k hk => h k (List.mem_range.2 hk), fun h k hk => h k (List.mem_range.1 hk)⟩
theorem Mp.after_no (hk : k < n) (h : Mp.at xs ys ms a b k = false) : Mp.after xs ys ms n a b = false := by
  cases e : Mp.after xs ys ms n a b with
  | false => rfl
  | true => rw [Mp.after_iff.1 e k hk] at h; cases h
theorem Mp.all_iff : (List.range ms.length).all (Mp.okAt xs ys ms) = true ↔ ∀ k, k < ms.length → Mp.okAt xs ys ms k = true := by
  rw [List.all_eq_true]
  exact ⟨fun h k hk => h k (List.mem_range.2 hk), fun h k hk => h k (List.mem_range.1 hk)⟩
theorem Mp.ok_no (hk : k < ms.length) (h : Mp.okAt xs ys ms k = false) : Mp.ok xs ys ms = false := by
  cases e : Mp.ok xs ys ms with
  | false => rfl
  | true =>
    simp only [Mp.ok, Bool.and_eq_true] at e
    rw [Mp.all_iff.1 e.2 k hk] at h; cases h
theorem Mp.ok_yes (h : ∀ k, k < ms.length → Mp.okAt xs ys ms k = true) : Mp.ok xs ys ms = (Tr.ok xs && Tr.ok ys) := by
  unfold Mp.ok
  rw [Mp.all_iff.2 h, Bool.and_true]
theorem Mp.no_a (h : Tr.has xs (Tr.l ms i) = false) : Mp.okAt xs ys ms i = false := by unfold Mp.okAt; rw [h]; rfl
theorem Mp.no_b (h : Tr.has ys (Tr.d ms i) = false) : Mp.okAt xs ys ms i = false := by unfold Mp.okAt; rw [h, Bool.and_false]; rfl
theorem Mp.no_c (hk : k < i) (h : Mp.at xs ys ms (Tr.l ms i) (Tr.d ms i) k = false) : Mp.okAt xs ys ms i = false := by unfold Mp.okAt; rw [Mp.after_no hk h, Bool.and_false]
theorem Mp.at_l (h : ¬ Tr.l ms k < a) : Mp.at xs ys ms a b k = false := by unfold Mp.at; rw [decide_eq_false h]; rfl
theorem Mp.at_d (h : ¬ Tr.d ms k < b) : Mp.at xs ys ms a b k = false := by unfold Mp.at; rw [decide_eq_false h, Bool.and_false]; rfl
theorem Mp.at_u (h : Tr.under xs (Tr.l ms k) a ≠ Tr.under ys (Tr.d ms k) b) : Mp.at xs ys ms a b k = false := by
  unfold Mp.at
  rw [show (Tr.under xs (Tr.l ms k) a == Tr.under ys (Tr.d ms k) b) = false by simpa using h, Bool.and_false]
theorem Mp.at_yes (h1 : Tr.l ms k < a) (h2 : Tr.d ms k < b) (h3 : Tr.under xs (Tr.l ms k) a = Tr.under ys (Tr.d ms k) b) : Mp.at xs ys ms a b k = true := by
  unfold Mp.at
  rw [decide_eq_true h1, decide_eq_true h2, h3]
  simp
theorem Mp.okAt_yes (h1 : Tr.has xs (Tr.l ms i) = true) (h2 : Tr.has ys (Tr.d ms i) = true) (h : ∀ k, k < i → Mp.at xs ys ms (Tr.l ms i) (Tr.d ms i) k = true) : Mp.okAt xs ys ms i = true := by
  unfold Mp.okAt
  rw [h1, h2, Mp.after_iff.2 h]
  rfl
theorem Mp.okAt_parts (h : Mp.okAt xs ys ms i = true) : Tr.has xs (Tr.l ms i) = true ∧ Tr.has ys (Tr.d ms i) = true ∧ ∀ k, k < i → Tr.l ms k < Tr.l ms i ∧ Tr.d ms k < Tr.d ms i ∧ Tr.under xs (Tr.l ms k) (Tr.l ms i) = Tr.under ys (Tr.d ms k) (Tr.d ms i) := by
  simp only [Mp.okAt, Bool.and_eq_true] at h
  refine ⟨h.1.1, h.1.2, fun k hk => ?_⟩
  have := Mp.after_iff.1 h.2 k hk
  simp only [Mp.at, Bool.and_eq_true, decide_eq_true_eq, beq_iff_eq] at this
  exact ⟨this.1.1, this.1.2, this.2⟩
/-- all earlier ones lie below, if the last one does -/
theorem Mp.chain (h : ∀ q, q < i → Mp.okAt xs ys ms q = true) (hi : 0 < i → Tr.l ms (i - 1) < Tr.l ms i) (hk : k < i) : Tr.l ms k < Tr.l ms i := by
  have h0 := hi (by omega)
  by_cases e : k = i - 1
  · rw [e]; exact h0
  · have := ((Mp.okAt_parts (h (i - 1) (by omega))).2.2 k (by omega)).1
    omega
theorem Mp.at_take (hk : k < i) : Mp.at xs ys (ms.take i) a b k = Mp.at xs ys ms a b k := by
  have e : (ms.take i).getD k (0, 0) = ms.getD k (0, 0) := by simp [List.getD_eq_getElem?_getD, hk]
  unfold Mp.at Tr.l Tr.d
  rw [e]
theorem Mp.after_take : Mp.after xs ys (ms.take i) i a b = Mp.after xs ys ms i a b := by
  rw [Bool.eq_iff_iff, Mp.after_iff, Mp.after_iff]
  exact ⟨fun h k hk => (Mp.at_take hk).symm.trans (h k hk), fun h k hk => (Mp.at_take hk).trans (h k hk)⟩
end

end Go.Proofs.Ytlndaflhlkbedaa

/- Contracts (Mc). -/
namespace Go.Proofs.Ytlndaflhlkbedaa
open Go.RowKit
set_option linter.unusedVariables false

def Mp.sum (f : Nat → Int) : Nat → Int
  | 0 => 0
  | n + 1 => Mp.sum f n + f n
theorem Mp.sum_congr {f g : Nat → Int} : ∀ {n : Nat}, (∀ i, i < n → f i = g i) → Mp.sum f n = Mp.sum g n
  | 0, _ => rfl
  | n + 1, h => by
    show Mp.sum f n + f n = Mp.sum g n + g n
    rw [Mp.sum_congr (fun i hi => h i (by omega)), h n (by omega)]
theorem Mp.sum_bound {f : Nat → Int} (h : ∀ i, 0 ≤ f i ∧ f i ≤ 1000) : ∀ n : Nat, 0 ≤ Mp.sum f n ∧ Mp.sum f n ≤ 1000 * n
  | 0 => by simp [Mp.sum]
  | n + 1 => by
    have h1 := Mp.sum_bound h n
    have h2 := h n
    show 0 ≤ Mp.sum f n + f n ∧ Mp.sum f n + f n ≤ 1000 * ((n + 1 : Nat) : Int)
    omega
theorem Mp.sum_change {f g : Nat → Int} {p : Nat} (h : ∀ i, i ≠ p → g i = f i) : ∀ {n : Nat}, p < n → Mp.sum g n = Mp.sum f n + (g p - f p)
  | 0, hp => absurd hp (Nat.not_lt_zero p)
  | n + 1, hp => by
    show Mp.sum g n + g n = Mp.sum f n + f n + (g p - f p)
    by_cases e : p = n
    · subst e
      rw [Mp.sum_congr (f := g) (g := f) (fun i hi => h i (by omega))]
      omega
    · rw [Mp.sum_change h (show p < n by omega), h n (by omega)]
      omega
theorem Mp.l_take {ms : Tr} {m q : Nat} (h : q < m) : Tr.l (ms.take m) q = Tr.l ms q := by
  unfold Tr.l
  rw [show (ms.take m).getD q (0, 0) = ms.getD q (0, 0) by simp [List.getD_eq_getElem?_getD, h]]
theorem Mp.d_take {ms : Tr} {m q : Nat} (h : q < m) : Tr.d (ms.take m) q = Tr.d ms q := by
  unfold Tr.d
  rw [show (ms.take m).getD q (0, 0) = ms.getD q (0, 0) by simp [List.getD_eq_getElem?_getD, h]]
def Mp.of : Tr → Int → Int
  | [], _ => -1
  | p :: r, i => if p.1 = i then p.2 else Mp.of r i
theorem Mp.of_cases : ∀ (ms : Tr) (i : Int), (Mp.of ms i = -1 ∧ ∀ q, q < ms.length → Tr.l ms q ≠ i) ∨ ∃ q, q < ms.length ∧ Tr.l ms q = i ∧ Mp.of ms i = Tr.d ms q ∧ ∀ r, r < q → Tr.l ms r ≠ i
  | [], i => Or.inl ⟨rfl, fun q hq => absurd hq (Nat.not_lt_zero q)⟩
  | p :: t, i => by
    by_cases e : p.1 = i
    · exact Or.inr ⟨0, Nat.zero_lt_succ _, e, by unfold Mp.of; rw [if_pos e]; rfl, fun r hr => absurd hr (Nat.not_lt_zero r)⟩
    · have hs : Mp.of (p :: t) i = Mp.of t i := by rw [Mp.of, if_neg e]
      rcases Mp.of_cases t i with ⟨h1, h2⟩ | ⟨q, h1, h2, h3, h4⟩
      · refine Or.inl ⟨hs.trans h1, fun q hq => ?_⟩
        cases q with
        | zero => exact e
        | succ q => exact h2 q (by simpa using hq)
      · refine Or.inr ⟨q + 1, by simpa using h1, h2, hs.trans h3, fun r hr => ?_⟩
        cases r with
        | zero => exact e
        | succ r => exact h4 r (by omega)
theorem Mp.of_hit {ms : Tr} {i : Int} {k : Nat} (hk : k < ms.length) (he : Tr.l ms k = i) (h : ∀ q, q < k → Tr.l ms q ≠ i) : Mp.of ms i = Tr.d ms k := by
  rcases Mp.of_cases ms i with ⟨_, h2⟩ | ⟨q, h1, h2, h3, h4⟩
  · exact absurd he (h2 k hk)
  · have : q = k := by
      rcases Nat.lt_trichotomy q k with c | c | c
      · exact absurd h2 (h q c)
      · exact c
      · exact absurd he (h4 k c)
    rw [h3, this]
theorem Mp.of_none {ms : Tr} {i : Int} (h : ∀ q, q < ms.length → Tr.l ms q ≠ i) : Mp.of ms i = -1 := by
  rcases Mp.of_cases ms i with ⟨h1, _⟩ | ⟨q, h1, h2, _⟩
  · exact h1
  · exact absurd h2 (h q h1)
theorem Mp.of_skip {ms : Tr} {i : Int} {m : Nat} (hm : m < ms.length) (he : Tr.l ms m ≠ i) : Mp.of (ms.take (m + 1)) i = Mp.of (ms.take m) i := by
  have l1 : (ms.take m).length = m := by rw [List.length_take]; omega
  have l2 : (ms.take (m + 1)).length = m + 1 := by rw [List.length_take]; omega
  rcases Mp.of_cases (ms.take m) i with ⟨h1, h2⟩ | ⟨q, h1, h2, h3, h4⟩
  · rw [h1]
    refine Mp.of_none (fun q hq => ?_)
    rw [l2] at hq
    rw [Mp.l_take hq] at *
    rcases Nat.lt_succ_iff_lt_or_eq.1 hq with c | rfl
    · have := h2 q (by omega); rw [Mp.l_take c] at this; exact this
    · exact he
  · rw [l1] at h1
    rw [h3]
    rw [Mp.l_take h1] at h2
    rw [Mp.d_take h1, Mp.of_hit (k := q) (by omega) (by rw [Mp.l_take (show q < m + 1 by omega)]; exact h2) (fun r hr => by
      have := h4 r hr; rw [Mp.l_take (show r < m by omega)] at this; rw [Mp.l_take (show r < m + 1 by omega)]; exact this), Mp.d_take (show q < m + 1 by omega)]
theorem Mp.of_new {ms : Tr} {m : Nat} (hm : m < ms.length) (h : ∀ q, q < m → Tr.l ms q ≠ Tr.l ms m) : Mp.of (ms.take m) (Tr.l ms m) = -1 ∧ Mp.of (ms.take (m + 1)) (Tr.l ms m) = Tr.d ms m := by
  have l1 : (ms.take m).length = m := by rw [List.length_take]; omega
  have l2 : (ms.take (m + 1)).length = m + 1 := by rw [List.length_take]; omega
  refine ⟨Mp.of_none (fun q hq => ?_), ?_⟩
  · rw [l1] at hq; rw [Mp.l_take hq]; exact h q hq
  · rw [Mp.of_hit (k := m) (by rw [l2]; omega) (Mp.l_take (Nat.lt_add_one m)) (fun r hr => by rw [Mp.l_take (show r < m + 1 by omega)]; exact h r hr), Mp.d_take (Nat.lt_add_one m)]
def Mp.back : Tr → Int → Int
  | [], _ => -1
  | p :: r, i => if p.2 = i then p.1 else Mp.back r i
theorem Mp.back_cases : ∀ (ms : Tr) (i : Int), (Mp.back ms i = -1 ∧ ∀ q, q < ms.length → Tr.d ms q ≠ i) ∨ ∃ q, q < ms.length ∧ Tr.d ms q = i ∧ Mp.back ms i = Tr.l ms q ∧ ∀ r, r < q → Tr.d ms r ≠ i
  | [], i => Or.inl ⟨rfl, fun q hq => absurd hq (Nat.not_lt_zero q)⟩
  | p :: t, i => by
    by_cases e : p.2 = i
    · exact Or.inr ⟨0, Nat.zero_lt_succ _, e, by unfold Mp.back; rw [if_pos e]; rfl, fun r hr => absurd hr (Nat.not_lt_zero r)⟩
    · have hs : Mp.back (p :: t) i = Mp.back t i := by rw [Mp.back, if_neg e]
      rcases Mp.back_cases t i with ⟨h1, h2⟩ | ⟨q, h1, h2, h3, h4⟩
      · refine Or.inl ⟨hs.trans h1, fun q hq => ?_⟩
        cases q with
        | zero => exact e
        | succ q => exact h2 q (by simpa using hq)
      · refine Or.inr ⟨q + 1, by simpa using h1, h2, hs.trans h3, fun r hr => ?_⟩
        cases r with
        | zero => exact e
        | succ r => exact h4 r (by omega)
theorem Mp.back_hit {ms : Tr} {i : Int} {k : Nat} (hk : k < ms.length) (he : Tr.d ms k = i) (h : ∀ q, q < k → Tr.d ms q ≠ i) : Mp.back ms i = Tr.l ms k := by
  rcases Mp.back_cases ms i with ⟨_, h2⟩ | ⟨q, h1, h2, h3, h4⟩
  · exact absurd he (h2 k hk)
  · have : q = k := by
      rcases Nat.lt_trichotomy q k with c | c | c
      · exact absurd h2 (h q c)
      · exact c
      · exact absurd he (h4 k c)
    rw [h3, this]
theorem Mp.back_none {ms : Tr} {i : Int} (h : ∀ q, q < ms.length → Tr.d ms q ≠ i) : Mp.back ms i = -1 := by
  rcases Mp.back_cases ms i with ⟨h1, _⟩ | ⟨q, h1, h2, _⟩
  · exact h1
  · exact absurd h2 (h q h1)
theorem Mp.back_skip {ms : Tr} {i : Int} {m : Nat} (hm : m < ms.length) (he : Tr.d ms m ≠ i) : Mp.back (ms.take (m + 1)) i = Mp.back (ms.take m) i := by
  have l1 : (ms.take m).length = m := by rw [List.length_take]; omega
  have l2 : (ms.take (m + 1)).length = m + 1 := by rw [List.length_take]; omega
  rcases Mp.back_cases (ms.take m) i with ⟨h1, h2⟩ | ⟨q, h1, h2, h3, h4⟩
  · rw [h1]
    refine Mp.back_none (fun q hq => ?_)
    rw [l2] at hq
    rw [Mp.d_take hq] at *
    rcases Nat.lt_succ_iff_lt_or_eq.1 hq with c | rfl
    · have := h2 q (by omega); rw [Mp.d_take c] at this; exact this
    · exact he
  · rw [l1] at h1
    rw [h3]
    rw [Mp.d_take h1] at h2
    rw [Mp.l_take h1, Mp.back_hit (k := q) (by omega) (by rw [Mp.d_take (show q < m + 1 by omega)]; exact h2) (fun r hr => by
      have := h4 r hr; rw [Mp.d_take (show r < m by omega)] at this; rw [Mp.d_take (show r < m + 1 by omega)]; exact this), Mp.l_take (show q < m + 1 by omega)]
theorem Mp.back_new {ms : Tr} {m : Nat} (hm : m < ms.length) (h : ∀ q, q < m → Tr.d ms q ≠ Tr.d ms m) : Mp.back (ms.take m) (Tr.d ms m) = -1 ∧ Mp.back (ms.take (m + 1)) (Tr.d ms m) = Tr.l ms m := by
  have l1 : (ms.take m).length = m := by rw [List.length_take]; omega
  have l2 : (ms.take (m + 1)).length = m + 1 := by rw [List.length_take]; omega
  refine ⟨Mp.back_none (fun q hq => ?_), ?_⟩
  · rw [l1] at hq; rw [Mp.d_take hq]; exact h q hq
  · rw [Mp.back_hit (k := m) (by rw [l2]; omega) (Mp.d_take (Nat.lt_add_one m)) (fun r hr => by rw [Mp.d_take (show r < m + 1 by omega)]; exact h r hr), Mp.l_take (Nat.lt_add_one m)]
def Mp.gx (xs ys : Tr) (k : Co) (ms : Tr) (i : Nat) : Int := if Mp.of ms i < 0 then Co.del k (Tr.l xs i) else Co.rel k (Tr.l xs i) (Tr.l ys (Mp.of ms i).toNat)
def Mp.gy (ys : Tr) (k : Co) (ms : Tr) (j : Nat) : Int := if Mp.back ms j < 0 then Co.ins k (Tr.l ys j) else 0
/-- the cost of a mapping's first m pairs -/
def Mp.part (xs ys : Tr) (k : Co) (ms : Tr) (m : Nat) : Int := Mp.sum (Mp.gx xs ys k (ms.take m)) xs.length + Mp.sum (Mp.gy ys k (ms.take m)) ys.length
def Mp.cost (xs ys : Tr) (k : Co) (ms : Tr) : Int := if Mp.ok xs ys ms && Co.ok k then Mp.part xs ys k ms ms.length else -1
section
variable {xs ys ms : Tr} {k : Co}
theorem Mp.gx_bound (i : Nat) : 0 ≤ Mp.gx xs ys k ms i ∧ Mp.gx xs ys k ms i ≤ 1000 := by
  unfold Mp.gx
  split
  · exact (Co.nonneg' k).1 _
  · exact (Co.nonneg' k).2.2 _ _
theorem Mp.gy_bound (i : Nat) : 0 ≤ Mp.gy ys k ms i ∧ Mp.gy ys k ms i ≤ 1000 := by
  unfold Mp.gy
  split
  · exact (Co.nonneg' k).2.1 _
  · omega
theorem Mp.part_bound (hx : xs.length ≤ 24) (hy : ys.length ≤ 24) (m : Nat) : 0 ≤ Mp.part xs ys k ms m ∧ Mp.part xs ys k ms m ≤ 48000 := by
  have h1 := Mp.sum_bound (f := Mp.gx xs ys k (ms.take m)) Mp.gx_bound xs.length
  have h2 := Mp.sum_bound (f := Mp.gy ys k (ms.take m)) Mp.gy_bound ys.length
  unfold Mp.part
  omega
theorem Mp.part_zero : Mp.part xs ys k ms 0 = Mp.sum (fun i => Co.del k (Tr.l xs i)) xs.length + Mp.sum (fun j => Co.ins k (Tr.l ys j)) ys.length := by
  unfold Mp.part
  rfl
theorem Mp.part_succ {m a b : Nat} (hm : m < ms.length) (h : Mp.okAt xs ys ms m = true) (ha : Tr.l ms m = (a : Int)) (hb : Tr.d ms m = (b : Int)) :
    Mp.part xs ys k ms (m + 1) = Mp.part xs ys k ms m + (Co.rel k (Tr.l xs a) (Tr.l ys b) - Co.del k (Tr.l xs a) - Co.ins k (Tr.l ys b)) := by
  obtain ⟨h1, h2, h3⟩ := Mp.okAt_parts h
  simp only [Tr.has, Bool.and_eq_true, decide_eq_true_eq] at h1 h2
  have n1 := Mp.of_new hm (fun q hq => by have := (h3 q hq).1; omega)
  have n2 := Mp.back_new hm (fun q hq => by have := (h3 q hq).2.1; omega)
  have e1 : Mp.sum (Mp.gx xs ys k (ms.take (m + 1))) xs.length = Mp.sum (Mp.gx xs ys k (ms.take m)) xs.length + (Mp.gx xs ys k (ms.take (m + 1)) a - Mp.gx xs ys k (ms.take m) a) := by
    refine Mp.sum_change (fun i hi => ?_) (by omega)
    unfold Mp.gx
    rw [Mp.of_skip hm (by omega)]
  have e2 : Mp.sum (Mp.gy ys k (ms.take (m + 1))) ys.length = Mp.sum (Mp.gy ys k (ms.take m)) ys.length + (Mp.gy ys k (ms.take (m + 1)) b - Mp.gy ys k (ms.take m) b) := by
    refine Mp.sum_change (fun i hi => ?_) (by omega)
    unfold Mp.gy
    rw [Mp.back_skip hm (by omega)]
  rw [ha, hb] at n1
  rw [hb, ha] at n2
  have g1 : Mp.gx xs ys k (ms.take m) a = Co.del k (Tr.l xs a) := by unfold Mp.gx; rw [n1.1, if_pos (by omega)]
  have g2 : Mp.gx xs ys k (ms.take (m + 1)) a = Co.rel k (Tr.l xs a) (Tr.l ys b) := by unfold Mp.gx; rw [n1.2, if_neg (by omega)]; rfl
  have g3 : Mp.gy ys k (ms.take m) b = Co.ins k (Tr.l ys b) := by unfold Mp.gy; rw [n2.1, if_pos (by omega)]
  have g4 : Mp.gy ys k (ms.take (m + 1)) b = 0 := by unfold Mp.gy; rw [n2.2, if_neg (by omega)]
  unfold Mp.part
  rw [e1, e2, g1, g2, g3, g4]
  omega
theorem Mp.ok_all (h : Mp.ok xs ys ms = true) : Tr.ok xs = true ∧ Tr.ok ys = true ∧ ∀ q, q < ms.length → Mp.okAt xs ys ms q = true := by
  simp only [Mp.ok, Bool.and_eq_true] at h
  exact ⟨h.1.1, h.1.2, Mp.all_iff.1 h.2⟩
theorem Mp.pair_at {q : Nat} (h : Mp.okAt xs ys ms q = true) : ∃ a b : Nat, a < xs.length ∧ b < ys.length ∧ Tr.l ms q = (a : Int) ∧ Tr.d ms q = (b : Int) := by
  obtain ⟨h1, h2, _⟩ := Mp.okAt_parts h
  simp only [Tr.has, Bool.and_eq_true, decide_eq_true_eq] at h1 h2
  exact ⟨(Tr.l ms q).toNat, (Tr.d ms q).toNat, by omega, by omega, by omega, by omega⟩
/-- a node's partner -/
theorem Mp.of_at (h : Mp.ok xs ys ms = true) (i : Nat) : (Mp.of ms i = -1 ∧ Mp.gx xs ys k ms i = Co.del k (Tr.l xs i)) ∨ ∃ b : Nat, b < ys.length ∧ Mp.of ms i = (b : Int) ∧ Mp.gx xs ys k ms i = Co.rel k (Tr.l xs i) (Tr.l ys b) := by
  rcases Mp.of_cases ms i with ⟨h1, _⟩ | ⟨q, h1, h2, h3, _⟩
  · exact Or.inl ⟨h1, by unfold Mp.gx; rw [h1, if_pos (by omega)]⟩
  · obtain ⟨a, b, _, hb, _, hd⟩ := Mp.pair_at ((Mp.ok_all h).2.2 q h1)
    refine Or.inr ⟨b, hb, h3.trans hd, ?_⟩
    unfold Mp.gx
    rw [h3, hd, if_neg (by omega)]
    rfl
theorem Mp.back_at (h : Mp.ok xs ys ms = true) (j : Nat) : (Mp.back ms j = -1 ∧ Mp.gy ys k ms j = Co.ins k (Tr.l ys j)) ∨ ∃ a : Nat, Mp.back ms j = (a : Int) ∧ Mp.gy ys k ms j = 0 := by
  rcases Mp.back_cases ms j with ⟨h1, _⟩ | ⟨q, h1, h2, h3, _⟩
  · exact Or.inl ⟨h1, by unfold Mp.gy; rw [h1, if_pos (by omega)]⟩
  · obtain ⟨a, b, _, _, ha, _⟩ := Mp.pair_at ((Mp.ok_all h).2.2 q h1)
    exact Or.inr ⟨a, h3.trans ha, by unfold Mp.gy; rw [h3, ha, if_neg (by omega)]⟩
theorem Mp.part_all : Mp.part xs ys k ms ms.length = Mp.sum (Mp.gx xs ys k ms) xs.length + Mp.sum (Mp.gy ys k ms) ys.length := by
  unfold Mp.part
  rw [List.take_length]
end

end Go.Proofs.Ytlndaflhlkbedaa

/- Contracts (Tur). -/
namespace Go.Proofs.Ytlndaflhlkbedaa
open Go.RowKit
set_option linter.unusedVariables false

/-- the first pair is that of the roots -/
def Tr.rooted (xs : Tr) : Bool := decide (0 < xs.length) && (decide (Tr.l xs 0 = 0) && decide (Tr.d xs 0 = 0))
/-- each pair the other way round -/
def Tr.turn (xs : Tr) : Tr := xs.map (fun q => (q.2, q.1))
theorem Tr.turn_length (xs : Tr) : (Tr.turn xs).length = xs.length := by simp [Tr.turn]
theorem Tr.turn_l (xs : Tr) {k : Nat} (hk : k < xs.length) : Tr.l (Tr.turn xs) k = Tr.d xs k := by simp [Tr.turn, Tr.l, Tr.d, List.getD_eq_getElem?_getD, hk]
theorem Tr.turn_d (xs : Tr) {k : Nat} (hk : k < xs.length) : Tr.d (Tr.turn xs) k = Tr.l xs k := by simp [Tr.turn, Tr.l, Tr.d, List.getD_eq_getElem?_getD, hk]
def Tr.turnTo (xs : Tr) (k : Nat) : Tr := (Tr.turn xs).take k
theorem Tr.turnTo_length (xs : Tr) {k : Nat} (hk : k ≤ xs.length) : (Tr.turnTo xs k).length = k := by simp [Tr.turnTo, Tr.turn]; omega
theorem Tr.turnTo_succ (xs : Tr) {k : Nat} (hk : k < xs.length) : Tr.turnTo xs (k + 1) = Tr.turnTo xs k ++ [(Tr.d xs k, Tr.l xs k)] := by
  unfold Tr.turnTo
  rw [List.take_succ_eq_append_getElem (by rw [Tr.turn_length]; exact hk)]
  congr 1
  simp [Tr.turn, Tr.l, Tr.d, List.getD_eq_getElem?_getD, hk]
theorem Tr.turnTo_all (xs : Tr) : Tr.turnTo xs xs.length = Tr.turn xs := by unfold Tr.turnTo; rw [← Tr.turn_length, List.take_length]

end Go.Proofs.Ytlndaflhlkbedaa

/- Contracts (Un). -/
namespace Go.Proofs.Ytlndaflhlkbedaa
open Go.RowKit
set_option linter.unusedVariables false

/-- is a the first of one of the first k pairs? -/
def Un.has (ms : Tr) (a : Int) : Nat → Bool
  | 0 => false
  | k + 1 => Un.has ms a k || decide (Tr.l ms k = a)
/-- the places below i that are first of no pair -/
def Un.to (ms : Tr) : Nat → List Int
  | 0 => []
  | i + 1 => if Un.has ms (i : Int) ms.length = true then Un.to ms i else Un.to ms i ++ [(i : Int)]
theorem Un.has_up {ms : Tr} {a : Int} {k : Nat} (h : Un.has ms a k = true) : ∀ m, k ≤ m → Un.has ms a m = true := by
  intro m
  induction m with
  | zero => intro hk; obtain rfl : k = 0 := by omega
            exact h
  | succ m ih =>
    intro hk
    by_cases e : k = m + 1
    · rw [← e]; exact h
    · rw [Un.has, ih (by omega)]; rfl
theorem Un.has_hit {ms : Tr} {a : Int} {k m : Nat} (h : Tr.l ms k = a) (hk : k < m) : Un.has ms a m = true := Un.has_up (k := k + 1) (by rw [Un.has, decide_eq_true h, Bool.or_true]) m (by omega)
theorem Un.has_next {ms : Tr} {a : Int} {k : Nat} (h : Un.has ms a k = false) (hne : ¬ Tr.l ms k = a) : Un.has ms a (k + 1) = false := by rw [Un.has, h, decide_eq_false hne]; rfl
theorem Un.has_iff {ms : Tr} {a : Int} : ∀ k, Un.has ms a k = true ↔ ∃ q, q < k ∧ Tr.l ms q = a := by
  intro k
  constructor
  · induction k with
    | zero => intro h; exact absurd h (by simp [Un.has])
    | succ k ih =>
      intro h
      rw [Un.has, Bool.or_eq_true] at h
      rcases h with h | h
      · obtain ⟨q, h1, h2⟩ := ih h; exact ⟨q, by omega, h2⟩
      · exact ⟨k, by omega, of_decide_eq_true h⟩
  · rintro ⟨q, h1, h2⟩; exact Un.has_hit h2 h1
theorem Un.to_len (ms : Tr) : ∀ i, (Un.to ms i).length ≤ i
  | 0 => Nat.le_refl _
  | i + 1 => by
    have h := Un.to_len ms i
    unfold Un.to
    split
    · omega
    · rw [List.length_append, List.length_singleton]; omega
theorem Un.to_yes {ms : Tr} {i : Nat} (h : Un.has ms (i : Int) ms.length = true) : Un.to ms (i + 1) = Un.to ms i := by rw [Un.to, if_pos h]
theorem Un.to_no {ms : Tr} {i : Nat} (h : Un.has ms (i : Int) ms.length = false) : Un.to ms (i + 1) = Un.to ms i ++ [(i : Int)] := by rw [Un.to, if_neg (by rw [h]; decide)]
theorem Un.to_bound (ms : Tr) (i : Nat) (hi : i ≤ 1048576) : (Un.to ms i).length ≤ 1048576 := Nat.le_trans (Un.to_len ms i) hi
/-- a row of bools -/
def bools (f : Nat → Bool) (n : Nat) : List Value := (List.range n).map fun j => Value.bool (f j)
theorem bools_length (f : Nat → Bool) (n : Nat) : (bools f n).length = n := by simp [bools]
theorem bools_at (f : Nat → Bool) {n j : Nat} (h : j < n) : (bools f n)[j]? = some (.bool (f j)) := by simp [bools, h]
theorem bools_congr {f g : Nat → Bool} {n : Nat} (h : ∀ j, j < n → f j = g j) : bools f n = bools g n := List.map_congr_left fun j hj => by rw [h j (List.mem_range.1 hj)]
theorem bools_set (f : Nat → Bool) {n t : Nat} (h : t < n) : (bools f n).set t (.bool true) = bools (fun j => f j || decide (t = j)) n := by
  apply List.ext_getElem?
  intro j
  rw [List.getElem?_set, bools_length]
  by_cases e : t = j
  · subst e; rw [if_pos rfl, if_pos h, bools_at _ h]; simp
  · rw [if_neg e]
    by_cases hj : j < n
    · rw [bools_at _ hj, bools_at _ hj]; simp [e]
    · rw [List.getElem?_eq_none (by rw [bools_length]; omega), List.getElem?_eq_none (by rw [bools_length]; omega)]

end Go.Proofs.Ytlndaflhlkbedaa

/- Contracts (Bm4). -/
namespace Go.Proofs.Ytlndaflhlkbedaa
open Go.RowKit
set_option linter.unusedVariables false

section
variable {xs ys : Tr} {k : Co}
theorem pr_at (L : Tr) {i : Nat} (h : i < L.length) : L[i] = (Tr.l L i, Tr.d L i) := by simp [Tr.l, Tr.d, List.getD_eq_getElem?_getD, h]
/-- pairs in order are a valid mapping -/
theorem Bm.ok_of {L : Tr} (hx : Tr.ok xs = true) (hy : Tr.ok ys = true) (h : L.Pairwise (Bm.R xs ys)) (hin : ∀ e ∈ L, Bm.inn xs ys 0 xs.length 0 ys.length e) : Mp.ok xs ys L = true := by
  rw [Mp.ok_yes, hx, hy]
  · rfl
  · intro i hi
    have e1 := pr_at L hi
    obtain ⟨u, v, e2, _, hu, _, hv⟩ := hin L[i] (List.getElem_mem hi)
    rw [e1] at e2
    injection e2 with e3 e4
    refine Mp.okAt_yes (by rw [e3]; exact Tr.has_nd hx hu) (by rw [e4]; exact Tr.has_nd hy hv) (fun m hm => ?_)
    have r := List.pairwise_iff_getElem.1 h m i (by omega) hi hm
    rw [e1, pr_at L (show m < L.length by omega)] at r
    exact Mp.at_yes r.1 r.2.1 r.2.2
/-- what a pair takes off -/
def Bm.w (xs ys : Tr) (k : Co) (e : Int × Int) : Int := Co.rel k (Tr.l xs e.1.toNat) (Tr.l ys e.2.toNat) - Co.del k (Tr.l xs e.1.toNat) - Co.ins k (Tr.l ys e.2.toNat)
def Bm.ws (xs ys : Tr) (k : Co) : Tr → Int
  | [] => 0
  | e :: L => Bm.w xs ys k e + Bm.ws xs ys k L
theorem Bm.ws_app (A B : Tr) : Bm.ws xs ys k (A ++ B) = Bm.ws xs ys k A + Bm.ws xs ys k B := by
  induction A with
  | nil => simp [Bm.ws]
  | cons e A ih => rw [List.cons_append, Bm.ws, ih, Bm.ws]; omega
theorem Bm.part_ws {L : Tr} (h : Mp.ok xs ys L = true) : ∀ m, m ≤ L.length → Mp.part xs ys k L m = Mp.part xs ys k L 0 + Bm.ws xs ys k (L.take m)
  | 0, _ => by simp [Bm.ws]
  | m + 1, hm => by
    have ih := Bm.part_ws h m (by omega)
    have hk := (Mp.ok_all h).2.2 m (by omega)
    obtain ⟨a, b, _, _, ha, hb⟩ := Mp.pair_at hk
    rw [Mp.part_succ (by omega) hk ha hb, ih, List.take_add_one, List.getElem?_eq_getElem (show m < L.length by omega), pr_at L (show m < L.length by omega), ha, hb, Bm.ws_app]
    simp only [Option.toList_some, Bm.ws, Bm.w, Int.toNat_natCast]
    omega
/-- sums over an interval of places -/
def Bm.sx (xs : Tr) (f : Int → Int) (i j : Nat) : Int := Mp.sum (fun u => f (Tr.xa xs u)) j - Mp.sum (fun u => f (Tr.xa xs u)) i
theorem Bm.sx_self (f : Int → Int) (i : Nat) : Bm.sx xs f i i = 0 := by unfold Bm.sx; omega
theorem Bm.sx_succ (f : Int → Int) (i j : Nat) (h : 0 < j) : Bm.sx xs f i j = Bm.sx xs f i (j - 1) + f (Tr.xa xs (j - 1)) := by
  obtain ⟨m, rfl⟩ : ∃ m, j = m + 1 := ⟨j - 1, by omega⟩
  unfold Bm.sx
  simp only [Mp.sum, Nat.add_sub_cancel]
  omega
theorem Bm.sx_cat (f : Int → Int) (i m j : Nat) : Bm.sx xs f i j = Bm.sx xs f i m + Bm.sx xs f m j := by unfold Bm.sx; omega
theorem Bm.rr_del (hx : Tr.ok xs = true) {i p : Nat} : ∀ j, i ≤ j → j ≤ xs.length → RR xs ys k i j p p = Bm.sx xs (Co.del k) i j := by
  intro j
  induction j with
  | zero => intro h _; obtain rfl : i = 0 := by omega
            rw [Bm.sx_self]; exact RD_none (Nat.le_refl _) (Nat.le_refl _)
  | succ j ih =>
    intro h hj
    by_cases e : i = j + 1
    · subst e; rw [Bm.sx_self]; exact RD_none (Nat.le_refl _) (Nat.le_refl _)
    · have := RD_left (K := Co.cs k) (lb := Tr.la ys) (x := Tr.xa xs) (y := Tr.xa ys) (Tr.la_nest hx) (i := i) (j := j) (k := p) (l := p) (by omega) (by omega) (Nat.le_refl _)
      rw [Bm.sx_succ _ _ _ (by omega), Nat.add_sub_cancel, ← ih (by omega) (by omega)]
      exact this
theorem Bm.rr_ins (hy : Tr.ok ys = true) {i p : Nat} : ∀ q, p ≤ q → q ≤ ys.length → RR xs ys k i i p q = Bm.sx ys (Co.ins k) p q := by
  intro q
  induction q with
  | zero => intro h _; obtain rfl : p = 0 := by omega
            rw [Bm.sx_self]; exact RD_none (Nat.le_refl _) (Nat.le_refl _)
  | succ q ih =>
    intro h hj
    by_cases e : p = q + 1
    · subst e; rw [Bm.sx_self]; exact RD_none (Nat.le_refl _) (Nat.le_refl _)
    · have := RD_right (K := Co.cs k) (la := Tr.la xs) (x := Tr.xa xs) (y := Tr.xa ys) (Tr.la_nest hy) (i := i) (j := i) (k := p) (l := q) (Nat.le_refl _) (by omega) (by omega)
      rw [Bm.sx_succ _ _ _ (by omega), Nat.add_sub_cancel, ← ih (by omega) (by omega)]
      exact this
theorem Bm.go_cost (hx : Tr.ok xs = true) (hy : Tr.ok ys = true) {i j p q : Nat} (hij : i ≤ j) (hj : j ≤ xs.length) (hpq : p ≤ q) (hq : q ≤ ys.length) :
    Bm.sx xs (Co.del k) i j + Bm.sx ys (Co.ins k) p q + Bm.ws xs ys k (Bm.go (Bm.cP xs ys) xs ys k i j p q) = RR xs ys k i j p q := by
  refine Bm.go_ind (M := fun i j p q L => i ≤ j → p ≤ q → j ≤ xs.length → q ≤ ys.length → Bm.sx xs (Co.del k) i j + Bm.sx ys (Co.ins k) p q + Bm.ws xs ys k L = RR xs ys k i j p q) hx hy ?_ ?_ ?_ ?_ (j - i + (q - p) + 1) i j p q (by omega) hj hq hij hpq hj hq
  · intro i j p q h h1 h2 h3 h4
    simp only [Bm.ws]
    rcases h with h | h
    · obtain rfl : i = j := by omega
      rw [Bm.rr_ins hy q h2 h4, Bm.sx_self]; omega
    · obtain rfl : p = q := by omega
      rw [Bm.rr_del hx j h1 h3, Bm.sx_self (xs := ys)]; omega
  · intro i j p q L h1 h2 h3 h4 h h5 h6 h7 h8 h9
    have := h5 (by omega) (by omega) (by omega) (by omega)
    rw [Bm.sx_succ _ _ j (by omega), h, ← this]; omega
  · intro i j p q L h1 h2 h3 h4 _ h h5 h6 h7 h8 h9
    have := h5 (by omega) (by omega) (by omega) (by omega)
    rw [Bm.sx_succ (xs := ys) _ _ q (by omega), h, ← this]; omega
  · intro i j p q P Q A B h1 h2 h3 h4 hP hQ hP1 hQ1 _ _ h hA hB h6 h7 h8 h9
    have a := hA (by omega) (by omega) (by omega) (by omega)
    have b := hB (by omega) (by omega) (by omega) (by omega)
    have cx : Tr.xa xs (j - 1) = Tr.l xs (Tr.nd xs (j - 1)) := (Tr.nd_at hx (by omega)).2.2.2
    have cy : Tr.xa ys (q - 1) = Tr.l ys (Tr.nd ys (q - 1)) := (Tr.nd_at hy (by omega)).2.2.2
    unfold Bm.cP
    rw [Bm.ws_app, Bm.ws_app, Bm.sx_succ _ _ j (by omega), Bm.sx_succ (xs := ys) _ _ q (by omega), Bm.sx_cat (xs := xs) _ i P (j - 1), Bm.sx_cat (xs := ys) _ p Q (q - 1), h, ← a, ← b]
    simp only [Bm.ws, Bm.w, Int.toNat_natCast]
    rw [← cx, ← cy]
    omega
/-- sums over all nodes, by nodes and by places -/
theorem sum_add (f g : Nat → Int) : ∀ n, Mp.sum (fun i => f i + g i) n = Mp.sum f n + Mp.sum g n
  | 0 => rfl
  | n + 1 => by
    have := sum_add f g n
    simp only [Mp.sum]
    omega
theorem sum_zero : ∀ n, Mp.sum (fun _ => 0) n = 0
  | 0 => rfl
  | n + 1 => by have := sum_zero n; simp only [Mp.sum]; omega
theorem sum_swap (f : Nat → Nat → Int) (n : Nat) : ∀ m, Mp.sum (fun i => Mp.sum (fun j => f i j) m) n = Mp.sum (fun j => Mp.sum (fun i => f i j) n) m
  | 0 => by simp only [Mp.sum]; exact sum_zero n
  | m + 1 => by
    have := sum_swap f n m
    simp only [Mp.sum]
    rw [sum_add, this]
theorem sum_one (g : Nat → Int) (a : Nat) : ∀ n, Mp.sum (fun i => if i = a then g i else 0) n = if a < n then g a else 0
  | 0 => by simp [Mp.sum]
  | n + 1 => by
    have := sum_one g a n
    simp only [Mp.sum]
    rw [this]
    by_cases e : n = a
    · subst e; simp
    · rw [if_neg e]
      by_cases c : a < n
      · rw [if_pos c, if_pos (by omega)]; omega
      · rw [if_neg c, if_neg (by omega)]; omega
theorem sum_post (hx : Tr.ok xs = true) (f : Int → Int) : Mp.sum (fun i => f (Tr.l xs i)) xs.length = Mp.sum (fun u => f (Tr.xa xs u)) xs.length := by
  have e1 : Mp.sum (fun u => f (Tr.xa xs u)) xs.length = Mp.sum (fun u => Mp.sum (fun i => if i = Tr.nd xs u then f (Tr.l xs i) else 0) xs.length) xs.length := by
    refine Mp.sum_congr fun u hu => ?_
    obtain ⟨a, _, _, b⟩ := Tr.nd_at hx hu
    rw [sum_one (fun i => f (Tr.l xs i)), if_pos a, b]
  have e2 : Mp.sum (fun i => f (Tr.l xs i)) xs.length = Mp.sum (fun i => Mp.sum (fun u => if i = Tr.nd xs u then f (Tr.l xs i) else 0) xs.length) xs.length := by
    refine Mp.sum_congr fun i hi => ?_
    have hr := Tr.rk_lt hx hi
    have : ∀ u, u < xs.length → (if i = Tr.nd xs u then f (Tr.l xs i) else 0) = (if u = Tr.rk xs i then f (Tr.l xs i) else 0) := fun u hu => by
      by_cases e : i = Tr.nd xs u
      · rw [if_pos e, if_pos (by rw [e, (Tr.nd_at hx hu).2.1])]
      · rw [if_neg e, if_neg (fun h => e (by rw [h, Tr.nd_rk hx hi]))]
    rw [Mp.sum_congr this, sum_one (fun _ => f (Tr.l xs i)), if_pos hr]
  rw [e1, e2, sum_swap]
theorem Bm.best_ok (hx : Tr.ok xs = true) (hy : Tr.ok ys = true) : Mp.ok xs ys (Bm.mt (Bm.cP xs ys) xs ys k 0 xs.length 0 ys.length) = true := by
  obtain ⟨_, h2, h3, _⟩ := Bm.mt_facts (k := k) hx hy
  exact Bm.ok_of hx hy h2 h3
theorem Bm.best_cost (hx : Tr.ok xs = true) (hy : Tr.ok ys = true) (hk : Co.ok k = true) : Mp.cost xs ys k (Bm.mt (Bm.cP xs ys) xs ys k 0 xs.length 0 ys.length) = Tr.rootDist xs ys k := by
  have x1 := (Tr.len24 hx).1
  have y1 := (Tr.len24 hy).1
  have hok := Bm.best_ok (k := k) hx hy
  obtain ⟨_, _, _, _, _, B, hB, hB2⟩ := Bm.mt_facts (k := k) hx hy
  have hc := Bm.go_cost (k := k) hx hy (i := 0) (j := xs.length - 1) (p := 0) (q := ys.length - 1) (by omega) (by omega) (by omega) (by omega)
  have hw := Bm.part_ws (k := k) hok _ (Nat.le_refl _)
  rw [List.take_length] at hw
  unfold Mp.cost Tr.rootDist
  rw [hok, hk, hx, hy, hw]
  simp only [Bool.and_self, if_true]
  rw [Mp.part_zero, sum_post hx, sum_post hy, hB, hB2, ← hc]
  have s1 := Bm.sx_succ (xs := xs) (Co.del k) 0 xs.length (by omega)
  have s2 := Bm.sx_succ (xs := ys) (Co.ins k) 0 ys.length (by omega)
  unfold Bm.sx at s1 s2 ⊢
  simp only [Mp.sum] at s1 s2 ⊢
  have t1 := Tr.xa_last hx
  have t2 := Tr.xa_last hy
  simp only [Bm.ws, Bm.w]
  rw [t1] at s1
  rw [t2] at s2
  simp only [Int.toNat_zero]
  omega
/-- nodes that belong to none, and those that do, are all -/
theorem Un.count {L : Tr} (h : L.Pairwise fun e e' => e.1 < e'.1) (h0 : ∀ e ∈ L, 0 ≤ e.1) : ∀ i, (Un.to L i).length + (L.filter fun e => decide (e.1 < (i : Int))).length = i
  | 0 => by
    rw [List.filter_eq_nil_iff.2 fun e he => by have := h0 e he; simp; omega]
    rfl
  | i + 1 => by
    have ih := Un.count h h0 i
    rw [← asc_split h i, List.length_append]
    cases hh : Un.has L (i : Int) L.length with
    | true =>
      rw [Un.to_yes hh]
      obtain ⟨q, hq, hl⟩ := (Un.has_iff _).1 hh
      have hm : L[q] ∈ (L.filter fun e => decide (e.1 = (i : Int))) := List.mem_filter.2 ⟨List.getElem_mem hq, by rw [pr_at L hq]; simpa using hl⟩
      rcases one_key h (i : Int) with hn | ⟨x, hx⟩
      · rw [hn] at hm; cases hm
      · rw [hx, List.length_singleton]; omega
    | false =>
      rw [Un.to_no hh, List.length_append, List.length_singleton]
      have : (L.filter fun e => decide (e.1 = (i : Int))) = [] := List.filter_eq_nil_iff.2 fun e he => by
        intro h2
        obtain ⟨q, hq, rfl⟩ := List.getElem_of_mem he
        rw [pr_at L hq] at h2
        have h3 := (Un.has_iff (ms := L) (a := (i : Int)) L.length).2 ⟨q, hq, by simpa using h2⟩
        rw [hh] at h3; cases h3
      rw [this]
      simp only [List.length_nil]
      omega
theorem Un.count_all {L : Tr} {n : Nat} (h : L.Pairwise fun e e' => e.1 < e'.1) (h0 : ∀ e ∈ L, 0 ≤ e.1 ∧ e.1 < (n : Int)) : (Un.to L n).length + L.length = n := by
  have := Un.count h (fun e he => (h0 e he).1) n
  rw [List.filter_eq_self.2 fun e he => by have := (h0 e he).2; simpa using this] at this
  exact this
theorem Bm.best_counts (hx : Tr.ok xs = true) (hy : Tr.ok ys = true) : (Un.to (Bm.mt (Bm.cP xs ys) xs ys k 0 xs.length 0 ys.length) xs.length).length + (Bm.mt (Bm.cP xs ys) xs ys k 0 xs.length 0 ys.length).length = xs.length ∧
    (Un.to (Tr.turn (Bm.mt (Bm.cP xs ys) xs ys k 0 xs.length 0 ys.length)) ys.length).length + (Bm.mt (Bm.cP xs ys) xs ys k 0 xs.length 0 ys.length).length = ys.length := by
  obtain ⟨_, h2, h3, _⟩ := Bm.mt_facts (k := k) hx hy
  refine ⟨Un.count_all (h2.imp (fun h => h.1)) (fun e he => ?_), ?_⟩
  · obtain ⟨u, v, rfl, _, hu, _, _⟩ := h3 e he
    have := (Tr.nd_at hx hu).1
    exact ⟨by simp, by simpa using this⟩
  · have := Un.count_all (n := ys.length) (L := Tr.turn (Bm.mt (Bm.cP xs ys) xs ys k 0 xs.length 0 ys.length)) (by
      unfold Tr.turn
      rw [List.pairwise_map]
      exact h2.imp (fun h => h.2.1)) (fun e he => by
      unfold Tr.turn at he
      obtain ⟨e', he', rfl⟩ := List.mem_map.1 he
      obtain ⟨u, v, rfl, _, _, _, hv⟩ := h3 e' he'
      have := (Tr.nd_at hy hv).1
      exact ⟨by simp, by simpa using this⟩)
    rw [Tr.turn_length] at this
    exact this
theorem Bm.best_rooted (hx : Tr.ok xs = true) (hy : Tr.ok ys = true) : Tr.rooted (Bm.mt (Bm.cP xs ys) xs ys k 0 xs.length 0 ys.length) = true := by
  obtain ⟨_, _, _, _, _, B, hB, _⟩ := Bm.mt_facts (k := k) hx hy
  rw [hB]
  simp [Tr.rooted, Tr.l, Tr.d]
end

end Go.Proofs.Ytlndaflhlkbedaa
