/- Texts of one claim laid into one file, in build order: Com, Bm, StepP, WlkS, BmD, Bm2, Bm3, BesS. -/
import Derived.Test.YtlndaflhlkbedaaMg19
import Derived.Maps.AppendAt
/- Contracts (Com). -/
namespace Go.Proofs.Ytlndaflhlkbedaa
open Go.RowKit
set_option linter.unusedVariables false

/-- where b leads, by the first k pairs -/
def Cp.out (ns : Tr) (b : Int) : Nat → List Int
  | 0 => []
  | k + 1 => if b = Tr.l ns k then Cp.out ns b k ++ [Tr.d ns k] else Cp.out ns b k
/-- the pairs of a by way of b -/
def Cp.row (a : Int) (zs : List Int) : Tr := zs.map fun z => (a, z)
def Cp.to (ms ns : Tr) : Nat → Tr
  | 0 => []
  | i + 1 => Cp.to ms ns i ++ Cp.row (Tr.l ms i) (Cp.out ns (Tr.d ms i) ns.length)
def Cp.all (ms ns : Tr) : Tr := Cp.to ms ns ms.length
theorem Cp.out_len (ns : Tr) (b : Int) : ∀ k, (Cp.out ns b k).length ≤ k
  | 0 => Nat.le_refl _
  | k + 1 => by
    have h := Cp.out_len ns b k
    unfold Cp.out
    split
    · rw [List.length_append, List.length_singleton]; omega
    · omega
theorem Cp.row_len (a : Int) (zs : List Int) : (Cp.row a zs).length = zs.length := by simp [Cp.row]
theorem Cp.out_yes {ns : Tr} {b : Int} {k : Nat} (h : b = Tr.l ns k) : Cp.out ns b (k + 1) = Cp.out ns b k ++ [Tr.d ns k] := by rw [Cp.out, if_pos h]
theorem Cp.out_no {ns : Tr} {b : Int} {k : Nat} (h : ¬ b = Tr.l ns k) : Cp.out ns b (k + 1) = Cp.out ns b k := by rw [Cp.out, if_neg h]
theorem Cp.row_add (a : Int) (zs : List Int) (z : Int) : Cp.row a (zs ++ [z]) = Cp.row a zs ++ [(a, z)] := by simp [Cp.row]
theorem Cp.to_len (ms ns : Tr) : ∀ i, (Cp.to ms ns i).length ≤ i * ns.length
  | 0 => by simp [Cp.to]
  | i + 1 => by
    have h := Cp.to_len ms ns i
    have h2 := Cp.out_len ns (Tr.d ms i) ns.length
    rw [Cp.to, List.length_append, Cp.row_len, Nat.succ_mul]
    omega
theorem Cp.to_bound (ms ns : Tr) {i : Nat} (hi : i ≤ 1048576) (hn : ns.length ≤ 1048576) : (Cp.to ms ns i).length ≤ 1099511627776 := Nat.le_trans (Cp.to_len ms ns i) (Nat.mul_le_mul hi hn)
theorem Cp.all_bound (ms ns : Tr) (hi : ms.length ≤ 1048576) (hn : ns.length ≤ 1048576) : (Cp.all ms ns).length ≤ 1099511627776 := Cp.to_bound ms ns hi hn
open Go.RowKit in
/-- one pair appended to a row of one's own, however long -/
theorem step_append_pair {P : Program} {ops : Array Oper} {o : Oper} {a : Act} (w : World) {K : Act → World → Prop} {Q : Exit → Act → World → Prop} {E : Prop} (hgd : o.guard = none) (s x : Operand) (t : TypeId)
    (ho : o.op = .call { callee := .builtin .append, args := #[s, x], argTypes := #[t, t] })
    (base : Nat) (e : TypeId) (i : TypeInfo) (ht : P.underlying t = some (.slice e)) (hi : P.info? e = some i) (hz : i.zero = some (.agg #[.int .i64 0, .int .i64 0]))
    (hsize : i.size = 2) (hby : i.bytes = 16) (v : Value) (n : Nat) (l : Tr) (hs : a.eval s = v) (hown : w.ownsRow base e 2 v n (Tr.cells l)) (hn : n = l.length)
    (b1 b2 : Int) (hx : a.eval x = .slice (some ⟨w.heap.size, 0, none⟩) 1 1)
    (h63 : l.length + 1 ≤ 4398046511104) (hbase : base ≤ w.heap.size)
    (h : ∀ v' w', w'.ownsRow base e 2 v' (l ++ [(b1, b2)]).length (Tr.cells (l ++ [(b1, b2)])) → (w.alloc (.cells #[.int .i64 b1, .int .i64 b2] e)).grownBy w' v.ownBlock → K (a.put o.dst v') w') :
    if Region.wanted o (yielded ops a.tmps) = true then Oper.wp P o a (w.alloc (.cells #[.int .i64 b1, .int .i64 b2] e)) K Q else E := by
  have hw : Region.wanted o (yielded ops a.tmps) = true := by simp [Region.wanted, hgd]
  rw [if_pos hw]
  subst hn
  refine wp_append_own _ s x t ho base e i (.agg #[.int .i64 0, .int .i64 0]) 2 16 ht hi hz hsize hby rfl (by decide) v l.length (Tr.cells l) hs (hown.alloc _) ⟨w.heap.size, 0, none⟩ 1 1 (Tr.cells [(b1, b2)]) hx (by simp [Tr.cells]) ?_ (Tr.cells_cell _) (by unfold maxLen; omega) (by omega) (by simp; omega) ?_
  · intro j u hj
    have hj2 : j < 2 := by
      have := (List.getElem?_eq_some_iff.1 hj).1
      simpa [Tr.cells] using this
    have : j = 0 ∨ j = 1 := by omega
    rcases this with rfl | rfl <;> (simp [Tr.cells] at hj; subst hj; simp [Addr.add])
  · intro v' w' h2 h3 _
    refine h v' w' ?_ h3
    rw [Tr.cells_append, List.length_append]
    exact h2

end Go.Proofs.Ytlndaflhlkbedaa

/- Contracts (Bm). -/
namespace Go.Proofs.Ytlndaflhlkbedaa
open Go.RowKit
set_option linter.unusedVariables false

/-- pairs of a mapping of least cost between two ranges of places; cmb lays a pair beside what stands ahead of it and below it -/
def Bm.go (cmb : Tr → Nat → Nat → Tr → Tr) (xs ys : Tr) (k : Co) (i j p q : Nat) : Tr :=
  if j ≤ i ∨ q ≤ p then []
  else if RR xs ys k i j p q = RR xs ys k i (j - 1) p q + Co.del k (Tr.xa xs (j - 1)) then Bm.go cmb xs ys k i (j - 1) p q
  else if RR xs ys k i j p q = RR xs ys k i j p (q - 1) + Co.ins k (Tr.xa ys (q - 1)) then Bm.go cmb xs ys k i j p (q - 1)
  else cmb (Bm.go cmb xs ys k i (min (j - 1) (max i (Tr.la xs (j - 1)))) p (min (q - 1) (max p (Tr.la ys (q - 1))))) (j - 1) (q - 1)
    (Bm.go cmb xs ys k (min (j - 1) (max i (Tr.la xs (j - 1)))) (j - 1) (min (q - 1) (max p (Tr.la ys (q - 1)))) (q - 1))
termination_by (j - i) + (q - p)
decreasing_by all_goals omega
/-- the last ones of both together -/
def Bm.mt (cmb : Tr → Nat → Nat → Tr → Tr) (xs ys : Tr) (k : Co) (i j p q : Nat) : Tr :=
  cmb (Bm.go cmb xs ys k i (max i (Tr.la xs (j - 1))) p (max p (Tr.la ys (q - 1)))) (j - 1) (q - 1)
    (Bm.go cmb xs ys k (max i (Tr.la xs (j - 1))) (j - 1) (max p (Tr.la ys (q - 1))) (q - 1))
/-- the node at a place -/
def Tr.nd (xs : Tr) (u : Nat) : Nat := (Tr.post xs).getD u 0
/-- the model's order: by places, the pair last -/
def Bm.cS (a : Tr) (u v : Nat) (b : Tr) : Tr := a ++ b ++ [((u : Int), (v : Int))]
/-- the program's order: nodes, the pair between -/
def Bm.cP (xs ys : Tr) (a : Tr) (u v : Nat) (b : Tr) : Tr := a ++ [((Tr.nd xs u : Int), (Tr.nd ys v : Int))] ++ b
section
variable {cmb : Tr → Nat → Nat → Tr → Tr} {xs ys : Tr} {k : Co} {i j p q : Nat}
theorem Bm.go_none (h : j ≤ i ∨ q ≤ p) : Bm.go cmb xs ys k i j p q = [] := by rw [Bm.go, if_pos h]
theorem Bm.go_del (h1 : i < j) (h2 : p < q) (h : RR xs ys k i j p q = RR xs ys k i (j - 1) p q + Co.del k (Tr.xa xs (j - 1))) : Bm.go cmb xs ys k i j p q = Bm.go cmb xs ys k i (j - 1) p q := by
  rw [Bm.go, if_neg (by omega), if_pos h]
theorem Bm.go_ins (h1 : i < j) (h2 : p < q) (h : ¬ RR xs ys k i j p q = RR xs ys k i (j - 1) p q + Co.del k (Tr.xa xs (j - 1))) (h' : RR xs ys k i j p q = RR xs ys k i j p (q - 1) + Co.ins k (Tr.xa ys (q - 1))) : Bm.go cmb xs ys k i j p q = Bm.go cmb xs ys k i j p (q - 1) := by
  rw [Bm.go, if_neg (by omega), if_neg h, if_pos h']
theorem Bm.go_both (hx : Tr.ok xs = true) (hy : Tr.ok ys = true) (h1 : i < j) (h2 : p < q) (hj : j ≤ xs.length) (hq : q ≤ ys.length) (h : ¬ RR xs ys k i j p q = RR xs ys k i (j - 1) p q + Co.del k (Tr.xa xs (j - 1))) (h' : ¬ RR xs ys k i j p q = RR xs ys k i j p (q - 1) + Co.ins k (Tr.xa ys (q - 1))) :
    Bm.go cmb xs ys k i j p q = Bm.mt cmb xs ys k i j p q := by
  have a := (Tr.la_nest hx (j - 1) (by omega)).1
  have b := (Tr.la_nest hy (q - 1) (by omega)).1
  rw [Bm.go, if_neg (by omega), if_neg h, if_neg h', show min (j - 1) (max i (Tr.la xs (j - 1))) = max i (Tr.la xs (j - 1)) by omega, show min (q - 1) (max p (Tr.la ys (q - 1))) = max p (Tr.la ys (q - 1)) by omega]
  rfl
/-- what holds of each step holds of the whole -/
theorem Bm.go_ind {M : Nat → Nat → Nat → Nat → Tr → Prop} (hx : Tr.ok xs = true) (hy : Tr.ok ys = true)
    (h0 : ∀ i j p q, j ≤ i ∨ q ≤ p → M i j p q [])
    (h1 : ∀ i j p q L, i < j → p < q → j ≤ xs.length → q ≤ ys.length → RR xs ys k i j p q = RR xs ys k i (j - 1) p q + Co.del k (Tr.xa xs (j - 1)) → M i (j - 1) p q L → M i j p q L)
    (h2 : ∀ i j p q L, i < j → p < q → j ≤ xs.length → q ≤ ys.length → ¬ RR xs ys k i j p q = RR xs ys k i (j - 1) p q + Co.del k (Tr.xa xs (j - 1)) → RR xs ys k i j p q = RR xs ys k i j p (q - 1) + Co.ins k (Tr.xa ys (q - 1)) → M i j p (q - 1) L → M i j p q L)
    (h3 : ∀ i j p q P Q A B, i < j → p < q → j ≤ xs.length → q ≤ ys.length → P = max i (Tr.la xs (j - 1)) → Q = max p (Tr.la ys (q - 1)) → P ≤ j - 1 → Q ≤ q - 1 → ¬ RR xs ys k i j p q = RR xs ys k i (j - 1) p q + Co.del k (Tr.xa xs (j - 1)) → ¬ RR xs ys k i j p q = RR xs ys k i j p (q - 1) + Co.ins k (Tr.xa ys (q - 1)) → RR xs ys k i j p q = RR xs ys k i P p Q + RR xs ys k P (j - 1) Q (q - 1) + Co.rel k (Tr.xa xs (j - 1)) (Tr.xa ys (q - 1)) →
      M i P p Q A → M P (j - 1) Q (q - 1) B → M i j p q (cmb A (j - 1) (q - 1) B)) :
    ∀ (s i j p q : Nat), (j - i) + (q - p) < s → j ≤ xs.length → q ≤ ys.length → M i j p q (Bm.go cmb xs ys k i j p q) := by
  intro s
  induction s with
  | zero => intro i j p q h; omega
  | succ s ih =>
    intro i j p q hs hj hq
    by_cases e : j ≤ i ∨ q ≤ p
    · rw [Bm.go_none e]; exact h0 i j p q e
    · by_cases a : RR xs ys k i j p q = RR xs ys k i (j - 1) p q + Co.del k (Tr.xa xs (j - 1))
      · rw [Bm.go_del (by omega) (by omega) a]; exact h1 i j p q _ (by omega) (by omega) hj hq a (ih i (j - 1) p q (by omega) (by omega) hq)
      · by_cases b : RR xs ys k i j p q = RR xs ys k i j p (q - 1) + Co.ins k (Tr.xa ys (q - 1))
        · rw [Bm.go_ins (by omega) (by omega) a b]; exact h2 i j p q _ (by omega) (by omega) hj hq a b (ih i j p (q - 1) (by omega) hj (by omega))
        · have la1 := (Tr.la_nest hx (j - 1) (by omega)).1
          have lb1 := (Tr.la_nest hy (q - 1) (by omega)).1
          rw [Bm.go_both hx hy (by omega) (by omega) hj hq a b]
          refine h3 i j p q _ _ _ _ (by omega) (by omega) hj hq rfl rfl (by omega) (by omega) a b ?_ (ih _ _ _ _ (by omega) (by omega) (by omega)) (ih _ _ _ _ (by omega) (by omega) (by omega))
          have := RD_both (K := Co.cs k) (x := Tr.xa xs) (y := Tr.xa ys) (Tr.la_nest hx) (Tr.la_nest hy) (i := i) (j := j - 1) (k := p) (l := q - 1) (by omega) (by omega) (by omega) (by omega)
          rw [show j - 1 + 1 = j by omega, show q - 1 + 1 = q by omega] at this
          have t : RR xs ys k i j p q = min (min (RR xs ys k i (j - 1) p q + Co.del k (Tr.xa xs (j - 1))) (RR xs ys k i j p (q - 1) + Co.ins k (Tr.xa ys (q - 1)))) (RR xs ys k i (max i (Tr.la xs (j - 1))) p (max p (Tr.la ys (q - 1))) + RR xs ys k (max i (Tr.la xs (j - 1))) (j - 1) (max p (Tr.la ys (q - 1))) (q - 1) + Co.rel k (Tr.xa xs (j - 1)) (Tr.xa ys (q - 1))) := this
          omega
end
section
variable {xs : Tr} (hok : Tr.ok xs = true)
include hok
theorem Tr.nd_at {u : Nat} (hu : u < xs.length) : Tr.nd xs u < xs.length ∧ Tr.rk xs (Tr.nd xs u) = u ∧ Tr.la xs u = Tr.nd xs u - Tr.dn xs (Tr.nd xs u) ∧ Tr.xa xs u = Tr.l xs (Tr.nd xs u) := by
  obtain ⟨i, h1, h2, h3, h4, h5⟩ := Tr.la_at hok hu
  have : Tr.nd xs u = i := by unfold Tr.nd; rw [List.getD_eq_getElem?_getD, h5]; rfl
  rw [this]
  exact ⟨h1, h2, h3, h4⟩
theorem Tr.nd_rk {i : Nat} (hi : i < xs.length) : Tr.nd xs (Tr.rk xs i) = i := by
  unfold Tr.nd; rw [List.getD_eq_getElem?_getD, Tr.post_rk hok hi]; rfl
/-- ahead of v's first leaf: ahead of v -/
theorem Tr.nd_ahead {u v : Nat} (hv : v < xs.length) (h : u < Tr.la xs v) : Tr.nd xs u < Tr.nd xs v := by
  have l1 := (Tr.la_nest hok v hv).1
  obtain ⟨a1, a2, a3, _⟩ := Tr.nd_at hok (u := u) (by omega)
  obtain ⟨b1, b2, b3, _⟩ := Tr.nd_at hok hv
  rcases Nat.lt_or_ge (Tr.nd xs u) (Tr.nd xs v) with c | c
  · exact c
  · have := Tr.rk_ge hok c a1
    omega
/-- from v's first leaf on: below v -/
theorem Tr.nd_below {u v : Nat} (hv : v < xs.length) (h : Tr.la xs v ≤ u) (huv : u < v) : Tr.nd xs v < Tr.nd xs u ∧ Tr.nd xs u < Tr.endN xs (Tr.nd xs v) := by
  obtain ⟨a1, a2, a3, _⟩ := Tr.nd_at hok (u := u) (by omega)
  obtain ⟨b1, b2, b3, _⟩ := Tr.nd_at hok hv
  have d1 := Tr.dn_le hok a1
  have hlt : Tr.nd xs v < Tr.nd xs u := by
    rcases Nat.lt_trichotomy (Tr.nd xs u) (Tr.nd xs v) with c | c | c
    · by_cases hu : Tr.nd xs v < Tr.endN xs (Tr.nd xs u)
      · have := Tr.rk_under hok a1 c hu; omega
      · have g := Tr.gap_mono hok (i := Tr.endN xs (Tr.nd xs u)) (j := Tr.nd xs v) (by omega) b1
        have e := Tr.endN_dn hok a1
        have r : Tr.rk xs (Tr.nd xs u) = Tr.endN xs (Tr.nd xs u) - 1 - Tr.dn xs (Tr.nd xs u) := rfl
        rcases e.2.2.2 with f | ⟨f1, f2⟩
        · omega
        · omega
    · rw [c] at a2; omega
    · exact c
  refine ⟨hlt, ?_⟩
  rcases Nat.lt_or_ge (Tr.nd xs u) (Tr.endN xs (Tr.nd xs v)) with c | c
  · exact c
  · have := Tr.rk_left hok b1 c a1; omega
theorem Tr.nd_not {u v : Nat} (huv : u ≤ v) (hv : v < xs.length) : Tr.under xs (Tr.nd xs u : Int) (Tr.nd xs v : Int) = false := by
  obtain ⟨a1, a2, a3, _⟩ := Tr.nd_at hok (u := u) (by omega)
  obtain ⟨b1, b2, b3, _⟩ := Tr.nd_at hok hv
  cases e : Tr.under xs (Tr.nd xs u : Int) (Tr.nd xs v : Int) with
  | false => rfl
  | true =>
    simp only [Tr.under, Bool.and_eq_true, decide_eq_true_eq] at e
    obtain ⟨⟨⟨e1, e2⟩, e3⟩, e4⟩ := e
    rw [Tr.endOf_yes e1] at e4
    have := Tr.rk_under hok a1 (by omega) (show Tr.nd xs v < Tr.endN xs (Tr.nd xs u) by omega)
    omega
theorem Tr.has_nd {u : Nat} (hu : u < xs.length) : Tr.has xs (Tr.nd xs u : Int) = true := by
  have := (Tr.nd_at hok hu).1
  rw [Tr.has_iff]
  exact ⟨hok, by omega, by omega⟩
theorem Tr.nd_yes {u v : Nat} (hv : v < xs.length) (h : Tr.la xs v ≤ u) (huv : u < v) : Tr.under xs (Tr.nd xs v : Int) (Tr.nd xs u : Int) = true := by
  obtain ⟨c1, c2⟩ := Tr.nd_below hok hv h huv
  unfold Tr.under
  rw [Tr.has_nd hok hv, Tr.has_nd hok (show u < xs.length by omega), Tr.endOf_yes (Tr.has_nd hok hv), decide_eq_true (by omega), decide_eq_true (by omega)]
  rfl
end

end Go.Proofs.Ytlndaflhlkbedaa

/- Contracts (StepP). -/
namespace Go.Proofs.Ytlndaflhlkbedaa
open Go.RowKit
set_option linter.unusedVariables false

theorem append_pair_at {P : Program} (w : World) {ops : Array Oper} {rest : List Oper} {o : Oper} {a : Act} {Q : Exit → Act → World → Prop} (hgd : o.guard = none) (s x : Operand) (t : TypeId)
    (ho : o.op = .call { callee := .builtin .append, args := #[s, x], argTypes := #[t, t] })
    (base : Nat) (e : TypeId) (i : TypeInfo) (ht : P.underlying t = some (.slice e)) (hi : P.info? e = some i) (hz : i.zero = some (.agg #[.int .i64 0, .int .i64 0]))
    (hsize : i.size = 2) (hby : i.bytes = 16) (v : Value) (n : Nat) (l : Tr) (hs : a.eval s = v) (hown : w.ownsRow base e 2 v n (Tr.cells l)) (hn : n = l.length)
    (b1 b2 : Int) (hx : a.eval x = .slice (some ⟨w.heap.size, 0, none⟩) 1 1)
    (h63 : l.length + 1 ≤ 4398046511104) (hbase : base ≤ w.heap.size)
    (h : ∀ v' w', w'.ownsRow base e 2 v' (l ++ [(b1, b2)]).length (Tr.cells (l ++ [(b1, b2)])) → (w.alloc (.cells #[.int .i64 b1, .int .i64 b2] e)).grownBy w' v.ownBlock → (v'.ownBlock = v.ownBlock ∨ v'.ownBlock = some (w.heap.size + 1)) → wpList P ops Q rest (a.put o.dst v') w') :
    wpList P ops Q (o :: rest) a (w.alloc (.cells #[.int .i64 b1, .int .i64 b2] e)) := by
  subst hn
  refine wpList_append_own_at _ hgd s x t ho base e i (.agg #[.int .i64 0, .int .i64 0]) 2 16 ht hi hz hsize hby rfl (by decide) v l.length (Tr.cells l) hs (hown.alloc _) ⟨w.heap.size, 0, none⟩ 1 1 (Tr.cells [(b1, b2)]) hx (by simp [Tr.cells]) ?_ (Tr.cells_cell _) (by unfold maxLen; omega) (by omega) (by simp; omega) ?_
  · intro j u hj
    have hj2 : j < 2 := by
      have := (List.getElem?_eq_some_iff.1 hj).1
      simpa [Tr.cells] using this
    have : j = 0 ∨ j = 1 := by omega
    rcases this with rfl | rfl <;> (simp [Tr.cells] at hj; subst hj; simp [Addr.add])
  · intro v' w' h2 h3 _ h5
    refine h v' w' ?_ h3 (by simpa using h5)
    rw [Tr.cells_append, List.length_append]
    exact h2
/-- rows of different elements don't lie in one block -/
theorem comNe {w : World} {b1 b2 n1 n2 s1 s2 : Nat} {e1 e2 : TypeId} {v1 v2 : Value} {x1 x2 : List Value} (h1 : w.ownsRow b1 e1 s1 v1 n1 x1) (h2 : w.ownsRow b2 e2 s2 v2 n2 x2) (he : e1 ≠ e2) : v1.ownBlock = none ∨ v1.ownBlock ≠ v2.ownBlock := by
  rcases h1.2 with ⟨rfl, _⟩ | ⟨g, cap, cur, rfl, _, hg, _⟩
  · exact .inl rfl
  · refine .inr fun e => ?_
    rcases h2.2 with ⟨rfl, _⟩ | ⟨g', cap', cur', rfl, _, hg', _⟩
    · cases e
    · simp only [Value.ownBlock, Option.some.injEq] at e
      subst e
      rw [hg] at hg'
      simp only [Option.some.injEq, Obj.cells.injEq] at hg'
      exact he hg'.2.1
theorem Cp.row_take (a : Int) (zs : List Int) {q : Nat} (h : q < zs.length) : Cp.row a (zs.take (q + 1)) = Cp.row a (zs.take q) ++ [(a, zs.getD q 0)] := by
  rw [List.take_add_one, List.getElem?_eq_getElem h, Cp.row, Cp.row, List.map_append, List.getD_eq_getElem?_getD, List.getElem?_eq_getElem h]
  rfl

end Go.Proofs.Ytlndaflhlkbedaa

/- Contracts (WlkS). -/
namespace Go.Proofs.Ytlndaflhlkbedaa
open Go.RowKit
set_option linter.unusedVariables false

/-- the memo as it was made in w0, and what has turned since -/
structure W9 (B N : Nat) (D : D9) (xs ys : Tr) (k : Co) (w0 w : World) : Prop where
  h0 : ∃ K, M9 B N D xs ys k K w0
  hm : ∃ K, M9 B N D xs ys k K w
  gr : w0.grownBy w (some D.gk)
section
variable {B N : Nat} {D : D9} {xs ys : Tr} {k : Co} {w0 w w' : World}
theorem M9.gk_lt {K : List Int} (h : M9 B N D xs ys k K w) : D.gk < w.heap.size := (h.row.lt D.gk rfl).2
theorem W9.refl {K : List Int} (h : M9 B N D xs ys k K w) : W9 B N D xs ys k w w := ⟨⟨K, h⟩, ⟨K, h⟩, World.grownBy.refl _ _⟩
theorem W9.k9 (h : W9 B N D xs ys k w0 w) (h' : K9 B N D xs ys k w w') : W9 B N D xs ys k w0 w' := ⟨h.h0, h'.1, h.gr.trans h'.2.gr⟩
/-- a row of later blocks has turned -/
theorem W9.grown (h : W9 B N D xs ys k w0 w) {row : Option Nat} (hg : w.grownBy w' row) (hr : ∀ g, row = some g → w0.heap.size ≤ g) : W9 B N D xs ys k w0 w' := by
  obtain ⟨K0, h0⟩ := h.h0
  obtain ⟨K, hm⟩ := h.hm
  have hs := h.gr.size
  have hne : ∀ b, b < w0.heap.size → some b ≠ row := fun b hb e => by have := hr b e.symm; omega
  have hb : ∀ b, b < w0.heap.size → w'.heap[b]? = w.heap[b]? := fun b hb => hg.block b (by omega) (hne b hb)
  have hc : ∀ z : Addr, z.block < w0.heap.size → w'.cell? z = w.cell? z := fun z hz => World.cell?_of_block (hb _ hz)
  have gl := h0.gl
  have c0 : ∀ o, w'.cell? ⟨D.g, o, none⟩ = w.cell? ⟨D.g, o, none⟩ := fun o => hc _ gl
  have r {ad : Addr} {n : Nat} {zs : List Int} (q0 : RowOff w0 D.g D.gk ad n zs) (q : RowOff w D.g D.gk ad n zs) : RowOff w' D.g D.gk ad n zs :=
    ⟨q.len, Nat.lt_of_lt_of_le q.lt hg.size, q.ng, q.nt, fun x hx => (hc _ (by rw [block_of_add]; exact q0.lt)).trans (q.at_ x hx)⟩
  refine ⟨⟨K0, h0⟩, ⟨K, hm.gB, Nat.lt_of_lt_of_le hm.gl hg.size, hm.gg, hm.hN, (c0 _).trans hm.h0, (c0 _).trans hm.h1, (c0 _).trans hm.h2, (c0 _).trans hm.h3, (c0 _).trans hm.h4, (c0 _).trans hm.h5, (c0 _).trans hm.h6, (c0 _).trans hm.h7,
    hm.row.kept hg (.inr (hne _ h0.gk_lt)), hm.kn, r h0.rx hm.rx, r h0.ry hm.ry, r h0.ra hm.ra, r h0.rb hm.rb, r h0.r0 hm.r0, r h0.r1 hm.r1, r h0.r2 hm.r2⟩, ⟨hg.os.trans h.gr.os, hg.tape.trans h.gr.tape, hg.output.trans h.gr.output, Nat.le_trans hs hg.size, fun i hi hn => (hb i hi).trans (h.gr.block i hi hn)⟩⟩
theorem W9.below (h : W9 B N D xs ys k w0 w) (hb : Below w.heap.size w w') : W9 B N D xs ys k w0 w' := h.grown ⟨hb.os, hb.tape, hb.output, hb.size, fun i hi _ => hb.block i hi⟩ (row := none) (fun g e => by cases e)
theorem W9.drawn (h : W9 B N D xs ys k w0 w) (hd : Drawn w w') : W9 B N D xs ys k w0 w' := h.below hd.toBelow
theorem W9.size (h : W9 B N D xs ys k w0 w) : w0.heap.size ≤ w.heap.size := h.gr.size
theorem W9.gk_lt (h : W9 B N D xs ys k w0 w) : D.gk < w0.heap.size := by obtain ⟨K, h0⟩ := h.h0; exact h0.gk_lt
/-- a row that is not nil -/
theorem own_some {base n size : Nat} {e : TypeId} {v : Value} {ys : List Value} (h : w.ownsRow base e size v n ys) (hne : v ≠ .slice none 0 0) : ∃ g c, v = .slice (some ⟨g, 0, none⟩) n c := by
  rcases h.2 with ⟨rfl, rfl⟩ | ⟨g, cap, cur, rfl, _⟩
  · exact absurd rfl hne
  · exact ⟨_, _, rfl⟩
end
/-- l11Walk of ranges that hold fewer than s places together -/
def SaysW (B N : Nat) (D : D9) (xs ys : Tr) (k : Co) (w0 : World) (s : Nat) : Prop :=
  ∀ (i j p q : Nat) (w : World), i ≤ j → j ≤ xs.length → p ≤ q → q ≤ ys.length → (j - i) + (q - p) < s → W9 B N D xs ys k w0 w →
    Calls Try.prog 135 #[.pointer (some ⟨D.g, 0, none⟩), .int .i64 i, .int .i64 j, .int .i64 p, .int .i64 q] w (fun e w' => ∃ g c, e = .returned (.slice (some ⟨g, 0, none⟩) (Bm.go Bm.cS xs ys k i j p q).length c) ∧ w'.ownsRow w.heap.size 55 2 (.slice (some ⟨g, 0, none⟩) (Bm.go Bm.cS xs ys k i j p q).length c) (Bm.go Bm.cS xs ys k i j p q).length (Tr.cells (Bm.go Bm.cS xs ys k i j p q)) ∧ W9 B N D xs ys k w0 w' ∧ w.grownBy w' (some D.gk))
theorem Bm.goS_len {xs ys : Tr} {k : Co} (hx : Tr.ok xs = true) (hy : Tr.ok ys = true) {i j p q : Nat} (hj : j ≤ xs.length) (hq : q ≤ ys.length) : (Bm.go Bm.cS xs ys k i j p q).length ≤ q - p := by
  refine Bm.go_ind (M := fun i j p q L => L.length ≤ q - p) hx hy ?_ ?_ ?_ ?_ (j - i + (q - p) + 1) i j p q (by omega) hj hq
  · intro i j p q _; simp
  · intro i j p q L _ _ _ _ _ h; exact h
  · intro i j p q L _ _ _ _ _ _ h; omega
  · intro i j p q P Q A B _ _ _ _ _ _ _ _ _ _ _ h1 h2
    unfold Bm.cS
    simp only [List.length_append, List.length_singleton]
    omega
theorem info_prW : (Try.prog.info? 55).map (fun i => (i.zero, i.size, i.bytes)) = some (some (.agg #[.int .i64 0, .int .i64 0]), 2, 16) := by kernel_rfl
set_option maxHeartbeats 800000 in
set_option maxRecDepth 100000 in
theorem l11Match_any (B N : Nat) (D : D9) (xs ys : Tr) (k : Co) (w0 : World) (s : Nat) (hx : Tr.ok xs = true) (hy : Tr.ok ys = true) (hs : SaysW B N D xs ys k w0 s) (i j p q : Nat) (w : World) (hij : i < j) (hj : j ≤ xs.length) (hpq : p < q) (hq : q ≤ ys.length) (hsum : (j - i) + (q - p) ≤ s) (h : W9 B N D xs ys k w0 w) :
    Calls Try.prog 100 #[.pointer (some ⟨D.g, 0, none⟩), .int .i64 i, .int .i64 j, .int .i64 p, .int .i64 q] w (fun e w' => ∃ g c, e = .returned (.slice (some ⟨g, 0, none⟩) (Bm.mt Bm.cS xs ys k i j p q).length c) ∧ w'.ownsRow w.heap.size 55 2 (.slice (some ⟨g, 0, none⟩) (Bm.mt Bm.cS xs ys k i j p q).length c) (Bm.mt Bm.cS xs ys k i j p q).length (Tr.cells (Bm.mt Bm.cS xs ys k i j p q)) ∧ W9 B N D xs ys k w0 w' ∧ w.grownBy w' (some D.gk)) := by
  have x24 := (Tr.len24 hx).2
  have y24 := (Tr.len24 hy).2
  obtain ⟨j1, hj1⟩ : ∃ z, z = j - 1 := ⟨_, rfl⟩
  obtain ⟨q1, hq1⟩ : ∃ z, z = q - 1 := ⟨_, rfl⟩
  have la1 := (Tr.la_nest hx j1 (by omega)).1
  have lb1 := (Tr.la_nest hy q1 (by omega)).1
  obtain ⟨l, hl⟩ : ∃ l, l = Tr.la xs j1 := ⟨_, rfl⟩
  obtain ⟨m, hmm⟩ : ∃ l, l = Tr.la ys q1 := ⟨_, rfl⟩
  obtain ⟨P, hP⟩ : ∃ a, a = max i l := ⟨_, rfl⟩
  obtain ⟨Q, hQ⟩ : ∃ a, a = max p m := ⟨_, rfl⟩
  have C1 := Lib.hid (fun (wq : World) (hp : W9 B N D xs ys k w0 wq) => hs i P p Q wq (by omega) (by omega) (by omega) (by omega) (by omega) hp)
  have C2 := Lib.hid (fun (wq : World) (hp : W9 B N D xs ys k w0 wq) => hs P j1 Q q1 wq (by omega) (by omega) (by omega) (by omega) (by omega) hp)
  have L1 := Lib.hid (Bm.goS_len (k := k) hx hy (i := i) (j := P) (p := p) (q := Q) (by omega) (by omega))
  have L2 := Lib.hid (Bm.goS_len (k := k) hx hy (i := P) (j := j1) (p := Q) (q := q1) (by omega) (by omega))
  have EM := Lib.hid (show Bm.mt Bm.cS xs ys k i j p q = Bm.go Bm.cS xs ys k i P p Q ++ Bm.go Bm.cS xs ys k P j1 Q q1 ++ [((j1 : Int), (q1 : Int))] by
    unfold Bm.mt Bm.cS
    rw [hP, hQ, hl, hmm, hj1, hq1])
  rw [EM.out]
  obtain ⟨X, hX⟩ : ∃ x, x = Bm.go Bm.cS xs ys k i P p Q := ⟨_, rfl⟩
  obtain ⟨Y, hY⟩ : ∃ x, x = Bm.go Bm.cS xs ys k P j1 Q q1 := ⟨_, rfl⟩
  rw [← hX] at C1 L1 ⊢
  rw [← hY] at C2 L2 ⊢
  obtain ⟨K, hK⟩ := h.hm
  have H := Lib.hid h
  have hl2 := (hK.ra.at_ j1 (by omega)).trans (by rw [Tr.la_up hx (by omega), ← hl])
  have hm2 := (hK.rb.at_ q1 (by omega)).trans (by rw [Tr.la_up hy (by omega), ← hmm])
  have h2 := hK.h2
  have h3 := hK.h3
  have a1 : IntKind.i64.wrap ((j : Int) - 1) = (j1 : Int) := by rw [Kit.w64 (by omega) (by omega)]; omega
  have a2 : IntKind.i64.wrap ((q : Int) - 1) = (q1 : Int) := by rw [Kit.w64 (by omega) (by omega)]; omega
  have m1 : max (i : Int) (l : Int) = (P : Int) := by omega
  have m2 : max (p : Int) (m : Int) = (Q : Int) := by omega
  have e1 : (j : Int) - 1 = (j1 : Int) := by omega
  have a3 : IntKind.i64.wrap (j1 : Int) = (j1 : Int) := Kit.w64 (by omega) (by omega)
  have a4 : IntKind.i64.wrap (q1 : Int) = (q1 : Int) := Kit.w64 (by omega) (by omega)
  have e2 : (q : Int) - 1 = (q1 : Int) := by omega
  have k1 : (0 : Int) ≤ (j1 : Int) := by omega
  have k2 : (j1 : Int) < (xs.length : Int) := by omega
  have k3 : (0 : Int) ≤ (q1 : Int) := by omega
  have k4 : (q1 : Int) < (ys.length : Int) := by omega
  have LL := Lib.hid (show X.length ≤ 24 ∧ Y.length ≤ 24 by have := L1.out; have := L2.out; omega)
  obtain ⟨i0, hi, hz0, hz1, hz2⟩ := info_parts info_prW
  have FP := (show (i < l ∧ l = P) ∨ (¬ i < l ∧ i = P) by omega)
  have FQ := (show (p < m ∧ m = Q) ∨ (¬ p < m ∧ p = Q) by omega)
  clear m1 m2 L1 L2 EM hX hY hs hsum hK h hj1 hq1 hl hmm hP hQ x24 y24 la1 lb1 hij hpq hj hq
  rcases FP with ⟨f1, fa⟩ | ⟨f1, fa⟩ <;> rcases FQ with ⟨f2, fb⟩ | ⟨f2, fb⟩ <;> subst fa <;> subst fb
  all_goals
    go_enter Try.func100, Try.ntmps100
    go_wp2_with fail
    clear hl2 hm2 h2 h3 f1 f2
    refine (C1.out w H.out).mono ?_
    rintro e wa ⟨g1, c1, rfl, ho1, hw1, hg1⟩
    have O1 := Lib.hid ho1
    have WA := Lib.hid hw1
    have GA := Lib.hid hg1
    clear ho1 hw1 hg1
    go_wp2_with fail
    refine (C2.out wa WA.out).mono ?_
    rintro e wb ⟨g2, c2, rfl, ho2, hw2, hg2⟩
    have hsa := GA.out.size
    have hsb := hg2.size
    have hgk := H.out.gk_lt
    have hs0 := H.out.size
    have hb1 := O1.out.lt g1 rfl
    have O1 := Lib.hid (O1.out.kept hg2 (.inr (fun e => by have e2 : g1 = D.gk := Option.some.inj e; omega)))
    have O2 := Lib.hid ho2
    have WB := Lib.hid hw2
    have GBB := Lib.hid (GA.out.trans hg2)
    have SZ := Lib.hid (show w0.heap.size ≤ w.heap.size ∧ w.heap.size ≤ wb.heap.size ∧ w.heap.size ≤ g1 by omega)
    clear ho2 hw2 hg2 hsa hsb hgk hs0 hb1
    obtain ⟨Z, hZ⟩ : ∃ z, z = X ++ Y := ⟨_, rfl⟩
    have HZ := Lib.hid hZ
    clear hZ
    have LX := LL.out
    obtain ⟨L4, hL4⟩ : ∃ z, z = Z ++ [((j1 : Int), (q1 : Int))] := ⟨_, rfl⟩
    have HL4 := Lib.hid hL4
    clear hL4
    go_wp2_with (first | (at_builtin; refine append_pair_at w3 rfl _ _ 43 rfl w.heap.size 55 i0 Try.underlying43 hi hz0 hz1 hz2 (.slice (some ⟨g3, 0, none⟩) Z.length c3) Z.length Z rfl O3.out rfl (j1 : Int) (q1 : Int) rfl (by have := LZ.out; omega) G3.out.size ?_; intro v4 w4 hown4 hg4 hlie4; rw [← HL4.out] at hown4; obtain ⟨A4, c4, hv4⟩ := own_slice hown4; subst hv4; obtain ⟨g4, hA4, hb4, _⟩ := own_form hown4 (by rw [HL4.out, List.length_append, List.length_singleton]; omega); subst hA4) | (at_builtin; go_loud (refine wpList_append_own_at wb rfl _ _ 43 rfl w.heap.size 55 i0 (.agg #[.int .i64 0, .int .i64 0]) 2 16 Try.underlying43 hi hz0 hz1 hz2 rfl (by decide) (.slice (some ⟨g1, 0, none⟩) X.length c1) X.length (Tr.cells X) rfl O1.out ⟨g2, 0, none⟩ Y.length c2 (Tr.cells Y) rfl (by rw [Tr.cells_length]) (fun j u hj => O2.out.cells rfl j u hj) (Tr.cells_cell _) (by unfold maxLen; omega) (by omega) SZ.out.2.1 ?_); intro v3 w3 hown3 hg3 hnil3 hlie3; rw [← Tr.cells_append, ← List.length_append, ← HZ.out] at hown3; obtain ⟨g3, c3, hv3⟩ := own_some hown3 (fun h => by have := (hnil3.1 h).1; cases this); subst hv3; have O3 := Lib.hid hown3; have W3 := Lib.hid (WB.out.grown hg3 (fun g e => by have e2 : g1 = g := Option.some.inj e; have := SZ.out; omega)); have G3 := Lib.hid (show w.grownBy w3 (some D.gk) from ⟨hg3.os.trans GBB.out.os, hg3.tape.trans GBB.out.tape, hg3.output.trans GBB.out.output, Nat.le_trans GBB.out.size hg3.size, fun b hb hn => (hg3.block b (Nat.lt_of_lt_of_le hb GBB.out.size) (fun e => by have e2 : b = g1 := Option.some.inj e; have := SZ.out; omega)).trans (GBB.out.block b hb hn)⟩); have LZ := Lib.hid (show Z.length ≤ 48 by rw [HZ.out, List.length_append]; omega); clear hown3 hg3 hnil3 hlie3))
    have hne : ∀ b, b < w.heap.size → some b ≠ (Value.ownBlock (.slice (some ⟨g3, 0, none⟩) Z.length c3)) := fun b hb e => by have := (O3.out.lt b e.symm).1; omega
    have hgr := (World.grownBy_alloc w3 (.cells #[.int .i64 (j1 : Int), .int .i64 (q1 : Int)] 55) (Value.ownBlock (.slice (some ⟨g3, 0, none⟩) Z.length c3))).trans hg4
    have W4 := Lib.hid (W3.out.grown hgr (fun g e => by have := (O3.out.lt g e).1; have := SZ.out; omega))
    have G4 := Lib.hid (show w.grownBy w4 (some D.gk) from ⟨hgr.os.trans G3.out.os, hgr.tape.trans G3.out.tape, hgr.output.trans G3.out.output, Nat.le_trans G3.out.size hgr.size, fun b hb hn => (hgr.block b (Nat.lt_of_lt_of_le hb G3.out.size) (hne b hb)).trans (G3.out.block b hb hn)⟩)
    have O4 := Lib.hid hown4
    clear hown4 hg4 hlie4 hgr hne hb4
    go_ret
    rw [← HZ.out, ← HL4.out]
    exact ⟨g4, c4, rfl, O4.out, W4.out, G4.out⟩
set_option maxHeartbeats 3200000 in
set_option maxRecDepth 100000 in
theorem l11Walk_step (B N : Nat) (D : D9) (xs ys : Tr) (k : Co) (w0 : World) (s : Nat) (hx : Tr.ok xs = true) (hy : Tr.ok ys = true) (hk : Co.ok k = true) (hs : SaysW B N D xs ys k w0 s) : SaysW B N D xs ys k w0 (s + 1) := by
  intro i j p q w hij hj hpq hq hsum h
  by_cases e : j ≤ i ∨ q ≤ p
  · rw [Bm.go_none e]
    have H := Lib.hid h
    by_cases e1 : j ≤ i
    · clear e h hij hpq hsum hs
      go_enter Try.func135, Try.ntmps135
      go_wp2
      go_ret
      exact ⟨w.heap.size, 0, rfl, World.ownsRow_lit w #[] 0 (Nat.le_refl _) (Nat.zero_le _) rfl, H.out.below ((Below.refl _ _).alloc (Nat.le_refl _) _), World.grownBy_alloc _ _ _⟩
    · have e2 : q ≤ p := by omega
      clear e h hij hpq hsum hs
      go_enter Try.func135, Try.ntmps135
      go_wp2
      go_ret
      exact ⟨w.heap.size, 0, rfl, World.ownsRow_lit w #[] 0 (Nat.le_refl _) (Nat.zero_le _) rfl, H.out.below ((Below.refl _ _).alloc (Nat.le_refl _) _), World.grownBy_alloc _ _ _⟩
  · have e1 : i < j := by omega
    have e2 : p < q := by omega
    have x24 := (Tr.len24 hx).2
    have y24 := (Tr.len24 hy).2
    obtain ⟨j1, hj1⟩ : ∃ z, z = j - 1 := ⟨_, rfl⟩
    obtain ⟨q1, hq1⟩ : ∃ z, z = q - 1 := ⟨_, rfl⟩
    obtain ⟨ua, hua, ea⟩ := Tr.xa_lab hx (p := j1) (by omega)
    obtain ⟨ub, hub, eb⟩ := Tr.xa_lab hy (p := q1) (by omega)
    obtain ⟨dv, hdv⟩ : ∃ z, z = Zs.at k.d ua := ⟨_, rfl⟩
    obtain ⟨iv, hiv⟩ : ∃ z, z = Zs.at k.i ub := ⟨_, rfl⟩
    have Edv : Co.del k (Tr.xa xs j1) = dv := by rw [ea, Co.del_at hk hua, hdv]
    have Eiv : Co.ins k (Tr.xa ys q1) = iv := by rw [eb, Co.ins_at hk hub, hiv]
    have bD := (Co.nonneg' k).1 (Tr.xa xs j1)
    have bI := (Co.nonneg' k).2.1 (Tr.xa ys q1)
    rw [Edv] at bD
    rw [Eiv] at bI
    have bX := RR_bound (k := k) hx hy (p := i) (a := j1) (q := p) (b := q) (by omega) (by omega) (by omega) hq
    have bY := RR_bound (k := k) hx hy (p := i) (a := j) (q := p) (b := q1) (by omega) hj (by omega) (by omega)
    obtain ⟨D0, hD0⟩ : ∃ z, z = RR xs ys k i j p q := ⟨_, rfl⟩
    obtain ⟨X, hX⟩ : ∃ z, z = RR xs ys k i j1 p q := ⟨_, rfl⟩
    obtain ⟨Y, hY⟩ : ∃ z, z = RR xs ys k i j p q1 := ⟨_, rfl⟩
    have LD := l9Dist_any B N D xs ys k hx hy hk (xs.length + ys.length + 1)
    have CD := Lib.hid (show ∀ w, (∃ K, M9 B N D xs ys k K w) → Calls Try.prog 90 #[.pointer (some ⟨D.g, 0, none⟩), .int .i64 i, .int .i64 j, .int .i64 p, .int .i64 q] w fun e w' => e = .returned (.int .i64 D0) ∧ K9 B N D xs ys k w w' from fun w h => by rw [hD0]; exact LD i j p q w hij hj hpq hq (by omega) h)
    have CX := Lib.hid (show ∀ w, (∃ K, M9 B N D xs ys k K w) → Calls Try.prog 90 #[.pointer (some ⟨D.g, 0, none⟩), .int .i64 i, .int .i64 j1, .int .i64 p, .int .i64 q] w fun e w' => e = .returned (.int .i64 X) ∧ K9 B N D xs ys k w w' from fun w h => by rw [hX]; exact LD i j1 p q w (by omega) (by omega) hpq hq (by omega) h)
    have CY := Lib.hid (show ∀ w, (∃ K, M9 B N D xs ys k K w) → Calls Try.prog 90 #[.pointer (some ⟨D.g, 0, none⟩), .int .i64 i, .int .i64 j, .int .i64 p, .int .i64 q1] w fun e w' => e = .returned (.int .i64 Y) ∧ K9 B N D xs ys k w w' from fun w h => by rw [hY]; exact LD i j p q1 w hij hj (by omega) (by omega) (by omega) h)
    have HCX := Lib.hid (fun (wa wq : World) (h : K9 B N D xs ys k wa wq) => d9_x h (j1 := j1) (ua := ua) (dv := dv) (by omega) hua ea hdv)
    have HCY := Lib.hid (fun (wa wq : World) (h : K9 B N D xs ys k wa wq) => d9_y h (q1 := q1) (ub := ub) (iv := iv) (by omega) hub eb hiv)
    obtain ⟨G, hG⟩ : ∃ x, x = Bm.go Bm.cS xs ys k i j p q := ⟨_, rfl⟩
    have CA := (fun (wq : World) (hp : W9 B N D xs ys k w0 wq) => hs i j1 p q wq (by omega) (by omega) hpq hq (by omega) hp)
    have CB := (fun (wq : World) (hp : W9 B N D xs ys k w0 wq) => hs i j p q1 wq hij hj (by omega) (by omega) (by omega) hp)
    have CM := (fun (wq : World) (hp : W9 B N D xs ys k w0 wq) => l11Match_any B N D xs ys k w0 s hx hy hs i j p q wq e1 hj e2 hq (by omega) hp)
    have QA : (D0 = X + dv) ↔ RR xs ys k i j p q = RR xs ys k i (j - 1) p q + Co.del k (Tr.xa xs (j - 1)) := by rw [hD0, hX, ← Edv, hj1]
    have QB : (D0 = Y + iv) ↔ RR xs ys k i j p q = RR xs ys k i j p (q - 1) + Co.ins k (Tr.xa ys (q - 1)) := by rw [hD0, hY, ← Eiv, hq1]
    have NA := Lib.hid (show D0 = X + dv → ∀ (wq : World) (hp : W9 B N D xs ys k w0 wq), Calls Try.prog 135 #[.pointer (some ⟨D.g, 0, none⟩), .int .i64 i, .int .i64 j1, .int .i64 p, .int .i64 q] wq (fun e w' => ∃ g c, e = .returned (.slice (some ⟨g, 0, none⟩) (G).length c) ∧ w'.ownsRow wq.heap.size 55 2 (.slice (some ⟨g, 0, none⟩) (G).length c) (G).length (Tr.cells (G)) ∧ W9 B N D xs ys k w0 w' ∧ wq.grownBy w' (some D.gk)) by
      intro h1
      rw [hG, Bm.go_del e1 e2 (QA.1 h1), ← hj1]
      exact CA)
    have NB := Lib.hid (show ¬ D0 = X + dv → D0 = Y + iv → ∀ (wq : World) (hp : W9 B N D xs ys k w0 wq), Calls Try.prog 135 #[.pointer (some ⟨D.g, 0, none⟩), .int .i64 i, .int .i64 j, .int .i64 p, .int .i64 q1] wq (fun e w' => ∃ g c, e = .returned (.slice (some ⟨g, 0, none⟩) (G).length c) ∧ w'.ownsRow wq.heap.size 55 2 (.slice (some ⟨g, 0, none⟩) (G).length c) (G).length (Tr.cells (G)) ∧ W9 B N D xs ys k w0 w' ∧ wq.grownBy w' (some D.gk)) by
      intro h1 h2
      rw [hG, Bm.go_ins e1 e2 (fun h => h1 (QA.2 h)) (QB.1 h2), ← hq1]
      exact CB)
    have NC := Lib.hid (show ¬ D0 = X + dv → ¬ D0 = Y + iv → ∀ (wq : World) (hp : W9 B N D xs ys k w0 wq), Calls Try.prog 100 #[.pointer (some ⟨D.g, 0, none⟩), .int .i64 i, .int .i64 j, .int .i64 p, .int .i64 q] wq (fun e w' => ∃ g c, e = .returned (.slice (some ⟨g, 0, none⟩) (G).length c) ∧ w'.ownsRow wq.heap.size 55 2 (.slice (some ⟨g, 0, none⟩) (G).length c) (G).length (Tr.cells (G)) ∧ W9 B N D xs ys k w0 w' ∧ wq.grownBy w' (some D.gk)) by
      intro h1 h2
      rw [hG, Bm.go_both hx hy e1 e2 hj hq (fun h => h1 (QA.2 h)) (fun h => h2 (QB.2 h))]
      exact CM)
    rw [← hG]
    have H := Lib.hid h
    have ej : (j : Int) - 1 = (j1 : Int) := by omega
    have aj : IntKind.i64.wrap ((j : Int) - 1) = (j1 : Int) := by rw [Kit.w64 (by omega) (by omega)]; exact ej
    have aj' : IntKind.i64.wrap (j1 : Int) = (j1 : Int) := Kit.w64 (by omega) (by omega)
    have kj1 : (0 : Int) ≤ (j1 : Int) := by omega
    have kj2 : (j1 : Int) < (xs.length : Int) := by omega
    have ku1 : (0 : Int) ≤ (ua : Int) := by omega
    have ku2 : (ua : Int) < 6 := by omega
    have eq' : (q : Int) - 1 = (q1 : Int) := by omega
    have aq : IntKind.i64.wrap ((q : Int) - 1) = (q1 : Int) := by rw [Kit.w64 (by omega) (by omega)]; exact eq'
    have aq' : IntKind.i64.wrap (q1 : Int) = (q1 : Int) := Kit.w64 (by omega) (by omega)
    have kq1 : (0 : Int) ≤ (q1 : Int) := by omega
    have kq2 : (q1 : Int) < (ys.length : Int) := by omega
    have kv1 : (0 : Int) ≤ (ub : Int) := by omega
    have kv2 : (ub : Int) < 6 := by omega
    have s1 : IntKind.i64.wrap (X + dv) = X + dv := Kit.w64 (by omega) (by omega)
    have s2 : IntKind.i64.wrap (Y + iv) = Y + iv := Kit.w64 (by omega) (by omega)
    have n1 : decide (j ≤ i) = false := decide_eq_false (by omega)
    have n2 : decide (q ≤ p) = false := decide_eq_false (by omega)
    clear hs hk ea eb hdv hiv Edv Eiv bD bI bX bY hD0 hX hY LD hG CA CB CM QA QB h hj1 hq1 hua hub x24 y24 e e1 e2 hsum hij hj hpq hq
    go_enter Try.func135, Try.ntmps135
    go_wp2_with fail
    refine (CD.out w H.out.hm).mono ?_
    rintro e w1 ⟨rfl, hk1⟩
    have WW := Lib.hid (H.out.k9 hk1)
    have GG := Lib.hid hk1.2.gr
    clear hk1
    go_wp2_with fail
    have S0x := Lib.hid (HCX.out w1 w1.drew ⟨(WW.out.drawn (Drawn.refl _).drew).hm, GB.of_drawn (Drawn.refl _).drew⟩)
    go_region_held3 (fun wq => wq.cell? ⟨D.g, 0, none⟩ = some (.slice (some D.ax) xs.length D.cx) ∧ wq.cell? ⟨D.g, 5, none⟩ = some (.slice (some D.k0) 6 D.e0) ∧ wq.cell? (D.ax.add j1) = some (.int .i64 (ua : Int)) ∧ wq.cell? (D.k0.add ua) = some (.int .i64 dv) ∧ K9 B N D xs ys k w1 wq) (first | (with_reducible exact SCx) | (with_reducible exact S0x.out)) (first | (go_at_call 90; refine (CX.out _ (d9_kx (by assumption)).1).mono ?_; rintro e w5 ⟨rfl, hkx⟩; have SCx := HCX.out _ w5 (K9.next (d9_kx (by assumption)) hkx)))
    have KX := Lib.hid (d9_kx SCx)
    have WW := Lib.hid (WW.out.k9 KX.out)
    have GG := Lib.hid (GG.out.trans KX.out.2.gr)
    clear SCx S0x KX s1
    by_cases ca : D0 = X + dv
    · have c1 : (D0 == X + dv) = true := by simpa using ca
      have CF := Lib.hid (NA.out ca)
      clear ca NA NB NC
      go_wp2_with fail
      refine (CF.out w5 WW.out).mono ?_
      rintro e wl ⟨g, c, rfl, hol, hwl, hgl⟩
      have OO := Lib.hid (own_base hol (by have := GG.out.size; omega : w.heap.size ≤ w5.heap.size))
      have GF := Lib.hid (GG.out.trans hgl)
      have WW := Lib.hid hwl
      clear hol hwl hgl
      go_wp2
      go_ret
      exact ⟨g, c, rfl, OO.out, WW.out, GF.out⟩
    · have c1 : (D0 == X + dv) = false := by simpa using ca
      obtain ⟨w2, hw2⟩ : ∃ x, x = w5 := ⟨_, rfl⟩
      rw [← hw2] at WW GG ⊢
      clear hw2
      go_wp2_with fail
      have S0y := Lib.hid (HCY.out w2 w2.drew ⟨(WW.out.drawn (Drawn.refl _).drew).hm, GB.of_drawn (Drawn.refl _).drew⟩)
      go_region_held3 (fun wq => wq.cell? ⟨D.g, 1, none⟩ = some (.slice (some D.ay) ys.length D.cy) ∧ wq.cell? ⟨D.g, 6, none⟩ = some (.slice (some D.k1) 6 D.e1) ∧ wq.cell? (D.ay.add q1) = some (.int .i64 (ub : Int)) ∧ wq.cell? (D.k1.add ub) = some (.int .i64 iv) ∧ K9 B N D xs ys k w2 wq) (first | (with_reducible exact SCy) | (with_reducible exact S0y.out)) (first | (go_at_call 90; refine (CY.out _ (d9_ky (by assumption)).1).mono ?_; rintro e w6 ⟨rfl, hky⟩; have SCy := HCY.out _ w6 (K9.next (d9_ky (by assumption)) hky)))
      have KX := Lib.hid (d9_ky SCy)
      have WW := Lib.hid (WW.out.k9 KX.out)
      have GG := Lib.hid (GG.out.trans KX.out.2.gr)
      clear SCy S0y KX s2
      by_cases cb : D0 = Y + iv
      · have c2 : (D0 == Y + iv) = true := by simpa using cb
        have CF := Lib.hid (NB.out ca cb)
        clear ca cb NA NB NC
        go_wp2_with fail
        refine (CF.out w6 WW.out).mono ?_
        rintro e wl ⟨g, c, rfl, hol, hwl, hgl⟩
        have OO := Lib.hid (own_base hol (by have := GG.out.size; omega : w.heap.size ≤ w6.heap.size))
        have GF := Lib.hid (GG.out.trans hgl)
        have WW := Lib.hid hwl
        clear hol hwl hgl
        go_wp2
        go_ret
        exact ⟨g, c, rfl, OO.out, WW.out, GF.out⟩
      · have c2 : (D0 == Y + iv) = false := by simpa using cb
        have CF := Lib.hid (NC.out ca cb)
        clear ca cb NA NB NC
        go_wp2_with fail
        refine (CF.out w6 WW.out).mono ?_
        rintro e wl ⟨g, c, rfl, hol, hwl, hgl⟩
        have OO := Lib.hid (own_base hol (by have := GG.out.size; omega : w.heap.size ≤ w6.heap.size))
        have GF := Lib.hid (GG.out.trans hgl)
        have WW := Lib.hid hwl
        clear hol hwl hgl
        go_wp2
        go_ret
        exact ⟨g, c, rfl, OO.out, WW.out, GF.out⟩
theorem l11Walk_any (B N : Nat) (D : D9) (xs ys : Tr) (k : Co) (w0 : World) (hx : Tr.ok xs = true) (hy : Tr.ok ys = true) (hk : Co.ok k = true) : ∀ s, SaysW B N D xs ys k w0 s := by
  intro s
  induction s with
  | zero => intro i j p q w _ _ _ _ h; omega
  | succ s ih => exact l11Walk_step B N D xs ys k w0 s hx hy hk ih

end Go.Proofs.Ytlndaflhlkbedaa

/- Contracts (BmD). -/
namespace Go.Proofs.Ytlndaflhlkbedaa
open Go.RowKit
set_option linter.unusedVariables false

/-- what BestMap answers -/
def Bm.best (xs ys : Tr) (k : Co) : Tr := if DOk xs ys k = true then Bm.mt (Bm.cP xs ys) xs ys k 0 xs.length 0 ys.length else []
theorem Bm.best_no {xs ys : Tr} {k : Co} (h : DOk xs ys k = false) : Bm.best xs ys k = [] := by unfold Bm.best; rw [h]; rfl
theorem Bm.best_yes {xs ys : Tr} {k : Co} (h : DOk xs ys k = true) : Bm.best xs ys k = Bm.mt (Bm.cP xs ys) xs ys k 0 xs.length 0 ys.length := by unfold Bm.best; rw [if_pos h]

end Go.Proofs.Ytlndaflhlkbedaa

/- Contracts (Bm2). -/
namespace Go.Proofs.Ytlndaflhlkbedaa
open Go.RowKit
set_option linter.unusedVariables false

/-- places as nodes -/
def Bm.f (xs ys : Tr) (e : Int × Int) : Int × Int := ((Tr.nd xs e.1.toNat : Int), (Tr.nd ys e.2.toNat : Int))
/-- pair after pair: both ascend, and descent agrees -/
def Bm.R (xs ys : Tr) (e e' : Int × Int) : Prop := e.1 < e'.1 ∧ e.2 < e'.2 ∧ Tr.under xs e.1 e'.1 = Tr.under ys e.2 e'.2
def Bm.inn (xs ys : Tr) (i j p q : Nat) (e : Int × Int) : Prop := ∃ u v : Nat, e = ((Tr.nd xs u : Int), (Tr.nd ys v : Int)) ∧ i ≤ u ∧ u < j ∧ p ≤ v ∧ v < q
/-- the model's row of pairs at node i, and all of them -/
def Bm.srow (xs ys W : Tr) (i : Nat) : Nat → Tr
  | 0 => []
  | k + 1 => if Tr.nd xs (Tr.l W k).toNat = i then Bm.srow xs ys W i k ++ [((i : Int), (Tr.nd ys (Tr.d W k).toNat : Int))] else Bm.srow xs ys W i k
def Bm.sort (xs ys W : Tr) : Nat → Tr
  | 0 => []
  | i + 1 => Bm.sort xs ys W i ++ Bm.srow xs ys W i W.length
theorem Bm.srow_yes {xs ys W : Tr} {i k : Nat} (h : Tr.nd xs (Tr.l W k).toNat = i) : Bm.srow xs ys W i (k + 1) = Bm.srow xs ys W i k ++ [((i : Int), (Tr.nd ys (Tr.d W k).toNat : Int))] := by rw [Bm.srow, if_pos h]
theorem Bm.srow_no {xs ys W : Tr} {i k : Nat} (h : ¬ Tr.nd xs (Tr.l W k).toNat = i) : Bm.srow xs ys W i (k + 1) = Bm.srow xs ys W i k := by rw [Bm.srow, if_neg h]
theorem Bm.srow_len (xs ys W : Tr) (i : Nat) : ∀ k, (Bm.srow xs ys W i k).length ≤ k
  | 0 => Nat.le_refl _
  | k + 1 => by
    have h := Bm.srow_len xs ys W i k
    unfold Bm.srow
    split
    · rw [List.length_append, List.length_singleton]; omega
    · omega
theorem Bm.sort_len (xs ys W : Tr) : ∀ i, (Bm.sort xs ys W i).length ≤ i * W.length
  | 0 => by simp [Bm.sort]
  | i + 1 => by
    have h := Bm.sort_len xs ys W i
    have h2 := Bm.srow_len xs ys W i W.length
    rw [Bm.sort, List.length_append, Nat.succ_mul]
    omega
theorem Bm.srow_eq (xs ys W : Tr) (i : Nat) : ∀ k, k ≤ W.length → Bm.srow xs ys W i k = (((W.take k).map (Bm.f xs ys)).filter fun e => decide (e.1 = (i : Int)))
  | 0, _ => by simp [Bm.srow]
  | k + 1, hk => by
    have h := Bm.srow_eq xs ys W i k (by omega)
    have e0 : W[k]? = some (Tr.l W k, Tr.d W k) := by
      rw [List.getElem?_eq_getElem (show k < W.length by omega)]
      simp [Tr.l, Tr.d, List.getD_eq_getElem?_getD, show k < W.length by omega]
    rw [List.take_add_one, e0, List.map_append, List.filter_append, ← h]
    by_cases e : Tr.nd xs (Tr.l W k).toNat = i
    · rw [Bm.srow_yes e]
      congr 1
      simp [Bm.f, e]
    · rw [Bm.srow_no e]
      have : ¬ ((Tr.nd xs (Tr.l W k).toNat : Int) = (i : Int)) := by omega
      simp [Bm.f, this]
theorem asc_split {L : Tr} (h : L.Pairwise fun e e' => e.1 < e'.1) (i : Nat) : (L.filter fun e => decide (e.1 < (i : Int))) ++ (L.filter fun e => decide (e.1 = (i : Int))) = L.filter fun e => decide (e.1 < ((i + 1 : Nat) : Int)) := by
  induction L with
  | nil => rfl
  | cons e L ih =>
    obtain ⟨h1, h2⟩ := List.pairwise_cons.1 h
    have ih := ih h2
    by_cases c : e.1 < (i : Int)
    · rw [List.filter_cons_of_pos (by simpa using c), List.filter_cons_of_neg (by simp; omega), List.filter_cons_of_pos (by simp; omega), List.cons_append, ih]
    · have n1 : (L.filter fun e => decide (e.1 < (i : Int))) = [] := List.filter_eq_nil_iff.2 fun e' h' => by have := h1 e' h'; simp; omega
      rw [List.filter_cons_of_neg (by simpa using c), n1]
      rw [n1, List.nil_append] at ih
      by_cases c2 : e.1 = (i : Int)
      · have n2 : (L.filter fun e => decide (e.1 = (i : Int))) = [] := List.filter_eq_nil_iff.2 fun e' h' => by have := h1 e' h'; simp; omega
        rw [List.filter_cons_of_pos (by simpa using c2), List.filter_cons_of_pos (by simp; omega), n2, ← ih, n2]
        rfl
      · rw [List.filter_cons_of_neg (by simpa using c2), List.filter_cons_of_neg (by simp; omega), List.nil_append]
        exact ih
theorem one_key {L : Tr} (h : L.Pairwise fun e e' => e.1 < e'.1) (a : Int) : (L.filter fun e => decide (e.1 = a)) = [] ∨ ∃ x, (L.filter fun e => decide (e.1 = a)) = [x] := by
  have hp : (L.filter fun e => decide (e.1 = a)).Pairwise fun e e' => e.1 < e'.1 := h.filter _
  rcases hl : (L.filter fun e => decide (e.1 = a)) with _ | ⟨x, _ | ⟨y, r⟩⟩
  · exact .inl hl
  · exact .inr ⟨x, hl⟩
  · rw [hl] at hp
    have hx : x ∈ (L.filter fun e => decide (e.1 = a)) := by rw [hl]; simp
    have hy : y ∈ (L.filter fun e => decide (e.1 = a)) := by rw [hl]; simp
    have := (List.pairwise_cons.1 hp).1 y (by simp)
    have e1 := (List.mem_filter.1 hx).2
    have e2 := (List.mem_filter.1 hy).2
    simp only [decide_eq_true_eq] at e1 e2
    omega
/-- the model's sorting of pairs that are the same as an ascending list's -/
theorem Bm.sort_of {xs ys W L : Tr} (hp : L.Perm (W.map (Bm.f xs ys))) (h : L.Pairwise fun e e' => e.1 < e'.1) : ∀ i, Bm.sort xs ys W i = L.filter fun e => decide (e.1 < (i : Int)) ∧ decide (0 ≤ e.1)
  | 0 => by
    refine (List.filter_eq_nil_iff.2 fun e _ => ?_).symm
    simp <;> omega
  | i + 1 => by
    have ih := Bm.sort_of hp h i
    have nn : ∀ e ∈ L, 0 ≤ e.1 := fun e he => by
      obtain ⟨x, _, rfl⟩ := List.mem_map.1 (hp.mem_iff.1 he)
      simp [Bm.f]
    have fe : ∀ m : Nat, (L.filter fun e => decide (e.1 < (m : Int)) ∧ decide (0 ≤ e.1)) = L.filter fun e => decide (e.1 < (m : Int)) := fun m => List.filter_congr fun e he => by have := nn e he; simp [this]
    rw [fe] at ih
    rw [fe, Bm.sort, ih, Bm.srow_eq _ _ _ _ _ (Nat.le_refl _), List.take_length, ← asc_split h i]
    congr 1
    have hf := hp.filter fun e => decide (e.1 = (i : Int))
    rcases one_key h (i : Int) with hn | ⟨x, hx⟩
    · rw [hn] at hf ⊢
      exact hf.symm.eq_nil
    · rw [hx] at hf ⊢
      exact List.perm_singleton.1 hf.symm
section
variable {xs ys : Tr} {k : Co} (hx : Tr.ok xs = true) (hy : Tr.ok ys = true)
include hx hy
theorem Bm.go_perm {i j p q : Nat} (hj : j ≤ xs.length) (hq : q ≤ ys.length) : (Bm.go (Bm.cP xs ys) xs ys k i j p q).Perm ((Bm.go Bm.cS xs ys k i j p q).map (Bm.f xs ys)) := by
  refine Bm.go_ind (M := fun i j p q L => L.Perm ((Bm.go Bm.cS xs ys k i j p q).map (Bm.f xs ys))) hx hy ?_ ?_ ?_ ?_ (j - i + (q - p) + 1) i j p q (by omega) hj hq
  · intro i j p q h; rw [Bm.go_none h]; exact List.Perm.refl _
  · intro i j p q L h1 h2 _ _ h h3; rw [Bm.go_del h1 h2 h]; exact h3
  · intro i j p q L h1 h2 _ _ h h' h3; rw [Bm.go_ins h1 h2 h h']; exact h3
  · intro i j p q P Q A B h1 h2 h3 h4 hP hQ _ _ n1 n2 _ hA hB
    rw [Bm.go_both hx hy h1 h2 h3 h4 n1 n2]
    unfold Bm.mt Bm.cP Bm.cS
    rw [← hP, ← hQ, List.map_append, List.map_append, List.append_assoc, List.append_assoc]
    refine hA.append ?_
    refine List.perm_append_comm.trans (hB.append ?_)
    exact List.Perm.refl _
theorem Bm.go_asc {i j p q : Nat} (hj : j ≤ xs.length) (hq : q ≤ ys.length) : (Bm.go (Bm.cP xs ys) xs ys k i j p q).Pairwise (Bm.R xs ys) ∧ ∀ e ∈ Bm.go (Bm.cP xs ys) xs ys k i j p q, Bm.inn xs ys i j p q e := by
  refine Bm.go_ind (M := fun i j p q L => L.Pairwise (Bm.R xs ys) ∧ ∀ e ∈ L, Bm.inn xs ys i j p q e) hx hy ?_ ?_ ?_ ?_ (j - i + (q - p) + 1) i j p q (by omega) hj hq
  · intro i j p q h; exact ⟨List.Pairwise.nil, fun e he => absurd he (by simp)⟩
  · rintro i j p q L h1 h2 _ _ h ⟨h3, h4⟩
    exact ⟨h3, fun e he => by obtain ⟨u, v, a, b, c, d, f⟩ := h4 e he; exact ⟨u, v, a, by omega, by omega, by omega, by omega⟩⟩
  · rintro i j p q L h1 h2 _ _ h h' ⟨h3, h4⟩
    exact ⟨h3, fun e he => by obtain ⟨u, v, a, b, c, d, f⟩ := h4 e he; exact ⟨u, v, a, by omega, by omega, by omega, by omega⟩⟩
  · rintro i j p q P Q A B h1 h2 h3 h4 hP hQ hP1 hQ1 n1 n2 _ ⟨hA, iA⟩ ⟨hB, iB⟩
    have la1 := Tr.la_nest hx (j - 1) (by omega)
    have lb1 := Tr.la_nest hy (q - 1) (by omega)
    have AX : ∀ e ∈ A, Bm.R xs ys e ((Tr.nd xs (j - 1) : Int), (Tr.nd ys (q - 1) : Int)) := fun e he => by
      obtain ⟨u, v, rfl, a, b, c, d⟩ := iA e he
      have l1 : Tr.la xs (j - 1) = P := by omega
      have l2 : Tr.la ys (q - 1) = Q := by omega
      refine ⟨?_, ?_, ?_⟩
      · have := Tr.nd_ahead hx (u := u) (v := j - 1) (by omega) (by omega)
        show (Tr.nd xs u : Int) < (Tr.nd xs (j - 1) : Int)
        omega
      · have := Tr.nd_ahead hy (u := v) (v := q - 1) (by omega) (by omega)
        show (Tr.nd ys v : Int) < (Tr.nd ys (q - 1) : Int)
        omega
      · exact (Tr.nd_not hx (by omega) (by omega)).trans (Tr.nd_not hy (by omega) (by omega)).symm
    have XB : ∀ e ∈ B, Bm.R xs ys ((Tr.nd xs (j - 1) : Int), (Tr.nd ys (q - 1) : Int)) e := fun e he => by
      obtain ⟨u, v, rfl, a, b, c, d⟩ := iB e he
      refine ⟨?_, ?_, ?_⟩
      · have := (Tr.nd_below hx (u := u) (v := j - 1) (by omega) (by omega) (by omega)).1
        show (Tr.nd xs (j - 1) : Int) < (Tr.nd xs u : Int)
        omega
      · have := (Tr.nd_below hy (u := v) (v := q - 1) (by omega) (by omega) (by omega)).1
        show (Tr.nd ys (q - 1) : Int) < (Tr.nd ys v : Int)
        omega
      · exact (Tr.nd_yes hx (by omega) (by omega) (by omega)).trans (Tr.nd_yes hy (by omega) (by omega) (by omega)).symm
    have AB : ∀ e ∈ A, ∀ e' ∈ B, Bm.R xs ys e e' := fun e he e' he' => by
      obtain ⟨u, v, rfl, a, b, c, d⟩ := iA e he
      obtain ⟨u', v', rfl, a', b', c', d'⟩ := iB e' he'
      have l1 : Tr.la xs (j - 1) = P := by omega
      have l2 : Tr.la ys (q - 1) = Q := by omega
      have m1 := la1.2 u' (by omega) (by omega)
      have m2 := lb1.2 v' (by omega) (by omega)
      refine ⟨?_, ?_, ?_⟩
      · have := Tr.nd_ahead hx (u := u) (v := u') (by omega) (by omega)
        show (Tr.nd xs u : Int) < (Tr.nd xs u' : Int)
        omega
      · have := Tr.nd_ahead hy (u := v) (v := v') (by omega) (by omega)
        show (Tr.nd ys v : Int) < (Tr.nd ys v' : Int)
        omega
      · exact (Tr.nd_not hx (by omega) (by omega)).trans (Tr.nd_not hy (by omega) (by omega)).symm
    unfold Bm.cP
    refine ⟨?_, ?_⟩
    · refine List.pairwise_append.2 ⟨List.pairwise_append.2 ⟨hA, List.pairwise_singleton _ _, fun a ha b hb => ?_⟩, hB, fun a ha b hb => ?_⟩
      · rw [List.mem_singleton.1 hb]; exact AX a ha
      · rcases List.mem_append.1 ha with h | h
        · exact AB a h b hb
        · rw [List.mem_singleton.1 h]; exact XB b hb
    · intro e he
      rcases List.mem_append.1 he with h | h
      · rcases List.mem_append.1 h with h | h
        · obtain ⟨u, v, a, b, c, d, f⟩ := iA e h; exact ⟨u, v, a, by omega, by omega, by omega, by omega⟩
        · rw [List.mem_singleton.1 h]; exact ⟨j - 1, q - 1, rfl, by omega, by omega, by omega, by omega⟩
      · obtain ⟨u, v, a, b, c, d, f⟩ := iB e h; exact ⟨u, v, a, by omega, by omega, by omega, by omega⟩
end

end Go.Proofs.Ytlndaflhlkbedaa

/- Contracts (Bm3). -/
namespace Go.Proofs.Ytlndaflhlkbedaa
open Go.RowKit
set_option linter.unusedVariables false

theorem Bm.mtS_in {xs ys : Tr} {k : Co} (hx : Tr.ok xs = true) (hy : Tr.ok ys = true) : ∀ e ∈ Bm.mt Bm.cS xs ys k 0 xs.length 0 ys.length, ∃ u v : Nat, e = ((u : Int), (v : Int)) ∧ u < xs.length ∧ v < ys.length := by
  have x1 := (Tr.len24 hx).1
  have y1 := (Tr.len24 hy).1
  have la1 := (Tr.la_nest hx (xs.length - 1) (by omega)).1
  have lb1 := (Tr.la_nest hy (ys.length - 1) (by omega)).1
  have G : ∀ {i j p q : Nat}, j ≤ xs.length → q ≤ ys.length → ∀ e ∈ Bm.go Bm.cS xs ys k i j p q, ∃ u v : Nat, e = ((u : Int), (v : Int)) ∧ u < xs.length ∧ v < ys.length := fun {i j p q} hj hq => by
    refine Bm.go_ind (M := fun i j p q L => ∀ e ∈ L, ∃ u v : Nat, e = ((u : Int), (v : Int)) ∧ u < xs.length ∧ v < ys.length) hx hy ?_ ?_ ?_ ?_ (j - i + (q - p) + 1) i j p q (by omega) hj hq
    · intro i j p q _ e he; exact absurd he (by simp)
    · intro i j p q L _ _ _ _ _ h; exact h
    · intro i j p q L _ _ _ _ _ _ h; exact h
    · intro i j p q P Q A B h1 h2 h3 h4 _ _ _ _ _ _ _ hA hB e he
      unfold Bm.cS at he
      rcases List.mem_append.1 he with h | h
      · rcases List.mem_append.1 h with h | h
        · exact hA e h
        · exact hB e h
      · rw [List.mem_singleton.1 h]; exact ⟨j - 1, q - 1, rfl, by omega, by omega⟩
  intro e he
  unfold Bm.mt Bm.cS at he
  rcases List.mem_append.1 he with h | h
  · rcases List.mem_append.1 h with h | h
    · exact G (by omega) (by omega) e h
    · exact G (by omega) (by omega) e h
  · rw [List.mem_singleton.1 h]; exact ⟨xs.length - 1, ys.length - 1, rfl, by omega, by omega⟩
theorem Bm.mtS_at {xs ys : Tr} {k : Co} (hx : Tr.ok xs = true) (hy : Tr.ok ys = true) {W : Tr} (hW : W = Bm.mt Bm.cS xs ys k 0 xs.length 0 ys.length) {t : Nat} (ht : t < W.length) : ∃ u v : Nat, Tr.l W t = (u : Int) ∧ Tr.d W t = (v : Int) ∧ u < xs.length ∧ v < ys.length := by
  obtain ⟨u, v, e, hu, hv⟩ := Bm.mtS_in hx hy (k := k) (W[t]) (by rw [← hW]; exact List.getElem_mem ht)
  have e0 : W[t] = (Tr.l W t, Tr.d W t) := by simp [Tr.l, Tr.d, List.getD_eq_getElem?_getD, ht]
  rw [e0] at e
  injection e with e1 e2
  exact ⟨u, v, e1, e2, hu, hv⟩
theorem Bm.mt_facts {xs ys : Tr} {k : Co} (hx : Tr.ok xs = true) (hy : Tr.ok ys = true) : (Bm.mt (Bm.cP xs ys) xs ys k 0 xs.length 0 ys.length).Perm ((Bm.mt Bm.cS xs ys k 0 xs.length 0 ys.length).map (Bm.f xs ys)) ∧ (Bm.mt (Bm.cP xs ys) xs ys k 0 xs.length 0 ys.length).Pairwise (Bm.R xs ys) ∧ (∀ e ∈ Bm.mt (Bm.cP xs ys) xs ys k 0 xs.length 0 ys.length, Bm.inn xs ys 0 xs.length 0 ys.length e) ∧
    (Bm.mt (Bm.cP xs ys) xs ys k 0 xs.length 0 ys.length).length ≤ ys.length ∧ (Bm.mt Bm.cS xs ys k 0 xs.length 0 ys.length).length ≤ ys.length ∧ ∃ B, Bm.mt (Bm.cP xs ys) xs ys k 0 xs.length 0 ys.length = (0, 0) :: B ∧ B = Bm.go (Bm.cP xs ys) xs ys k 0 (xs.length - 1) 0 (ys.length - 1) := by
  have x1 := (Tr.len24 hx).1
  have y1 := (Tr.len24 hy).1
  have la0 := Tr.la_last hx
  have lb0 := Tr.la_last hy
  have root : ∀ {zs : Tr}, Tr.ok zs = true → Tr.nd zs (zs.length - 1) = 0 := fun {zs} hz => by
    have z1 := (Tr.len24 hz).1
    have := Tr.nd_rk hz (i := 0) (by omega)
    rw [show Tr.rk zs 0 = zs.length - 1 by unfold Tr.rk; rw [Tr.endN_zero hz, Tr.dn_zero hz]; omega] at this
    exact this
  have e1 : Bm.mt (Bm.cP xs ys) xs ys k 0 xs.length 0 ys.length = [((0 : Int), (0 : Int))] ++ Bm.go (Bm.cP xs ys) xs ys k 0 (xs.length - 1) 0 (ys.length - 1) := by
    unfold Bm.mt
    rw [la0, lb0, show max 0 0 = (0 : Nat) from rfl, Bm.go_none (i := 0) (j := 0) (.inl (Nat.le_refl _))]
    show [] ++ [((Tr.nd xs (xs.length - 1) : Int), (Tr.nd ys (ys.length - 1) : Int))] ++ _ = _
    rw [root hx, root hy]
    rfl
  have e2 : Bm.mt Bm.cS xs ys k 0 xs.length 0 ys.length = Bm.go Bm.cS xs ys k 0 (xs.length - 1) 0 (ys.length - 1) ++ [(((xs.length - 1 : Nat) : Int), ((ys.length - 1 : Nat) : Int))] := by
    unfold Bm.mt
    rw [la0, lb0, show max 0 0 = (0 : Nat) from rfl, Bm.go_none (i := 0) (j := 0) (.inl (Nat.le_refl _))]
    rfl
  have hp := Bm.go_perm (k := k) hx hy (i := 0) (j := xs.length - 1) (p := 0) (q := ys.length - 1) (by omega) (by omega)
  obtain ⟨ha, hin⟩ := Bm.go_asc (k := k) hx hy (i := 0) (j := xs.length - 1) (p := 0) (q := ys.length - 1) (by omega) (by omega)
  have hl : (Bm.go Bm.cS xs ys k 0 (xs.length - 1) 0 (ys.length - 1)).length ≤ ys.length - 1 - 0 := by
    refine Bm.go_ind (M := fun i j p q L => L.length ≤ q - p) hx hy ?_ ?_ ?_ ?_ (xs.length - 1 - 0 + (ys.length - 1 - 0) + 1) 0 (xs.length - 1) 0 (ys.length - 1) (by omega) (by omega) (by omega)
    · intro i j p q _; simp
    · intro i j p q L _ _ _ _ _ h; exact h
    · intro i j p q L _ _ _ _ _ _ h; omega
    · intro i j p q P Q A B _ _ _ _ _ _ _ _ _ _ _ h1 h2
      unfold Bm.cS
      simp only [List.length_append, List.length_singleton]
      omega
  have hl2 : (Bm.go (Bm.cP xs ys) xs ys k 0 (xs.length - 1) 0 (ys.length - 1)).length ≤ ys.length - 1 := by
    have := hp.length_eq
    rw [List.length_map] at this
    omega
  rw [e1, e2]
  refine ⟨?_, ?_, ?_, ?_, ?_, _, rfl, rfl⟩
  · rw [List.map_append]
    refine List.perm_append_comm.trans (hp.append ?_)
    simp [Bm.f, root hx, root hy]
  · refine List.pairwise_append.2 ⟨List.pairwise_singleton _ _, ha, fun a ha' b hb => ?_⟩
    rw [List.mem_singleton.1 ha']
    obtain ⟨u, v, rfl, _, hu, _, hv⟩ := hin b hb
    have b1 := Tr.nd_below hx (u := u) (v := xs.length - 1) (by omega) (by omega) hu
    have b2 := Tr.nd_below hy (u := v) (v := ys.length - 1) (by omega) (by omega) hv
    have c1 := Tr.nd_yes hx (u := u) (v := xs.length - 1) (by omega) (by omega) hu
    have c2 := Tr.nd_yes hy (u := v) (v := ys.length - 1) (by omega) (by omega) hv
    rw [root hx] at b1 c1
    rw [root hy] at b2 c2
    refine ⟨?_, ?_, c1.trans c2.symm⟩
    · show (0 : Int) < (Tr.nd xs u : Int)
      omega
    · show (0 : Int) < (Tr.nd ys v : Int)
      omega
  · intro e he
    rcases List.mem_append.1 he with h | h
    · rw [List.mem_singleton.1 h]
      exact ⟨xs.length - 1, ys.length - 1, by rw [root hx, root hy]; rfl, by omega, by omega, by omega, by omega⟩
    · obtain ⟨u, v, a, b, c, d, f⟩ := hin e h
      exact ⟨u, v, a, by omega, by omega, by omega, by omega⟩
  · rw [List.length_append, List.length_singleton]; omega
  · rw [List.length_append, List.length_singleton]; omega
/-- the model's answer is the program's -/
theorem Bm.sort_best {xs ys : Tr} {k : Co} (hx : Tr.ok xs = true) (hy : Tr.ok ys = true) : Bm.sort xs ys (Bm.mt Bm.cS xs ys k 0 xs.length 0 ys.length) xs.length = Bm.mt (Bm.cP xs ys) xs ys k 0 xs.length 0 ys.length := by
  obtain ⟨h1, h2, h3, _⟩ := Bm.mt_facts (k := k) hx hy
  rw [Bm.sort_of h1 (h2.imp (fun h => h.1))]
  refine List.filter_eq_self.2 fun e he => ?_
  obtain ⟨u, v, rfl, _, hu, _, _⟩ := h3 e he
  have := (Tr.nd_at hx hu).1
  simp
  omega

end Go.Proofs.Ytlndaflhlkbedaa

/- Contracts (BesS). -/
namespace Go.Proofs.Ytlndaflhlkbedaa
open Go.RowKit
set_option linter.unusedVariables false

theorem zs_up_atS (l : List Nat) (u : Nat) : Zs.at (Zs.up l) u = (l.getD u 0 : Nat) := by
  simp only [Zs.at, Zs.up, List.getD_eq_getElem?_getD, List.getElem?_map]
  cases l[u]? <;> simp
set_option maxHeartbeats 3200000 in
set_option maxRecDepth 100000 in
theorem specBestMap_any (A A' : Option Addr) (n n' c c' : Nat) (xs ys : Tr) (K0 K1 K2 : Option Addr) (n0 n1 n2 c0 c1 c2 : Nat) (k : Co) (w : World) (ha : NdIn w w.heap.size A n xs) (hb : NdIn w w.heap.size A' n' ys) (hk : CoIn w w.heap.size K0 K1 K2 n0 n1 n2 k) (hn : n ≤ 1048576) (hn' : n' ≤ 1048576) (h0 : n0 ≤ 1048576) (h1 : n1 ≤ 1048576) (h2 : n2 ≤ 1048576) :
    Calls Try.prog 43 #[.slice A n c, .slice A' n' c', .agg #[.slice K0 n0 c0, .slice K1 n1 c1, .slice K2 n2 c2]] w (OwnNodes 55 (Bm.best xs ys k) w) := by
  obtain ⟨wc, hwc⟩ : ∃ wc, wc = w.alloc (.cells #[.slice K0 n0 c0, .slice K1 n1 c1, .slice K2 n2 c2] 27) := ⟨_, rfl⟩
  have hbc : Below w.heap.size w wc := by rw [hwc]; exact (Below.refl _ _).alloc (Nat.le_refl _) _
  have HQ := Lib.hid (show Box3 wc w.heap.size (.slice K0 n0 c0) (.slice K1 n1 c1) (.slice K2 n2 c2) by rw [hwc]; exact Box3.made _ _ _ _ _)
  have HL := Lib.hid (show w.heap.size < wc.heap.size by rw [hwc]; simp)
  have HWC := Lib.hid hwc
  have HA := Lib.hid (ha.to_below hbc)
  have HB := Lib.hid (hb.to_below hbc)
  have HK := Lib.hid (hk.to_below hbc)
  have HBC := Lib.hid hbc
  cases hd : DOk xs ys k with
  | false =>
    rw [Bm.best_no hd]
    have HD := Lib.hid (show (Tr.ok xs && Tr.ok ys && Co.ok k) = false from hd)
    clear ha hb hk hd hwc hbc
    go_enter Try.func43, Try.ntmps43
    go_wp2_with fail
    rw [← HWC.out]
    refine (l8Three_any (c := _) (c' := _) (c0 := _) (c1 := _) (c2 := _) (ha := HA.out) (hb := HB.out) (hk := HK.out) (hn := hn) (hn' := hn') (h0 := h0) (h1 := h1) (h2 := h2)).mono ?_
    rintro e w1 ⟨rfl, b1⟩
    have HA := Lib.hid (HA.out.to_below b1)
    have HB := Lib.hid (HB.out.to_below b1)
    have HK := Lib.hid (HK.out.to_below b1)
    have HQ := Lib.hid (HQ.out.below b1 HL.out)
    have HL := Lib.hid (Nat.lt_of_lt_of_le HL.out b1.size)
    have HBC := Lib.hid (HBC.out.trans (b1.mono HBC.out.size))
    clear b1
    rw [HD.out]
    go_wp2
    go_ret
    exact ⟨some ⟨w1.heap.size, 0, none⟩, 0, rfl, own_base (World.ownsRow_lit w1 #[] 0 (Nat.le_refl _) (Nat.zero_le _) rfl) HBC.out.size, HBC.out.alloc HBC.out.size _⟩
  | true =>
    rw [Bm.best_yes hd]
    obtain ⟨o1, o2, o3⟩ := DOk.parts hd
    have hln := ha.1
    have hln' := hb.1
    have HL1 := Lib.hid hln
    have HL2 := Lib.hid hln'
    have O1 := Lib.hid o1
    have O2 := Lib.hid o2
    have O3 := Lib.hid o3
    have HD := Lib.hid (show (Tr.ok xs && Tr.ok ys && Co.ok k) = true from hd)
    have XY := Lib.hid (And.intro (Tr.len24 o1) (Tr.len24 o2))
    rw [← Bm.sort_best o1 o2]
    obtain ⟨W, hW⟩ : ∃ x, x = Bm.mt Bm.cS xs ys k 0 xs.length 0 ys.length := ⟨_, rfl⟩
    rw [← hW]
    have HW := Lib.hid hW
    have WL := Lib.hid (show W.length ≤ 24 by have := (Bm.mt_facts (k := k) o1 o2).2.2.2.2.1; rw [← hW] at this; have := (Tr.len24 o2).2; omega)
    have PLx := Lib.hid (show (Zs.up (Tr.post xs)).length = n by rw [Zs.up_length, Tr.post_length o1]; exact hln)
    have PLy := Lib.hid (show (Zs.up (Tr.post ys)).length = n' by rw [Zs.up_length, Tr.post_length o2]; exact hln')
    obtain ⟨i0, hi, hz0, hz1, hz2⟩ := info_parts info_prW
    clear ha hb hk hd hwc hbc o1 o2 o3 hln hln' hW
    go_enter Try.func43, Try.ntmps43
    go_wp2_with fail
    rw [← HWC.out]
    refine (l8Three_any (c := _) (c' := _) (c0 := _) (c1 := _) (c2 := _) (ha := HA.out) (hb := HB.out) (hk := HK.out) (hn := hn) (hn' := hn') (h0 := h0) (h1 := h1) (h2 := h2)).mono ?_
    rintro e w1 ⟨rfl, b1⟩
    have HA := Lib.hid (HA.out.to_below b1)
    have HB := Lib.hid (HB.out.to_below b1)
    have HK := Lib.hid (HK.out.to_below b1)
    have HQ := Lib.hid (HQ.out.below b1 HL.out)
    have HL := Lib.hid (Nat.lt_of_lt_of_le HL.out b1.size)
    have HBC := Lib.hid (HBC.out.trans (b1.mono HBC.out.size))
    clear b1
    rw [HD.out]
    obtain ⟨q0, q1, q2⟩ := HQ.out
    go_wp2_with fail
    clear q0 q1 q2
    refine (l9New_any _ _ _ _ _ _ xs ys _ _ _ _ _ _ _ _ _ k _ HA.out HB.out HK.out O1.out O2.out O3.out).mono ?_
    rintro e w2 ⟨D, N, K, rfl, hM, b2⟩
    have BB := Lib.hid b2
    have HM := Lib.hid hM
    clear hM b2
    have hln := (Tr.len24 O1.out).1
    have hln' := (Tr.len24 O2.out).1
    have C := Lib.hid (l11Match_any w1.heap.size N D xs ys k w2 (xs.length + ys.length) O1.out O2.out (l11Walk_any w1.heap.size N D xs ys k w2 O1.out O2.out O3.out _) 0 xs.length 0 ys.length w2 (by omega) (Nat.le_refl _) (by omega) (Nat.le_refl _) (by omega) (W9.refl HM.out))
    rw [← HW.out, HL1.out, HL2.out] at C
    clear hln hln'
    go_wp2_with fail
    refine C.out.mono ?_
    rintro e w3 ⟨gW, cW, rfl, hoW, _, hg3⟩
    have B3 := Lib.hid (show Below w1.heap.size w1 w3 from BB.out.grown hg3 BB.out.size (fun b hb => by have e2 : D.gk = b := Option.some.inj hb; have := HM.out.row.lt D.gk rfl; omega))
    have HA := Lib.hid (HA.out.to_below B3.out)
    have HB := Lib.hid (HB.out.to_below B3.out)
    have HBC := Lib.hid (HBC.out.trans (B3.out.mono HBC.out.size))
    have OW := Lib.hid hoW
    clear hoW hg3 C
    go_wp2_with fail
    refine (specPostOrder_any _ _ _ xs w3 HA.out hn).mono ?_
    rintro e w4 ⟨Aa, ca, rfl, ho, hb⟩
    have OW := Lib.hid (own_below OW.out hb)
    have HB := Lib.hid (HB.out.to_below hb)
    have HBC := Lib.hid (HBC.out.trans (hb.mono HBC.out.size))
    have OA := Lib.hid ho
    clear ho hb
    go_wp2_with fail
    refine (specPostOrder_any _ _ _ ys w4 HB.out hn').mono ?_
    rintro e w5 ⟨Ab, cb, rfl, ho, hb⟩
    have OW := Lib.hid (own_below OW.out hb)
    have OA := Lib.hid (own_below OA.out hb)
    have HBC := Lib.hid (HBC.out.trans (hb.mono HBC.out.size))
    have OB := Lib.hid ho
    clear ho hb
    rw [PLx.out] at OA ⊢
    rw [PLy.out] at OB ⊢
    have IA := Lib.hid (IntIn.of_own OA.out)
    have IB := Lib.hid (IntIn.of_own OB.out)
    clear HA HB HM BB B3 OA OB HQ HL HK
    have x24 := XY.out
    go_wp2_with fail
    go_loopw [11, 10] (fun kv ov wr => ∃ i : Nat, i ≤ n ∧ kv = .int .i64 i ∧ wr.ownsRow w5.heap.size 55 2 ov (Bm.sort xs ys W i).length (Tr.cells (Bm.sort xs ys W i)) ∧ Below w5.heap.size w5 wr) (fun k _ _ => n - (intOf k).toNat)
    case atStart => exact ⟨0, by omega, rfl, by rw [show Bm.sort xs ys W 0 = [] by rfl]; exact World.ownsRow_lit w5 #[] 0 (Nat.le_refl _) (Nat.zero_le _) rfl, (Below.refl _ _).alloc (Nat.le_refl _) _⟩
    case round =>
      obtain ⟨i, hi1, rfl, hown, hB⟩ := hrel
      have Ho := Lib.hid hown
      have HBr := Lib.hid hB
      clear hown hB
      by_cases hlt : i < n
      · have hi0 : (0 : Int) ≤ (i : Int) := by omega
        have hilt : (i : Int) < (n : Int) := by omega
        have hwl := WL.out
        go_wp2
        go_loopw [12, 10] (fun kv ov wr => ∃ t : Nat, t ≤ W.length ∧ kv = .int .i64 t ∧ wr.ownsRow w5.heap.size 55 2 ov (Bm.sort xs ys W i ++ Bm.srow xs ys W i t).length (Tr.cells (Bm.sort xs ys W i ++ Bm.srow xs ys W i t)) ∧ Below w5.heap.size w5 wr) (fun k _ _ => W.length - (intOf k).toNat)
        case atStart => exact ⟨0, by omega, rfl, by rw [show Bm.srow xs ys W i 0 = [] by rfl, List.append_nil]; exact Ho.out, HBr.out⟩
        case round =>
          clear Ho HBr
          obtain ⟨t, ht1, rfl, hown, hB⟩ := hrel
          have Ho := Lib.hid hown
          have HBr := Lib.hid hB
          clear hown hB
          by_cases hlt2 : t < W.length
          · obtain ⟨u, v, eu, ev, hu, hv⟩ := Bm.mtS_at O1.out O2.out HW.out hlt2
            have hu2 : u < n := by rw [← HL1.out]; exact hu
            have hv2 : v < n' := by rw [← HL2.out]; exact hv
            have la := own_even (own_below OW.out HBr.out) (k := t) hlt2
            have da := own_odd (own_below OW.out HBr.out) (k := t) hlt2
            obtain ⟨ad, rfl, _, pa⟩ := (IA.out.to_below HBr.out).at_ (k := u) hu2
            obtain ⟨bd, rfl, _, pb⟩ := (IB.out.to_below HBr.out).at_ (k := v) hv2
            rw [eu] at la
            rw [ev] at da
            rw [zs_up_atS] at pa pb
            have ht0 : (0 : Int) ≤ (t : Int) := by omega
            have htlt : (t : Int) < (W.length : Int) := by omega
            have hu0 : (0 : Int) ≤ (u : Int) := by omega
            have hult : (u : Int) < (n : Int) := by omega
            have hv0 : (0 : Int) ≤ (v : Int) := by omega
            have hvlt : (v : Int) < (n' : Int) := by omega
            have hsz := HBr.out.size
            have HLX := Lib.hid (show (Bm.sort xs ys W i ++ Bm.srow xs ys W i t).length + 1 ≤ 4398046511104 by
              have a1 := Bm.sort_len xs ys W i
              have a2 := Bm.srow_len xs ys W i t
              have a3 : i * W.length ≤ 24 * 24 := Nat.mul_le_mul (by have := HL1.out; omega) hwl
              rw [List.length_append]; omega)
            obtain ⟨a, ha⟩ : ∃ z, z = Tr.nd xs u := ⟨_, rfl⟩
            obtain ⟨b, hb⟩ : ∃ z, z = Tr.nd ys v := ⟨_, rfl⟩
            have pa2 : wr.cell? (ad.add u) = some (.int .i64 (a : Int)) := by rw [ha]; exact pa
            have pb2 : wr.cell? (bd.add v) = some (.int .i64 (b : Int)) := by rw [hb]; exact pb
            have a24 : a < n := by rw [ha, ← HL1.out]; exact (Tr.nd_at O1.out hu).1
            have eA := Lib.hid (show Tr.nd xs (Tr.l W t).toNat = a by rw [eu, ha]; rfl)
            have eB := Lib.hid (show Tr.nd ys (Tr.d W t).toNat = b by rw [ev, hb]; rfl)
            clear pa pb eu ev ha hb hu hv
            by_cases e : a = i
            · have q1 : ((a : Int) == (i : Int)) = true := by simp; omega
              have Hs := Lib.hid (show (Bm.sort xs ys W i ++ Bm.srow xs ys W i (t + 1)) = (Bm.sort xs ys W i ++ Bm.srow xs ys W i t) ++ [((i : Int), (b : Int))] by rw [Bm.srow_yes (eA.out.trans e), eB.out, List.append_assoc])
              obtain ⟨X, hX⟩ : ∃ X, X = (Bm.sort xs ys W i ++ Bm.srow xs ys W i t) := ⟨_, rfl⟩
              rw [← hX] at Hs HLX Ho
              clear hX e
              go_wp2_with (at_builtin; go_loud (refine append_pair_at wr rfl _ _ 43 rfl w5.heap.size 55 i0 Try.underlying43 hi hz0 hz1 hz2 u10 X.length X rfl Ho.out rfl (i : Int) (b : Int) rfl HLX.out hsz ?_); intro v' w6 hown6 hgrow6 _)
              have hb6 := Kit.below_own HBr.out Ho.out hgrow6
              go_roundw
              case rel => exact ⟨t + 1, by omega, by go_num, by rw [Hs.out]; exact hown6, hb6⟩
              case measure => simp [intOf]; omega
            · have q1 : ((a : Int) == (i : Int)) = false := by simp; omega
              have Hs := Lib.hid (show (Bm.sort xs ys W i ++ Bm.srow xs ys W i (t + 1)) = (Bm.sort xs ys W i ++ Bm.srow xs ys W i t) by rw [Bm.srow_no (fun h => e (eA.out.symm.trans h))])
              clear e
              go_wp2
              go_roundw
              case rel => exact ⟨t + 1, by omega, by go_num, by rw [Hs.out]; exact Ho.out, HBr.out⟩
              case measure => simp [intOf]; omega
          · obtain rfl : t = W.length := by omega
            have Hs := Lib.hid (show Bm.sort xs ys W (i + 1) = (Bm.sort xs ys W i ++ Bm.srow xs ys W i W.length) by rw [Bm.sort])
            go_wp2
            go_roundw
            case rel => exact ⟨i + 1, by omega, by go_num, by rw [Hs.out]; exact Ho.out, HBr.out⟩
            case measure => simp [intOf]; omega
      · obtain rfl : n = i := by omega
        have Ht := Lib.hid (show Bm.sort xs ys W n = Bm.sort xs ys W xs.length by rw [HL1.out])
        rw [Ht.out] at Ho
        have Ho2 := Lib.hid (own_base Ho.out HBC.out.size)
        obtain ⟨A2, c2, rfl⟩ := own_slice Ho2.out
        go_wp2
        go_ret
        exact ⟨A2, c2, rfl, Ho2.out, HBC.out.trans (HBr.out.mono HBC.out.size)⟩

end Go.Proofs.Ytlndaflhlkbedaa
