/- Texts of one claim laid into one file, in build order: Com, Bm, StepP, TrG, Rgn, TrI, TrJ. -/
import Derived.Test.YtlndaflhlkbedaaMg17
import Derived.BigQuiet
import Derived.Deep.CutRange
import Derived.Deep.DeepCutAuto
import Derived.Deep.LoopGhost
import Derived.Deep.RegionHeld3
import Derived.Laws.NewBlocks
import Derived.Maps.AppendAt
/- Contracts (Com). -/
namespace Go.Proofs.Ytlndaflhlkbedaa
open Go.RowKit
set_option linter.unusedVariables false

/-- where b leads, by the first k pairs -/
def Cp.out (ns : Tr) (b : Int) : Nat → List Int
  | 0 => []
  | k + 1 => if b = Tr.l ns k then Cp.out ns b k ++ [Tr.d ns k] else Cp.out ns b k
/-- the pairs of a by way of b -/
def Cp.row (a : Int) (zs : List Int) : Tr := zs.map fun z => (a, z)
def Cp.to (ms ns : Tr) : Nat → Tr
  | 0 => []
  | i + 1 => Cp.to ms ns i ++ Cp.row (Tr.l ms i) (Cp.out ns (Tr.d ms i) ns.length)
def Cp.all (ms ns : Tr) : Tr := Cp.to ms ns ms.length
theorem Cp.out_len (ns : Tr) (b : Int) : ∀ k, (Cp.out ns b k).length ≤ k
  | 0 => Nat.le_refl _
  | k + 1 => by
    have h := Cp.out_len ns b k
    unfold Cp.out
    split
    · rw [List.length_append, List.length_singleton]; omega
    · omega
theorem Cp.row_len (a : Int) (zs : List Int) : (Cp.row a zs).length = zs.length := by simp [Cp.row]
theorem Cp.out_yes {ns : Tr} {b : Int} {k : Nat} (h : b = Tr.l ns k) : Cp.out ns b (k + 1) = Cp.out ns b k ++ [Tr.d ns k] := by rw [Cp.out, if_pos h]
theorem Cp.out_no {ns : Tr} {b : Int} {k : Nat} (h : ¬ b = Tr.l ns k) : Cp.out ns b (k + 1) = Cp.out ns b k := by rw [Cp.out, if_neg h]
theorem Cp.row_add (a : Int) (zs : List Int) (z : Int) : Cp.row a (zs ++ [z]) = Cp.row a zs ++ [(a, z)] := by simp [Cp.row]
theorem Cp.to_len (ms ns : Tr) : ∀ i, (Cp.to ms ns i).length ≤ i * ns.length
  | 0 => by simp [Cp.to]
  | i + 1 => by
    have h := Cp.to_len ms ns i
    have h2 := Cp.out_len ns (Tr.d ms i) ns.length
    rw [Cp.to, List.length_append, Cp.row_len, Nat.succ_mul]
    omega
theorem Cp.to_bound (ms ns : Tr) {i : Nat} (hi : i ≤ 1048576) (hn : ns.length ≤ 1048576) : (Cp.to ms ns i).length ≤ 1099511627776 := Nat.le_trans (Cp.to_len ms ns i) (Nat.mul_le_mul hi hn)
theorem Cp.all_bound (ms ns : Tr) (hi : ms.length ≤ 1048576) (hn : ns.length ≤ 1048576) : (Cp.all ms ns).length ≤ 1099511627776 := Cp.to_bound ms ns hi hn
open Go.RowKit in
/-- one pair appended to a row of one's own, however long -/
theorem step_append_pair {P : Program} {ops : Array Oper} {o : Oper} {a : Act} (w : World) {K : Act → World → Prop} {Q : Exit → Act → World → Prop} {E : Prop} (hgd : o.guard = none) (s x : Operand) (t : TypeId)
    (ho : o.op = .call { callee := .builtin .append, args := #[s, x], argTypes := #[t, t] })
    (base : Nat) (e : TypeId) (i : TypeInfo) (ht : P.underlying t = some (.slice e)) (hi : P.info? e = some i) (hz : i.zero = some (.agg #[.int .i64 0, .int .i64 0]))
    (hsize : i.size = 2) (hby : i.bytes = 16) (v : Value) (n : Nat) (l : Tr) (hs : a.eval s = v) (hown : w.ownsRow base e 2 v n (Tr.cells l)) (hn : n = l.length)
    (b1 b2 : Int) (hx : a.eval x = .slice (some ⟨w.heap.size, 0, none⟩) 1 1)
    (h63 : l.length + 1 ≤ 4398046511104) (hbase : base ≤ w.heap.size)
    (h : ∀ v' w', w'.ownsRow base e 2 v' (l ++ [(b1, b2)]).length (Tr.cells (l ++ [(b1, b2)])) → (w.alloc (.cells #[.int .i64 b1, .int .i64 b2] e)).grownBy w' v.ownBlock → K (a.put o.dst v') w') :
    if Region.wanted o (yielded ops a.tmps) = true then Oper.wp P o a (w.alloc (.cells #[.int .i64 b1, .int .i64 b2] e)) K Q else E := by
  have hw : Region.wanted o (yielded ops a.tmps) = true := by simp [Region.wanted, hgd]
  rw [if_pos hw]
  subst hn
  refine wp_append_own _ s x t ho base e i (.agg #[.int .i64 0, .int .i64 0]) 2 16 ht hi hz hsize hby rfl (by decide) v l.length (Tr.cells l) hs (hown.alloc _) ⟨w.heap.size, 0, none⟩ 1 1 (Tr.cells [(b1, b2)]) hx (by simp [Tr.cells]) ?_ (Tr.cells_cell _) (by unfold maxLen; omega) (by omega) (by simp; omega) ?_
  · intro j u hj
    have hj2 : j < 2 := by
      have := (List.getElem?_eq_some_iff.1 hj).1
      simpa [Tr.cells] using this
    have : j = 0 ∨ j = 1 := by omega
    rcases this with rfl | rfl <;> (simp [Tr.cells] at hj; subst hj; simp [Addr.add])
  · intro v' w' h2 h3 _
    refine h v' w' ?_ h3
    rw [Tr.cells_append, List.length_append]
    exact h2

end Go.Proofs.Ytlndaflhlkbedaa

/- Contracts (Bm). -/
namespace Go.Proofs.Ytlndaflhlkbedaa
open Go.RowKit
set_option linter.unusedVariables false

/-- pairs of a mapping of least cost between two ranges of places; cmb lays a pair beside what stands ahead of it and below it -/
def Bm.go (cmb : Tr → Nat → Nat → Tr → Tr) (xs ys : Tr) (k : Co) (i j p q : Nat) : Tr :=
  if j ≤ i ∨ q ≤ p then []
  else if RR xs ys k i j p q = RR xs ys k i (j - 1) p q + Co.del k (Tr.xa xs (j - 1)) then Bm.go cmb xs ys k i (j - 1) p q
  else if RR xs ys k i j p q = RR xs ys k i j p (q - 1) + Co.ins k (Tr.xa ys (q - 1)) then Bm.go cmb xs ys k i j p (q - 1)
  else cmb (Bm.go cmb xs ys k i (min (j - 1) (max i (Tr.la xs (j - 1)))) p (min (q - 1) (max p (Tr.la ys (q - 1))))) (j - 1) (q - 1)
    (Bm.go cmb xs ys k (min (j - 1) (max i (Tr.la xs (j - 1)))) (j - 1) (min (q - 1) (max p (Tr.la ys (q - 1)))) (q - 1))
termination_by (j - i) + (q - p)
decreasing_by all_goals omega
/-- the last ones of both together -/
def Bm.mt (cmb : Tr → Nat → Nat → Tr → Tr) (xs ys : Tr) (k : Co) (i j p q : Nat) : Tr :=
  cmb (Bm.go cmb xs ys k i (max i (Tr.la xs (j - 1))) p (max p (Tr.la ys (q - 1)))) (j - 1) (q - 1)
    (Bm.go cmb xs ys k (max i (Tr.la xs (j - 1))) (j - 1) (max p (Tr.la ys (q - 1))) (q - 1))
/-- the node at a place -/
def Tr.nd (xs : Tr) (u : Nat) : Nat := (Tr.post xs).getD u 0
/-- the model's order: by places, the pair last -/
def Bm.cS (a : Tr) (u v : Nat) (b : Tr) : Tr := a ++ b ++ [((u : Int), (v : Int))]
/-- the program's order: nodes, the pair between -/
def Bm.cP (xs ys : Tr) (a : Tr) (u v : Nat) (b : Tr) : Tr := a ++ [((Tr.nd xs u : Int), (Tr.nd ys v : Int))] ++ b
section
variable {cmb : Tr → Nat → Nat → Tr → Tr} {xs ys : Tr} {k : Co} {i j p q : Nat}
theorem Bm.go_none (h : j ≤ i ∨ q ≤ p) : Bm.go cmb xs ys k i j p q = [] := by rw [Bm.go, if_pos h]
theorem Bm.go_del (h1 : i < j) (h2 : p < q) (h : RR xs ys k i j p q = RR xs ys k i (j - 1) p q + Co.del k (Tr.xa xs (j - 1))) : Bm.go cmb xs ys k i j p q = Bm.go cmb xs ys k i (j - 1) p q := by
  rw [Bm.go, if_neg (by omega), if_pos h]
theorem Bm.go_ins (h1 : i < j) (h2 : p < q) (h : ¬ RR xs ys k i j p q = RR xs ys k i (j - 1) p q + Co.del k (Tr.xa xs (j - 1))) (h' : RR xs ys k i j p q = RR xs ys k i j p (q - 1) + Co.ins k (Tr.xa ys (q - 1))) : Bm.go cmb xs ys k i j p q = Bm.go cmb xs ys k i j p (q - 1) := by
  rw [Bm.go, if_neg (by omega), if_neg h, if_pos h']
theorem Bm.go_both (hx : Tr.ok xs = true) (hy : Tr.ok ys = true) (h1 : i < j) (h2 : p < q) (hj : j ≤ xs.length) (hq : q ≤ ys.length) (h : ¬ RR xs ys k i j p q = RR xs ys k i (j - 1) p q + Co.del k (Tr.xa xs (j - 1))) (h' : ¬ RR xs ys k i j p q = RR xs ys k i j p (q - 1) + Co.ins k (Tr.xa ys (q - 1))) :
    Bm.go cmb xs ys k i j p q = Bm.mt cmb xs ys k i j p q := by
  have a := (Tr.la_nest hx (j - 1) (by omega)).1
  have b := (Tr.la_nest hy (q - 1) (by omega)).1
  rw [Bm.go, if_neg (by omega), if_neg h, if_neg h', show min (j - 1) (max i (Tr.la xs (j - 1))) = max i (Tr.la xs (j - 1)) by omega, show min (q - 1) (max p (Tr.la ys (q - 1))) = max p (Tr.la ys (q - 1)) by omega]
  rfl
/-- what holds of each step holds of the whole -/
theorem Bm.go_ind {M : Nat → Nat → Nat → Nat → Tr → Prop} (hx : Tr.ok xs = true) (hy : Tr.ok ys = true)
    (h0 : ∀ i j p q, j ≤ i ∨ q ≤ p → M i j p q [])
    (h1 : ∀ i j p q L, i < j → p < q → j ≤ xs.length → q ≤ ys.length → RR xs ys k i j p q = RR xs ys k i (j - 1) p q + Co.del k (Tr.xa xs (j - 1)) → M i (j - 1) p q L → M i j p q L)
    (h2 : ∀ i j p q L, i < j → p < q → j ≤ xs.length → q ≤ ys.length → ¬ RR xs ys k i j p q = RR xs ys k i (j - 1) p q + Co.del k (Tr.xa xs (j - 1)) → RR xs ys k i j p q = RR xs ys k i j p (q - 1) + Co.ins k (Tr.xa ys (q - 1)) → M i j p (q - 1) L → M i j p q L)
    (h3 : ∀ i j p q P Q A B, i < j → p < q → j ≤ xs.length → q ≤ ys.length → P = max i (Tr.la xs (j - 1)) → Q = max p (Tr.la ys (q - 1)) → P ≤ j - 1 → Q ≤ q - 1 → ¬ RR xs ys k i j p q = RR xs ys k i (j - 1) p q + Co.del k (Tr.xa xs (j - 1)) → ¬ RR xs ys k i j p q = RR xs ys k i j p (q - 1) + Co.ins k (Tr.xa ys (q - 1)) → RR xs ys k i j p q = RR xs ys k i P p Q + RR xs ys k P (j - 1) Q (q - 1) + Co.rel k (Tr.xa xs (j - 1)) (Tr.xa ys (q - 1)) →
      M i P p Q A → M P (j - 1) Q (q - 1) B → M i j p q (cmb A (j - 1) (q - 1) B)) :
    ∀ (s i j p q : Nat), (j - i) + (q - p) < s → j ≤ xs.length → q ≤ ys.length → M i j p q (Bm.go cmb xs ys k i j p q) := by
  intro s
  induction s with
  | zero => intro i j p q h; omega
  | succ s ih =>
    intro i j p q hs hj hq
    by_cases e : j ≤ i ∨ q ≤ p
    · rw [Bm.go_none e]; exact h0 i j p q e
    · by_cases a : RR xs ys k i j p q = RR xs ys k i (j - 1) p q + Co.del k (Tr.xa xs (j - 1))
      · rw [Bm.go_del (by omega) (by omega) a]; exact h1 i j p q _ (by omega) (by omega) hj hq a (ih i (j - 1) p q (by omega) (by omega) hq)
      · by_cases b : RR xs ys k i j p q = RR xs ys k i j p (q - 1) + Co.ins k (Tr.xa ys (q - 1))
        · rw [Bm.go_ins (by omega) (by omega) a b]; exact h2 i j p q _ (by omega) (by omega) hj hq a b (ih i j p (q - 1) (by omega) hj (by omega))
        · have la1 := (Tr.la_nest hx (j - 1) (by omega)).1
          have lb1 := (Tr.la_nest hy (q - 1) (by omega)).1
          rw [Bm.go_both hx hy (by omega) (by omega) hj hq a b]
          refine h3 i j p q _ _ _ _ (by omega) (by omega) hj hq rfl rfl (by omega) (by omega) a b ?_ (ih _ _ _ _ (by omega) (by omega) (by omega)) (ih _ _ _ _ (by omega) (by omega) (by omega))
          have := RD_both (K := Co.cs k) (x := Tr.xa xs) (y := Tr.xa ys) (Tr.la_nest hx) (Tr.la_nest hy) (i := i) (j := j - 1) (k := p) (l := q - 1) (by omega) (by omega) (by omega) (by omega)
          rw [show j - 1 + 1 = j by omega, show q - 1 + 1 = q by omega] at this
          have t : RR xs ys k i j p q = min (min (RR xs ys k i (j - 1) p q + Co.del k (Tr.xa xs (j - 1))) (RR xs ys k i j p (q - 1) + Co.ins k (Tr.xa ys (q - 1)))) (RR xs ys k i (max i (Tr.la xs (j - 1))) p (max p (Tr.la ys (q - 1))) + RR xs ys k (max i (Tr.la xs (j - 1))) (j - 1) (max p (Tr.la ys (q - 1))) (q - 1) + Co.rel k (Tr.xa xs (j - 1)) (Tr.xa ys (q - 1))) := this
          omega
end
section
variable {xs : Tr} (hok : Tr.ok xs = true)
include hok
theorem Tr.nd_at {u : Nat} (hu : u < xs.length) : Tr.nd xs u < xs.length ∧ Tr.rk xs (Tr.nd xs u) = u ∧ Tr.la xs u = Tr.nd xs u - Tr.dn xs (Tr.nd xs u) ∧ Tr.xa xs u = Tr.l xs (Tr.nd xs u) := by
  obtain ⟨i, h1, h2, h3, h4, h5⟩ := Tr.la_at hok hu
  have : Tr.nd xs u = i := by unfold Tr.nd; rw [List.getD_eq_getElem?_getD, h5]; rfl
  rw [this]
  exact ⟨h1, h2, h3, h4⟩
theorem Tr.nd_rk {i : Nat} (hi : i < xs.length) : Tr.nd xs (Tr.rk xs i) = i := by
  unfold Tr.nd; rw [List.getD_eq_getElem?_getD, Tr.post_rk hok hi]; rfl
/-- ahead of v's first leaf: ahead of v -/
theorem Tr.nd_ahead {u v : Nat} (hv : v < xs.length) (h : u < Tr.la xs v) : Tr.nd xs u < Tr.nd xs v := by
  have l1 := (Tr.la_nest hok v hv).1
  obtain ⟨a1, a2, a3, _⟩ := Tr.nd_at hok (u := u) (by omega)
  obtain ⟨b1, b2, b3, _⟩ := Tr.nd_at hok hv
  rcases Nat.lt_or_ge (Tr.nd xs u) (Tr.nd xs v) with c | c
  · exact c
  · have := Tr.rk_ge hok c a1
    omega
/-- from v's first leaf on: below v -/
theorem Tr.nd_below {u v : Nat} (hv : v < xs.length) (h : Tr.la xs v ≤ u) (huv : u < v) : Tr.nd xs v < Tr.nd xs u ∧ Tr.nd xs u < Tr.endN xs (Tr.nd xs v) := by
  obtain ⟨a1, a2, a3, _⟩ := Tr.nd_at hok (u := u) (by omega)
  obtain ⟨b1, b2, b3, _⟩ := Tr.nd_at hok hv
  have d1 := Tr.dn_le hok a1
  have hlt : Tr.nd xs v < Tr.nd xs u := by
    rcases Nat.lt_trichotomy (Tr.nd xs u) (Tr.nd xs v) with c | c | c
    · by_cases hu : Tr.nd xs v < Tr.endN xs (Tr.nd xs u)
      · have := Tr.rk_under hok a1 c hu; omega
      · have g := Tr.gap_mono hok (i := Tr.endN xs (Tr.nd xs u)) (j := Tr.nd xs v) (by omega) b1
        have e := Tr.endN_dn hok a1
        have r : Tr.rk xs (Tr.nd xs u) = Tr.endN xs (Tr.nd xs u) - 1 - Tr.dn xs (Tr.nd xs u) := rfl
        rcases e.2.2.2 with f | ⟨f1, f2⟩
        · omega
        · omega
    · rw [c] at a2; omega
    · exact c
  refine ⟨hlt, ?_⟩
  rcases Nat.lt_or_ge (Tr.nd xs u) (Tr.endN xs (Tr.nd xs v)) with c | c
  · exact c
  · have := Tr.rk_left hok b1 c a1; omega
theorem Tr.nd_not {u v : Nat} (huv : u ≤ v) (hv : v < xs.length) : Tr.under xs (Tr.nd xs u : Int) (Tr.nd xs v : Int) = false := by
  obtain ⟨a1, a2, a3, _⟩ := Tr.nd_at hok (u := u) (by omega)
  obtain ⟨b1, b2, b3, _⟩ := Tr.nd_at hok hv
  cases e : Tr.under xs (Tr.nd xs u : Int) (Tr.nd xs v : Int) with
  | false => rfl
  | true =>
    simp only [Tr.under, Bool.and_eq_true, decide_eq_true_eq] at e
    obtain ⟨⟨⟨e1, e2⟩, e3⟩, e4⟩ := e
    rw [Tr.endOf_yes e1] at e4
    have := Tr.rk_under hok a1 (by omega) (show Tr.nd xs v < Tr.endN xs (Tr.nd xs u) by omega)
    omega
theorem Tr.has_nd {u : Nat} (hu : u < xs.length) : Tr.has xs (Tr.nd xs u : Int) = true := by
  have := (Tr.nd_at hok hu).1
  rw [Tr.has_iff]
  exact ⟨hok, by omega, by omega⟩
theorem Tr.nd_yes {u v : Nat} (hv : v < xs.length) (h : Tr.la xs v ≤ u) (huv : u < v) : Tr.under xs (Tr.nd xs v : Int) (Tr.nd xs u : Int) = true := by
  obtain ⟨c1, c2⟩ := Tr.nd_below hok hv h huv
  unfold Tr.under
  rw [Tr.has_nd hok hv, Tr.has_nd hok (show u < xs.length by omega), Tr.endOf_yes (Tr.has_nd hok hv), decide_eq_true (by omega), decide_eq_true (by omega)]
  rfl
end

end Go.Proofs.Ytlndaflhlkbedaa

/- Contracts (StepP). -/
namespace Go.Proofs.Ytlndaflhlkbedaa
open Go.RowKit
set_option linter.unusedVariables false

theorem append_pair_at {P : Program} (w : World) {ops : Array Oper} {rest : List Oper} {o : Oper} {a : Act} {Q : Exit → Act → World → Prop} (hgd : o.guard = none) (s x : Operand) (t : TypeId)
    (ho : o.op = .call { callee := .builtin .append, args := #[s, x], argTypes := #[t, t] })
    (base : Nat) (e : TypeId) (i : TypeInfo) (ht : P.underlying t = some (.slice e)) (hi : P.info? e = some i) (hz : i.zero = some (.agg #[.int .i64 0, .int .i64 0]))
    (hsize : i.size = 2) (hby : i.bytes = 16) (v : Value) (n : Nat) (l : Tr) (hs : a.eval s = v) (hown : w.ownsRow base e 2 v n (Tr.cells l)) (hn : n = l.length)
    (b1 b2 : Int) (hx : a.eval x = .slice (some ⟨w.heap.size, 0, none⟩) 1 1)
    (h63 : l.length + 1 ≤ 4398046511104) (hbase : base ≤ w.heap.size)
    (h : ∀ v' w', w'.ownsRow base e 2 v' (l ++ [(b1, b2)]).length (Tr.cells (l ++ [(b1, b2)])) → (w.alloc (.cells #[.int .i64 b1, .int .i64 b2] e)).grownBy w' v.ownBlock → (v'.ownBlock = v.ownBlock ∨ v'.ownBlock = some (w.heap.size + 1)) → wpList P ops Q rest (a.put o.dst v') w') :
    wpList P ops Q (o :: rest) a (w.alloc (.cells #[.int .i64 b1, .int .i64 b2] e)) := by
  subst hn
  refine wpList_append_own_at _ hgd s x t ho base e i (.agg #[.int .i64 0, .int .i64 0]) 2 16 ht hi hz hsize hby rfl (by decide) v l.length (Tr.cells l) hs (hown.alloc _) ⟨w.heap.size, 0, none⟩ 1 1 (Tr.cells [(b1, b2)]) hx (by simp [Tr.cells]) ?_ (Tr.cells_cell _) (by unfold maxLen; omega) (by omega) (by simp; omega) ?_
  · intro j u hj
    have hj2 : j < 2 := by
      have := (List.getElem?_eq_some_iff.1 hj).1
      simpa [Tr.cells] using this
    have : j = 0 ∨ j = 1 := by omega
    rcases this with rfl | rfl <;> (simp [Tr.cells] at hj; subst hj; simp [Addr.add])
  · intro v' w' h2 h3 _ h5
    refine h v' w' ?_ h3 (by simpa using h5)
    rw [Tr.cells_append, List.length_append]
    exact h2
/-- rows of different elements don't lie in one block -/
theorem comNe {w : World} {b1 b2 n1 n2 s1 s2 : Nat} {e1 e2 : TypeId} {v1 v2 : Value} {x1 x2 : List Value} (h1 : w.ownsRow b1 e1 s1 v1 n1 x1) (h2 : w.ownsRow b2 e2 s2 v2 n2 x2) (he : e1 ≠ e2) : v1.ownBlock = none ∨ v1.ownBlock ≠ v2.ownBlock := by
  rcases h1.2 with ⟨rfl, _⟩ | ⟨g, cap, cur, rfl, _, hg, _⟩
  · exact .inl rfl
  · refine .inr fun e => ?_
    rcases h2.2 with ⟨rfl, _⟩ | ⟨g', cap', cur', rfl, _, hg', _⟩
    · cases e
    · simp only [Value.ownBlock, Option.some.injEq] at e
      subst e
      rw [hg] at hg'
      simp only [Option.some.injEq, Obj.cells.injEq] at hg'
      exact he hg'.2.1
theorem Cp.row_take (a : Int) (zs : List Int) {q : Nat} (h : q < zs.length) : Cp.row a (zs.take (q + 1)) = Cp.row a (zs.take q) ++ [(a, zs.getD q 0)] := by
  rw [List.take_add_one, List.getElem?_eq_getElem h, Cp.row, Cp.row, List.map_append, List.getD_eq_getElem?_getD, List.getElem?_eq_getElem h]
  rfl

end Go.Proofs.Ytlndaflhlkbedaa

/- Contracts (TrG). -/
namespace Go.Proofs.Ytlndaflhlkbedaa
open Go.RowKit
set_option linter.unusedVariables false

theorem hp_cell {w : World} {b o : Nat} {cur : Array Value} {t : TypeId} {v : Value} (h : w.heap[b]? = some (.cells cur t)) (hv : cur[o]? = some v) : w.cell? ⟨b, o, none⟩ = some v := by simp [World.cell?, h, hv]
theorem hp_frozen {w : World} {b o : Nat} {cur : Array Value} {t : TypeId} (h : w.heap[b]? = some (.cells cur t)) : w.frozen? ⟨b, o, none⟩ = false := by simp [World.frozen?, h]
theorem hp_lt {w : World} {b : Nat} {o : Obj} (h : w.heap[b]? = some o) : b < w.heap.size := (Array.getElem?_eq_some_iff.1 h).1
/-- blocks of other things than pairs and the tracer stand -/
structure Stay (w w' : World) : Prop where
  size : w.heap.size ≤ w'.heap.size
  blk : ∀ (b : Nat) (cur : Array Value) (t : TypeId), w.heap[b]? = some (.cells cur t) → t ≠ 55 → t ≠ 112 → w'.heap[b]? = some (.cells cur t)
theorem Stay.refl (w : World) : Stay w w := ⟨Nat.le_refl _, fun _ _ _ h _ _ => h⟩
theorem Stay.trans {a b c : World} (h : Stay a b) (h' : Stay b c) : Stay a c := ⟨Nat.le_trans h.size h'.size, fun x cur t hx h1 h2 => h'.blk x cur t (h.blk x cur t hx h1 h2) h1 h2⟩
theorem Stay.below {w w' : World} (h : Below w.heap.size w w') : Stay w w' := ⟨h.size, fun b cur t hb _ _ => (h.block b (hp_lt hb)).trans hb⟩
theorem Stay.grown {w w' : World} {row : Option Nat} (hg : w.grownBy w' row) (hr : ∀ g, row = some g → ∀ cur t, w.heap[g]? = some (.cells cur t) → t = 55 ∨ t = 112) : Stay w w' :=
  ⟨hg.size, fun b cur t hb h1 h2 => (hg.block b (hp_lt hb) (fun e => by rcases hr b e.symm cur t hb with h | h; exact h1 h; exact h2 h)).trans hb⟩
/-- four ints in a block of their own -/
def Rb (w : World) (b i j p q : Nat) : Prop := w.heap[b]? = some (.cells #[.int .i64 (i : Int), .int .i64 (j : Int), .int .i64 (p : Int), .int .i64 (q : Int)] 102)
theorem Rb.stay {w w' : World} {b i j p q : Nat} (h : Rb w b i j p q) (hs : Stay w w') : Rb w' b i j p q := hs.blk _ _ _ h (by decide) (by decide)
theorem Rb.cells {w : World} {b i j p q : Nat} (h : Rb w b i j p q) : w.cell? ⟨b, 0, none⟩ = some (.int .i64 (i : Int)) ∧ w.cell? ⟨b, 1, none⟩ = some (.int .i64 (j : Int)) ∧ w.cell? ⟨b, 2, none⟩ = some (.int .i64 (p : Int)) ∧ w.cell? ⟨b, 3, none⟩ = some (.int .i64 (q : Int)) := ⟨hp_cell h rfl, hp_cell h rfl, hp_cell h rfl, hp_cell h rfl⟩
theorem Rb.froz {w : World} {b i j p q : Nat} (h : Rb w b i j p q) : w.frozen? ⟨b, 0, none⟩ = false ∧ w.frozen? ⟨b, 1, none⟩ = false ∧ w.frozen? ⟨b, 2, none⟩ = false ∧ w.frozen? ⟨b, 3, none⟩ = false := ⟨hp_frozen h, hp_frozen h, hp_frozen h, hp_frozen h⟩
theorem Rb.drawn {w w' : World} {b i j p q : Nat} (h : Rb w b i j p q) (hd : Drawn w w') : Rb w' b i j p q := h.stay (Stay.below hd.toBelow)
theorem Rb.made (w : World) (i j p q : Nat) : Rb (w.alloc (.cells #[.int .i64 (i : Int), .int .i64 (j : Int), .int .i64 (p : Int), .int .i64 (q : Int)] 102)) w.heap.size i j p q := (MapKept.heap_alloc w _).1
/-- four ints stored over four -/
theorem Rb.set {w : World} {b i j p q : Nat} (h : Rb w b i j p q) (i' j' p' q' : Nat) : Rb ((((w.setCell ⟨b, 0, none⟩ (.int .i64 (i' : Int))).setCell ⟨b, 1, none⟩ (.int .i64 (j' : Int))).setCell ⟨b, 2, none⟩ (.int .i64 (p' : Int))).setCell ⟨b, 3, none⟩ (.int .i64 (q' : Int))) b i' j' p' q' :=
  heap_setCell_same _ _ 3 _ _ _ (heap_setCell_same _ _ 2 _ _ _ (heap_setCell_same _ _ 1 _ _ _ (heap_setCell_same _ _ 0 _ _ _ h)))
theorem grown_set (w : World) (a : Addr) (u : Value) : w.grownBy (w.setCell a u) (some a.block) := ⟨rfl, rfl, rfl, by simp, fun k _ hk => heap_setCell_other w a k u (fun e => hk (by rw [e]))⟩
theorem grown_set4 (w : World) (b : Nat) (u0 u1 u2 u3 : Value) : w.grownBy ((((w.setCell ⟨b, 0, none⟩ u0).setCell ⟨b, 1, none⟩ u1).setCell ⟨b, 2, none⟩ u2).setCell ⟨b, 3, none⟩ u3) (some b) :=
  (((grown_set w ⟨b, 0, none⟩ u0).trans (grown_set _ ⟨b, 1, none⟩ u1)).trans (grown_set _ ⟨b, 2, none⟩ u2)).trans (grown_set _ ⟨b, 3, none⟩ u3)
theorem Memo.at_heap {xs ys : Tr} {k : Co} {b : Nat} {w w' : World} (h : Memo xs ys k b w) (e : w'.heap[b]? = w.heap[b]?) : Memo xs ys k b w' := by
  obtain ⟨es, clock, h1, h2⟩ := h
  exact ⟨es, clock, e.trans h1, h2⟩
theorem Memo.no_cells {xs ys : Tr} {k : Co} {b : Nat} {w : World} (h : Memo xs ys k b w) {cur : Array Value} {t : TypeId} (e : w.heap[b]? = some (.cells cur t)) : False := by
  obtain ⟨es, clock, h1, h2⟩ := h
  rw [h1] at e
  cases e
/-- the tracer: made in wB, the pairs L so far -/
structure TG (D : D10) (oa ob : Addr) (ca cb : Nat) (wB : World) (xs ys : Tr) (k : Co) (L : Tr) (w : World) : Prop where
  hp : PT D xs ys k wB
  ra : ∀ u, u < xs.length → wB.cell? (oa.add u) = some (.int .i64 (Tr.nd xs u : Int))
  rb : ∀ u, u < ys.length → wB.cell? (ob.add u) = some (.int .i64 (Tr.nd ys u : Int))
  hg : wB.grownBy w (some D.gm)
  hm : Memo xs ys k D.gm w
  ht : ∃ pv, w.heap[wB.heap.size]? = some (.cells #[.pointer (some ⟨D.g, 0, none⟩), .slice (some oa) xs.length ca, .slice (some ob) ys.length cb, pv] 112) ∧ w.ownsRow (wB.heap.size + 1) 55 2 pv L.length (Tr.cells L)
section
variable {D : D10} {oa ob : Addr} {ca cb : Nat} {wB : World} {xs ys : Tr} {k : Co} {L : Tr} {w w' : World}
theorem TG.pt (h : TG D oa ob ca cb wB xs ys k L w) : PT D xs ys k w := h.hp.step h.hg h.hm
theorem TG.own_type {base n : Nat} {pv : Value} {cs : List Value} (h : w.ownsRow base 55 2 pv n cs) {g : Nat} (hg : pv.ownBlock = some g) : ∃ cur, w.heap[g]? = some (.cells cur 55) := by
  rcases h.2 with ⟨rfl, _⟩ | ⟨g', cap, cur, rfl, _, hh, _⟩
  · cases hg
  · simp only [Value.ownBlock, Option.some.injEq] at hg
    subst hg
    exact ⟨cur, hh⟩
theorem TG.keep (h : TG D oa ob ca cb wB xs ys k L w) {row : Option Nat} (hg : w.grownBy w' row) (hm : Memo xs ys k D.gm w') (hr : ∀ g, row = some g → g = D.gm ∨ (wB.heap.size ≤ g ∧ ∃ cur t, w.heap[g]? = some (.cells cur t) ∧ t ≠ 55 ∧ t ≠ 112)) : TG D oa ob ca cb wB xs ys k L w' := by
  obtain ⟨pv, h1, h2⟩ := h.ht
  have hB := h.hg.size
  refine ⟨h.hp, h.ra, h.rb, ⟨hg.os.trans h.hg.os, hg.tape.trans h.hg.tape, hg.output.trans h.hg.output, Nat.le_trans hB hg.size, fun i hi hne => ?_⟩, hm, pv, ?_, ?_⟩
  · refine (hg.block i (by omega) (fun e => ?_)).trans (h.hg.block i hi hne)
    rcases hr i e.symm with h3 | ⟨h3, _⟩
    · exact hne (by rw [h3])
    · omega
  · refine (hg.block _ (hp_lt h1) (fun e => ?_)).trans h1
    rcases hr _ e.symm with h3 | ⟨_, cur, t, h3, _, h4⟩
    · exact h.hm.no_cells (h3 ▸ h1)
    · rw [h1] at h3
      simp only [Option.some.injEq, Obj.cells.injEq] at h3
      exact h4 h3.2.1.symm
  · refine h2.kept hg ?_
    rcases hb : pv.ownBlock with _ | g
    · exact .inl rfl
    · refine .inr fun e => ?_
      obtain ⟨cur0, h5⟩ := TG.own_type h2 hb
      rcases hr g e.symm with h3 | ⟨_, cur, t, h3, h4, _⟩
      · exact h.hm.no_cells (h3 ▸ h5)
      · rw [h5] at h3
        simp only [Option.some.injEq, Obj.cells.injEq] at h3
        exact h4 h3.2.1.symm
theorem TG.below (h : TG D oa ob ca cb wB xs ys k L w) (hb : Below w.heap.size w w') : TG D oa ob ca cb wB xs ys k L w' := h.keep (grownB_below hb none) (h.hm.below hb) (fun g e => by cases e)
theorem TG.drawn (h : TG D oa ob ca cb wB xs ys k L w) (hd : Drawn w w') : TG D oa ob ca cb wB xs ys k L w' := h.below hd.toBelow
theorem TG.dist (h : TG D oa ob ca cb wB xs ys k L w) (h' : PG D xs ys k w w') : TG D oa ob ca cb wB xs ys k L w' := h.keep h'.2 h'.1.mm (fun g e => .inl (Option.some.inj e).symm)
theorem TG.stay (h : TG D oa ob ca cb wB xs ys k L w) (h' : PG D xs ys k w w') : Stay w w' := Stay.grown h'.2 (fun g e cur t hc => (h.hm.no_cells ((Option.some.inj e) ▸ hc)).elim)
theorem TG.box (h : TG D oa ob ca cb wB xs ys k L w) {b i j p q : Nat} (hb : Rb w b i j p q) (hB : wB.heap.size ≤ b) (u0 u1 u2 u3 : Value) : TG D oa ob ca cb wB xs ys k L ((((w.setCell ⟨b, 0, none⟩ u0).setCell ⟨b, 1, none⟩ u1).setCell ⟨b, 2, none⟩ u2).setCell ⟨b, 3, none⟩ u3) :=
  have hg := grown_set4 w b u0 u1 u2 u3
  h.keep hg (h.hm.at_heap (hg.block _ h.hm.lt (fun e => h.hm.no_cells ((Option.some.inj e) ▸ hb)))) (fun g e => .inr (by obtain rfl := Option.some.inj e; exact ⟨hB, _, _, hb, by decide, by decide⟩))
theorem TG.len (h : TG D oa ob ca cb wB xs ys k L w) : wB.heap.size < w.heap.size := by obtain ⟨pv, h1, _⟩ := h.ht; exact hp_lt h1
theorem TG.nodeA (h : TG D oa ob ca cb wB xs ys k L w) {u : Nat} (hu : u < xs.length) : w.cell? (oa.add u) = some (.int .i64 (Tr.nd xs u : Int)) :=
  h.hg.cell (h.ra u hu) (fun e => h.hp.mm.apart (h.ra u hu) (Option.some.inj e))
theorem TG.nodeB (h : TG D oa ob ca cb wB xs ys k L w) {u : Nat} (hu : u < ys.length) : w.cell? (ob.add u) = some (.int .i64 (Tr.nd ys u : Int)) :=
  h.hg.cell (h.rb u hu) (fun e => h.hp.mm.apart (h.rb u hu) (Option.some.inj e))
/-- what the tracer's cells hold -/
theorem TG.cell0 (h : TG D oa ob ca cb wB xs ys k L w) : w.cell? ⟨wB.heap.size, 0, none⟩ = some (.pointer (some ⟨D.g, 0, none⟩)) ∧ w.cell? ⟨wB.heap.size, 1, none⟩ = some (.slice (some oa) xs.length ca) ∧ w.cell? ⟨wB.heap.size, 2, none⟩ = some (.slice (some ob) ys.length cb) := by
  obtain ⟨pv, h1, _⟩ := h.ht
  exact ⟨hp_cell h1 rfl, hp_cell h1 rfl, hp_cell h1 rfl⟩
/-- a pair more -/
theorem TG.app (h : TG D oa ob ca cb wB xs ys k L w) {pv pv' : Value} {w3 : World} {L' : Tr} (h1 : w.heap[wB.heap.size]? = some (.cells #[.pointer (some ⟨D.g, 0, none⟩), .slice (some oa) xs.length ca, .slice (some ob) ys.length cb, pv] 112)) (h2 : w.ownsRow (wB.heap.size + 1) 55 2 pv L.length (Tr.cells L))
    (hgr : w.grownBy w3 pv.ownBlock) (hown : w3.ownsRow (wB.heap.size + 1) 55 2 pv' L'.length (Tr.cells L')) : TG D oa ob ca cb wB xs ys k L' (w3.setCell ⟨wB.heap.size, 3, none⟩ pv') ∧ Stay w (w3.setCell ⟨wB.heap.size, 3, none⟩ pv') := by
  have hB := h.hg.size
  have hs := grown_set w3 ⟨wB.heap.size, 3, none⟩ pv'
  have hne : ∀ i, i ≤ wB.heap.size → some i ≠ pv.ownBlock := fun i hi e => by have := (h2.lt i e.symm).1; omega
  have h3 : w3.heap[wB.heap.size]? = some (.cells #[.pointer (some ⟨D.g, 0, none⟩), .slice (some oa) xs.length ca, .slice (some ob) ys.length cb, pv] 112) := (hgr.block _ (hp_lt h1) (hne _ (Nat.le_refl _))).trans h1
  have hgm : D.gm < wB.heap.size := h.hp.mm.lt
  refine ⟨⟨h.hp, h.ra, h.rb, ⟨hs.os.trans (hgr.os.trans h.hg.os), hs.tape.trans (hgr.tape.trans h.hg.tape), hs.output.trans (hgr.output.trans h.hg.output), Nat.le_trans hB (Nat.le_trans hgr.size hs.size), fun i hi hn => ?_⟩, ?_, pv', ?_, ?_⟩, ?_⟩
  · exact (hs.block i (by have := hgr.size; omega) (fun e => by have := Option.some.inj e; simp at this; omega)).trans ((hgr.block i (by omega) (hne i (by omega))).trans (h.hg.block i hi hn))
  · exact (h.hm.at_heap (hgr.block _ h.hm.lt (hne _ (by omega)))).at_heap (hs.block _ (by have := hgr.size; have := h.hm.lt; omega) (fun e => by have := Option.some.inj e; simp at this; omega))
  · exact heap_setCell_same _ _ 3 _ _ _ h3
  · refine hown.kept hs ?_
    rcases hb : pv'.ownBlock with _ | g
    · exact .inl rfl
    · refine .inr fun e => ?_
      have := (hown.lt g hb).1
      have := Option.some.inj e
      simp at this
      omega
  · refine (Stay.grown hgr (fun g e cur t hc => ?_)).trans (Stay.grown hs (fun g e cur t hc => ?_))
    · obtain ⟨cur0, h5⟩ := TG.own_type h2 e
      rw [h5] at hc
      simp only [Option.some.injEq, Obj.cells.injEq] at hc
      exact .inl hc.2.1.symm
    · obtain rfl := Option.some.inj e
      rw [h3] at hc
      simp only [Option.some.injEq, Obj.cells.injEq] at hc
      exact .inr hc.2.1.symm
end

end Go.Proofs.Ytlndaflhlkbedaa

/- Contracts (Rgn). -/
namespace Go.Proofs.Ytlndaflhlkbedaa
open Go.RowKit
set_option linter.unusedVariables false

section
variable {P : Program} {md : Region.Mode} {ops : Array Oper} {Q : Exit → Act → World → Prop} {S : World → Prop} {i fuel : Nat} {oi : Oper} {rest : List Oper} {listed : Array Bool} {a : Act} {w : World}
theorem rg_at (hd : ops.toList.drop i = oi :: rest) : ops[i]? = some oi := by
  have h : (ops.toList.drop i)[0]? = some oi := by rw [hd]; rfl
  rw [List.getElem?_drop] at h
  simpa using h
/-- an operation of a region that draws, not wanted: passed over first -/
theorem rg_skip (hd : ops.toList.drop i = oi :: rest) (hs : Region.noSelect ops = true) (hf : Region.free md ops listed i = true) (hr : (Region.ready md ops listed).contains i = true)
    (hQ : ∀ c a w, Q (.panic c) (a.put oi.dst undef) w → Q (.panic c) a w) (hw : Region.wanted oi (yielded ops a.tmps) = false) (hS : S w)
    (h : wpAnyH P md ops Q S fuel (listed.setIfInBounds i true) (a.put oi.dst undef) w) : wpAnyH P md ops Q S (fuel + 1) listed a w :=
  wpAnyH_take (rg_at hd) hs hf hr hQ (.inr ⟨hw, rfl⟩) hS h
/-- .. wanted: taken first -/
theorem rg_take {v : Value} (hd : ops.toList.drop i = oi :: rest) (hs : Region.noSelect ops = true) (hf : Region.free md ops listed i = true) (hr : (Region.ready md ops listed).contains i = true)
    (hQ : ∀ c a w, Q (.panic c) (a.put oi.dst v) w → Q (.panic c) a w) (hw : Region.wanted oi (yielded ops a.tmps) = true) (hy : ∀ w, S w → (execOp a.eval oi).run P w = .ok (.value v) w) (hS : S w)
    (h : wpAnyH P md ops Q S fuel (listed.setIfInBounds i true) (a.put oi.dst v) w) : wpAnyH P md ops Q S (fuel + 1) listed a w :=
  wpAnyH_take (rg_at hd) hs hf hr hQ (.inl ⟨hw, hy⟩) hS h
/-- .. the one that may come up now -/
theorem rg_one (hd : ops.toList.drop i = oi :: rest) (hr : Region.ready md ops listed = [i])
    (h : ∀ K' : Act → World → Prop, Shut (∀ a w, S w → (S w → wpAnyH P md ops Q S fuel (listed.setIfInBounds i true) a w) → K' a w) → if Region.wanted oi (yielded ops a.tmps) = true then Oper.wp P oi a w K' Q else K' (a.put oi.dst undef) w) : wpAnyH P md ops Q S (fuel + 1) listed a w :=
  wpAnyH_ready hr (by simp) (AllReadyH.cons (rg_at hd) h AllReadyH.nil)
end

end Go.Proofs.Ytlndaflhlkbedaa

/- Contracts (TrI). -/
namespace Go.Proofs.Ytlndaflhlkbedaa
open Go.RowKit
set_option linter.unusedVariables false

/-- the tracer, and one box of ranges -/
def MQ (D : D10) (oa ob : Addr) (ca cb : Nat) (wB : World) (xs ys : Tr) (k : Co) (L : Tr) (w0 : World) (b i j p q : Nat) (wq : World) : Prop := TG D oa ob ca cb wB xs ys k L wq ∧ Stay w0 wq ∧ Rb wq b i j p q
section
variable {D : D10} {oa ob : Addr} {ca cb : Nat} {wB : World} {xs ys : Tr} {k : Co} {L : Tr} {w0 wq wx : World} {b i j p q : Nat}
theorem MQ.below (h : MQ D oa ob ca cb wB xs ys k L w0 b i j p q wq) (hb : Below wq.heap.size wq wx) : MQ D oa ob ca cb wB xs ys k L w0 b i j p q wx := ⟨h.1.below hb, h.2.1.trans (Stay.below hb), h.2.2.stay (Stay.below hb)⟩
theorem MQ.drawn (h : MQ D oa ob ca cb wB xs ys k L w0 b i j p q wq) (hd : Drawn wq wx) : MQ D oa ob ca cb wB xs ys k L w0 b i j p q wx := h.below hd.toBelow
theorem MQ.dist (h : MQ D oa ob ca cb wB xs ys k L w0 b i j p q wq) (h' : PG D xs ys k wq wx) : MQ D oa ob ca cb wB xs ys k L w0 b i j p q wx := ⟨h.1.dist h', h.2.1.trans (h.1.stay h'), h.2.2.stay (h.1.stay h')⟩
theorem MQ.on (h : MQ D oa ob ca cb wB xs ys k L w0 b i j p q wq) : (wq.cell? ⟨b, 0, none⟩ = some (.int .i64 (i : Int)) ∧ wq.cell? ⟨b, 1, none⟩ = some (.int .i64 (j : Int)) ∧ wq.cell? ⟨b, 2, none⟩ = some (.int .i64 (p : Int)) ∧ wq.cell? ⟨b, 3, none⟩ = some (.int .i64 (q : Int)) ∧ wq.cell? ⟨wB.heap.size, 0, none⟩ = some (.pointer (some ⟨D.g, 0, none⟩))) ∧ MQ D oa ob ca cb wB xs ys k L w0 b i j p q wq := ⟨⟨h.2.2.cells.1, h.2.2.cells.2.1, h.2.2.cells.2.2.1, h.2.2.cells.2.2.2, h.1.cell0.1⟩, h⟩
theorem mq_of (h : (wq.cell? ⟨b, 0, none⟩ = some (.int .i64 (i : Int)) ∧ wq.cell? ⟨b, 1, none⟩ = some (.int .i64 (j : Int)) ∧ wq.cell? ⟨b, 2, none⟩ = some (.int .i64 (p : Int)) ∧ wq.cell? ⟨b, 3, none⟩ = some (.int .i64 (q : Int)) ∧ wq.cell? ⟨wB.heap.size, 0, none⟩ = some (.pointer (some ⟨D.g, 0, none⟩))) ∧ MQ D oa ob ca cb wB xs ys k L w0 b i j p q wq) : MQ D oa ob ca cb wB xs ys k L w0 b i j p q wq := h.2
theorem mq_tg (h : (wq.cell? ⟨b, 0, none⟩ = some (.int .i64 (i : Int)) ∧ wq.cell? ⟨b, 1, none⟩ = some (.int .i64 (j : Int)) ∧ wq.cell? ⟨b, 2, none⟩ = some (.int .i64 (p : Int)) ∧ wq.cell? ⟨b, 3, none⟩ = some (.int .i64 (q : Int)) ∧ wq.cell? ⟨wB.heap.size, 0, none⟩ = some (.pointer (some ⟨D.g, 0, none⟩))) ∧ MQ D oa ob ca cb wB xs ys k L w0 b i j p q wq) : TG D oa ob ca cb wB xs ys k L wq := h.2.1
theorem mq_next (h : (wq.cell? ⟨b, 0, none⟩ = some (.int .i64 (i : Int)) ∧ wq.cell? ⟨b, 1, none⟩ = some (.int .i64 (j : Int)) ∧ wq.cell? ⟨b, 2, none⟩ = some (.int .i64 (p : Int)) ∧ wq.cell? ⟨b, 3, none⟩ = some (.int .i64 (q : Int)) ∧ wq.cell? ⟨wB.heap.size, 0, none⟩ = some (.pointer (some ⟨D.g, 0, none⟩))) ∧ MQ D oa ob ca cb wB xs ys k L w0 b i j p q wq) (hb : Below wq.heap.size wq wx) : (wx.cell? ⟨b, 0, none⟩ = some (.int .i64 (i : Int)) ∧ wx.cell? ⟨b, 1, none⟩ = some (.int .i64 (j : Int)) ∧ wx.cell? ⟨b, 2, none⟩ = some (.int .i64 (p : Int)) ∧ wx.cell? ⟨b, 3, none⟩ = some (.int .i64 (q : Int)) ∧ wx.cell? ⟨wB.heap.size, 0, none⟩ = some (.pointer (some ⟨D.g, 0, none⟩))) ∧ MQ D oa ob ca cb wB xs ys k L w0 b i j p q wx := (h.2.below hb).on
theorem mq_alloc (h : (wq.cell? ⟨b, 0, none⟩ = some (.int .i64 (i : Int)) ∧ wq.cell? ⟨b, 1, none⟩ = some (.int .i64 (j : Int)) ∧ wq.cell? ⟨b, 2, none⟩ = some (.int .i64 (p : Int)) ∧ wq.cell? ⟨b, 3, none⟩ = some (.int .i64 (q : Int)) ∧ wq.cell? ⟨wB.heap.size, 0, none⟩ = some (.pointer (some ⟨D.g, 0, none⟩))) ∧ MQ D oa ob ca cb wB xs ys k L w0 b i j p q wq) (o : Obj) : ((wq.alloc o).cell? ⟨b, 0, none⟩ = some (.int .i64 (i : Int)) ∧ (wq.alloc o).cell? ⟨b, 1, none⟩ = some (.int .i64 (j : Int)) ∧ (wq.alloc o).cell? ⟨b, 2, none⟩ = some (.int .i64 (p : Int)) ∧ (wq.alloc o).cell? ⟨b, 3, none⟩ = some (.int .i64 (q : Int)) ∧ (wq.alloc o).cell? ⟨wB.heap.size, 0, none⟩ = some (.pointer (some ⟨D.g, 0, none⟩))) ∧ MQ D oa ob ca cb wB xs ys k L w0 b i j p q (wq.alloc o) := (h.2.below ((Below.refl _ _).alloc (Nat.le_refl _) o)).on
theorem mq_alloc_drew (h : (wq.drew.cell? ⟨b, 0, none⟩ = some (.int .i64 (i : Int)) ∧ wq.drew.cell? ⟨b, 1, none⟩ = some (.int .i64 (j : Int)) ∧ wq.drew.cell? ⟨b, 2, none⟩ = some (.int .i64 (p : Int)) ∧ wq.drew.cell? ⟨b, 3, none⟩ = some (.int .i64 (q : Int)) ∧ wq.drew.cell? ⟨wB.heap.size, 0, none⟩ = some (.pointer (some ⟨D.g, 0, none⟩))) ∧ MQ D oa ob ca cb wB xs ys k L w0 b i j p q wq.drew) (o : Obj) : ((wq.alloc o).drew.cell? ⟨b, 0, none⟩ = some (.int .i64 (i : Int)) ∧ (wq.alloc o).drew.cell? ⟨b, 1, none⟩ = some (.int .i64 (j : Int)) ∧ (wq.alloc o).drew.cell? ⟨b, 2, none⟩ = some (.int .i64 (p : Int)) ∧ (wq.alloc o).drew.cell? ⟨b, 3, none⟩ = some (.int .i64 (q : Int)) ∧ (wq.alloc o).drew.cell? ⟨wB.heap.size, 0, none⟩ = some (.pointer (some ⟨D.g, 0, none⟩))) ∧ MQ D oa ob ca cb wB xs ys k L w0 b i j p q (wq.alloc o).drew := mq_alloc h o
/-- some box of ranges -/
def Zb (w : World) (g : Nat) : Prop := ∃ a b c d, Rb w g a b c d
theorem Zb.of (h : Rb wq b i j p q) : Zb wq b := ⟨i, j, p, q, h⟩
theorem Zb.alloc {g : Nat} (h : Zb wq g) (o : Obj) : Zb (wq.alloc o) g := by obtain ⟨a, b, c, d, h⟩ := h; exact ⟨a, b, c, d, h.stay (Stay.below ((Below.refl _ _).alloc (Nat.le_refl _) o))⟩
theorem Zb.set4 {g g' : Nat} (h : Zb wq g) (hne : g ≠ g') (u0 u1 u2 u3 : Value) : Zb ((((wq.setCell ⟨g', 0, none⟩ u0).setCell ⟨g', 1, none⟩ u1).setCell ⟨g', 2, none⟩ u2).setCell ⟨g', 3, none⟩ u3) g := by
  obtain ⟨a, b, c, d, h⟩ := h
  exact ⟨a, b, c, d, ((grown_set4 wq g' u0 u1 u2 u3).block _ (hp_lt h) (fun e => hne (Option.some.inj e))).trans h⟩
theorem Rb.over (h : Rb wq b i j p q) {g' : Nat} (hne : b ≠ g') (u0 u1 u2 u3 : Value) : Rb ((((wq.setCell ⟨g', 0, none⟩ u0).setCell ⟨g', 1, none⟩ u1).setCell ⟨g', 2, none⟩ u2).setCell ⟨g', 3, none⟩ u3) b i j p q :=
  ((grown_set4 wq g' u0 u1 u2 u3).block _ (hp_lt h) (fun e => hne (Option.some.inj e))).trans h
theorem Rb.alloc (h : Rb wq b i j p q) (o : Obj) : Rb (wq.alloc o) b i j p q := h.stay (Stay.below ((Below.refl _ _).alloc (Nat.le_refl _) o))
theorem Rb.set_of (h : Zb wq b) (i j p q : Nat) : Rb ((((wq.setCell ⟨b, 0, none⟩ (.int .i64 (i : Int))).setCell ⟨b, 1, none⟩ (.int .i64 (j : Int))).setCell ⟨b, 2, none⟩ (.int .i64 (p : Int))).setCell ⟨b, 3, none⟩ (.int .i64 (q : Int))) b i j p q := by
  obtain ⟨a, b', c, d, h⟩ := h
  exact h.set i j p q
theorem MQ.alloc (h : MQ D oa ob ca cb wB xs ys k L w0 b i j p q wq) (o : Obj) : MQ D oa ob ca cb wB xs ys k L w0 b i j p q (wq.alloc o) := h.below ((Below.refl _ _).alloc (Nat.le_refl _) o)
theorem zb_one (h : Below ((w0.alloc (.cells #[.int .i64 0, .int .i64 0, .int .i64 0, .int .i64 0] 102)).drew.heap.size) (w0.alloc (.cells #[.int .i64 0, .int .i64 0, .int .i64 0, .int .i64 0] 102)).drew wq) : Rb wq w0.heap.size 0 0 0 0 :=
  (show Rb (w0.alloc (.cells #[.int .i64 0, .int .i64 0, .int .i64 0, .int .i64 0] 102)) w0.heap.size 0 0 0 0 from Rb.made w0 0 0 0 0).stay (Stay.below ⟨h.os, h.tape, h.output, h.size, h.block⟩)
theorem zb_two (h : Below (((w0.alloc (.cells #[.int .i64 0, .int .i64 0, .int .i64 0, .int .i64 0] 102)).alloc (.cells #[.int .i64 0, .int .i64 0, .int .i64 0, .int .i64 0] 102)).drew.heap.size) ((w0.alloc (.cells #[.int .i64 0, .int .i64 0, .int .i64 0, .int .i64 0] 102)).alloc (.cells #[.int .i64 0, .int .i64 0, .int .i64 0, .int .i64 0] 102)).drew wq) : Rb wq w0.heap.size 0 0 0 0 ∧ Rb wq (w0.heap.size + 1) 0 0 0 0 := by
  have e : (w0.alloc (.cells #[.int .i64 0, .int .i64 0, .int .i64 0, .int .i64 0] 102)).heap.size = w0.heap.size + 1 := by simp
  have hb : Below ((w0.alloc (.cells #[.int .i64 0, .int .i64 0, .int .i64 0, .int .i64 0] 102)).alloc (.cells #[.int .i64 0, .int .i64 0, .int .i64 0, .int .i64 0] 102)).heap.size ((w0.alloc (.cells #[.int .i64 0, .int .i64 0, .int .i64 0, .int .i64 0] 102)).alloc (.cells #[.int .i64 0, .int .i64 0, .int .i64 0, .int .i64 0] 102)) wq := ⟨h.os, h.tape, h.output, h.size, h.block⟩
  have h1 := (show Rb ((w0.alloc (.cells #[.int .i64 0, .int .i64 0, .int .i64 0, .int .i64 0] 102)).alloc (.cells #[.int .i64 0, .int .i64 0, .int .i64 0, .int .i64 0] 102)) (w0.alloc (.cells #[.int .i64 0, .int .i64 0, .int .i64 0, .int .i64 0] 102)).heap.size 0 0 0 0 from Rb.made _ 0 0 0 0).stay (Stay.below hb)
  rw [e] at h1
  exact ⟨((show Rb (w0.alloc (.cells #[.int .i64 0, .int .i64 0, .int .i64 0, .int .i64 0] 102)) w0.heap.size 0 0 0 0 from Rb.made w0 0 0 0 0).stay (Stay.below ((Below.refl _ _).alloc (Nat.le_refl _) _))).stay (Stay.below hb), h1⟩
theorem MQ.set4 (h : MQ D oa ob ca cb wB xs ys k L w0 b i j p q wq) {g : Nat} (hz : Zb wq g) (hB : wB.heap.size ≤ g) (hw : w0.heap.size ≤ g) (hne : b ≠ g) (u0 u1 u2 u3 : Value) : MQ D oa ob ca cb wB xs ys k L w0 b i j p q ((((wq.setCell ⟨g, 0, none⟩ u0).setCell ⟨g, 1, none⟩ u1).setCell ⟨g, 2, none⟩ u2).setCell ⟨g, 3, none⟩ u3) := by
  obtain ⟨z0, z1, z2, z3, hz⟩ := hz
  have hg := grown_set4 wq g u0 u1 u2 u3
  refine ⟨h.1.box hz hB _ _ _ _, ⟨Nat.le_trans h.2.1.size hg.size, fun b' cur t hb h1 h2 => ?_⟩, ?_⟩
  · have hb2 := h.2.1.blk b' cur t hb h1 h2
    exact (hg.block _ (hp_lt hb2) (fun e => by have := hp_lt hb; have := Option.some.inj e; omega)).trans hb2
  · exact (hg.block _ (hp_lt h.2.2) (fun e => hne (Option.some.inj e))).trans h.2.2
/-- the cells that a pair's region reads, while the row of pairs turns -/
theorem tr_six (h : TG D oa ob ca cb wB xs ys k L wq) (hr : Rb wq b i j p q) {pv : Value} (h2 : wq.ownsRow (wB.heap.size + 1) 55 2 pv L.length (Tr.cells L)) (hgr : wq.grownBy wx pv.ownBlock) {j1 q1 : Nat} (hj : j1 < xs.length) (hq : q1 < ys.length) :
    wx.cell? ⟨wB.heap.size, 1, none⟩ = some (.slice (some oa) xs.length ca) ∧ wx.cell? ⟨wB.heap.size, 2, none⟩ = some (.slice (some ob) ys.length cb) ∧ wx.cell? ⟨b, 1, none⟩ = some (.int .i64 (j : Int)) ∧ wx.cell? ⟨b, 3, none⟩ = some (.int .i64 (q : Int)) ∧ wx.cell? (oa.add j1) = some (.int .i64 (Tr.nd xs j1 : Int)) ∧ wx.cell? (ob.add q1) = some (.int .i64 (Tr.nd ys q1 : Int)) := by
  have hne : ∀ g, g ≤ wB.heap.size → some g ≠ pv.ownBlock := fun g hg e => by have := (h2.lt g e.symm).1; omega
  have hb : Rb wx b i j p q := (hgr.block _ (hp_lt hr) (fun e => by
    obtain ⟨cur0, h5⟩ := TG.own_type h2 e.symm
    unfold Rb at hr
    rw [hr] at h5
    simp only [Option.some.injEq, Obj.cells.injEq] at h5
    exact absurd h5.2.1 (by decide))).trans hr
  have c0 := h.cell0
  exact ⟨hgr.cell c0.2.1 (hne _ (Nat.le_refl _)), hgr.cell c0.2.2 (hne _ (Nat.le_refl _)), hb.cells.2.1, hb.cells.2.2.2,
    hgr.cell (h.nodeA hj) (hne _ (Nat.le_of_lt (World.block_lt_of_cell? _ _ (h.ra _ hj)))), hgr.cell (h.nodeB hq) (hne _ (Nat.le_of_lt (World.block_lt_of_cell? _ _ (h.rb _ hq))))⟩
theorem tr_six0 (h : TG D oa ob ca cb wB xs ys k L wq) (hr : Rb wq b i j p q) {j1 q1 : Nat} (hj : j1 < xs.length) (hq : q1 < ys.length) : wq.cell? ⟨wB.heap.size, 1, none⟩ = some (.slice (some oa) xs.length ca) ∧ wq.cell? ⟨wB.heap.size, 2, none⟩ = some (.slice (some ob) ys.length cb) ∧ wq.cell? ⟨b, 1, none⟩ = some (.int .i64 (j : Int)) ∧ wq.cell? ⟨b, 3, none⟩ = some (.int .i64 (q : Int)) ∧ wq.cell? (oa.add j1) = some (.int .i64 (Tr.nd xs j1 : Int)) ∧ wq.cell? (ob.add q1) = some (.int .i64 (Tr.nd ys q1 : Int)) := by
  have c0 := h.cell0
  exact ⟨c0.2.1, c0.2.2, hr.cells.2.1, hr.cells.2.2.2, h.nodeA hj, h.nodeB hq⟩
end
/-- trace of ranges that hold fewer than s places together -/
def SaysT (D : D10) (oa ob : Addr) (ca cb : Nat) (wB : World) (xs ys : Tr) (k : Co) (s : Nat) : Prop :=
  ∀ (i j p q : Nat) (L : Tr) (w : World), i ≤ j → j ≤ xs.length → p ≤ q → q ≤ ys.length → (j - i) + (q - p) < s → L.length + (q - p) ≤ 1000 → TG D oa ob ca cb wB xs ys k L w →
    Calls Try.prog 132 #[.pointer (some ⟨wB.heap.size, 0, none⟩), (.agg #[.int .i64 (i : Int), .int .i64 (j : Int), .int .i64 (p : Int), .int .i64 (q : Int)])] w fun e w' => e = .returned (.tuple #[]) ∧ TG D oa ob ca cb wB xs ys k (L ++ Bm.go (Bm.cP xs ys) xs ys k i j p q) w' ∧ Stay w w'
theorem Bm.go_len {xs ys : Tr} {k : Co} (hx : Tr.ok xs = true) (hy : Tr.ok ys = true) {i j p q : Nat} (hj : j ≤ xs.length) (hq : q ≤ ys.length) : (Bm.go (Bm.cP xs ys) xs ys k i j p q).length ≤ q - p := by
  refine Bm.go_ind (M := fun i j p q L => L.length ≤ q - p) hx hy ?_ ?_ ?_ ?_ (j - i + (q - p) + 1) i j p q (by omega) hj hq
  · intro i j p q _; simp
  · intro i j p q L _ _ _ _ _ h; exact h
  · intro i j p q L _ _ _ _ _ _ h; omega
  · intro i j p q P Q A B _ _ _ _ _ _ _ _ _ _ _ h1 h2
    unfold Bm.cP
    simp only [List.length_append, List.length_singleton]
    omega
theorem info_prT : (Try.prog.info? 55).map (fun i => (i.zero, i.size, i.bytes)) = some (some (.agg #[.int .i64 0, .int .i64 0]), 2, 16) := by kernel_rfl
set_option maxHeartbeats 6400000 in
set_option maxRecDepth 100000 in
theorem match_any (D : D10) (oa ob : Addr) (ca cb : Nat) (wB : World) (xs ys : Tr) (k : Co) (s : Nat) (hx : Tr.ok xs = true) (hy : Tr.ok ys = true) (hs : SaysT D oa ob ca cb wB xs ys k s) (i j p q : Nat) (L : Tr) (w : World) (hij : i < j) (hj : j ≤ xs.length) (hpq : p < q) (hq : q ≤ ys.length) (hsum : (j - i) + (q - p) ≤ s) (hL : L.length + (q - p) ≤ 1000) (h : TG D oa ob ca cb wB xs ys k L w) :
    Calls Try.prog 95 #[.pointer (some ⟨wB.heap.size, 0, none⟩), (.agg #[.int .i64 (i : Int), .int .i64 (j : Int), .int .i64 (p : Int), .int .i64 (q : Int)])] w fun e w' => e = .returned (.tuple #[]) ∧ TG D oa ob ca cb wB xs ys k (L ++ Bm.mt (Bm.cP xs ys) xs ys k i j p q) w' ∧ Stay w w' := by
  have x24 := (Tr.len24 hx).2
  have y24 := (Tr.len24 hy).2
  obtain ⟨j1, ej⟩ : ∃ z, j = z + 1 := ⟨j - 1, by omega⟩
  obtain ⟨q1, eq⟩ : ∃ z, q = z + 1 := ⟨q - 1, by omega⟩
  have la1 := (Tr.la_nest hx j1 (by omega)).1
  have lb1 := (Tr.la_nest hy q1 (by omega)).1
  obtain ⟨P, eP⟩ : ∃ z, z = max i (Tr.la xs j1) := ⟨_, rfl⟩
  obtain ⟨Q, eQ⟩ : ∃ z, z = max p (Tr.la ys q1) := ⟨_, rfl⟩
  obtain ⟨w1, hw1⟩ : ∃ w1, w1 = w.alloc (.cells #[.int .i64 (i : Int), .int .i64 (j : Int), .int .i64 (p : Int), .int .i64 (q : Int)] 102) := ⟨_, rfl⟩
  have hb1 : Below w.heap.size w w1 := by rw [hw1]; exact (Below.refl _ _).alloc (Nat.le_refl _) _
  have R1 := Lib.hid (show Rb w1 w.heap.size i j p q by rw [hw1]; exact Rb.made _ _ _ _ _)
  have G1 := Lib.hid (h.below hb1)
  have S1 := Lib.hid (Stay.below hb1)
  have CS := Lib.hid (fun (wq : World) (hp : TG D oa ob ca cb wB xs ys k L wq) => split_any D.g D.a0 D.a1 D.b0 D.b1 D.k0 D.k1 D.k2 D.ca0 D.ca1 D.cb0 D.cb1 D.ck0 D.ck1 D.ck2 xs ys k wq hp.pt.sd hx hy i j p q j1 q1 P Q ej eq hj hq (by omega) (by omega) eP eQ)
  have CA := Lib.hid (fun (wq : World) (hp : TG D oa ob ca cb wB xs ys k L wq) => hs i P p Q L wq (by omega) (by omega) (by omega) (by omega) (by omega) (by omega) hp)
  have CB := Lib.hid (fun (wq : World) (M : Tr) (hM : M.length + (q1 - Q) ≤ 1000) (hp : TG D oa ob ca cb wB xs ys k M wq) => hs P j1 Q q1 M wq (by omega) (by omega) (by omega) (by omega) (by omega) hM hp)
  have EM := Lib.hid (show L ++ Bm.go (Bm.cP xs ys) xs ys k i P p Q ++ [((Tr.nd xs j1 : Int), (Tr.nd ys q1 : Int))] ++ Bm.go (Bm.cP xs ys) xs ys k P j1 Q q1 = L ++ Bm.mt (Bm.cP xs ys) xs ys k i j p q by
    unfold Bm.mt Bm.cP
    rw [show j - 1 = j1 by omega, show q - 1 = q1 by omega, ← eP, ← eQ]
    simp only [List.append_assoc])
  have LA := Lib.hid (Bm.go_len (k := k) hx hy (i := i) (j := P) (p := p) (q := Q) (by omega) (by omega))
  have LL := Lib.hid hL
  have BJ := Lib.hid (show j1 < xs.length ∧ q1 < ys.length by omega)
  have I24 := Lib.hid (show j ≤ 24 ∧ q ≤ 24 by omega)
  have HW1 := Lib.hid hw1
  have G0 := Lib.hid h
  have EJ := Lib.hid ej
  have EQ := Lib.hid eq
  have EP := Lib.hid eP
  have EQQ := Lib.hid eQ
  have BD := Lib.hid (show i ≤ P ∧ P ≤ j1 ∧ p ≤ Q ∧ Q ≤ q1 by omega)
  clear h hw1 hb1 hs ej eq eP eQ la1 lb1 hij hj hpq hq hsum hL x24 y24
  have SZ := Lib.hid (show w1.heap.size = w.heap.size + 1 ∧ wB.heap.size < w.heap.size from ⟨by rw [HW1.out]; simp, G0.out.len⟩)
  obtain ⟨i0, hi, hz0, hz1, hz2⟩ := info_parts info_prT
  go_enter Try.func95, Try.ntmps95
  go_wp2_with fail
  rw [← HW1.out]
  go_cut [4, 5] from 6 (fun v4 v5 wq => ∃ g4 g5 : Nat, v4 = .pointer (some ⟨g4, 0, none⟩) ∧ v5 = .pointer (some ⟨g5, 0, none⟩) ∧ MQ D oa ob ca cb wB xs ys k L w w.heap.size i j p q wq ∧ Rb wq g4 i P p Q ∧ Rb wq g5 P j1 Q q1)
  case first =>
    obtain ⟨wn, hwn⟩ : ∃ x, x = w1.drew := ⟨_, rfl⟩
    have M := Lib.hid (show MQ D oa ob ca cb wB xs ys k L w w.heap.size i j p q wn by rw [hwn]; exact MQ.drawn ⟨G1.out, S1.out, R1.out⟩ (Drawn.refl _).drew)
    refine wp_region_held_drew (S := (fun wq => (wq.cell? ⟨w.heap.size, 0, none⟩ = some (.int .i64 (i : Int)) ∧ wq.cell? ⟨w.heap.size, 1, none⟩ = some (.int .i64 (j : Int)) ∧ wq.cell? ⟨w.heap.size, 2, none⟩ = some (.int .i64 (p : Int)) ∧ wq.cell? ⟨w.heap.size, 3, none⟩ = some (.int .i64 (q : Int)) ∧ wq.cell? ⟨wB.heap.size, 0, none⟩ = some (.pointer (some ⟨D.g, 0, none⟩))) ∧ MQ D oa ob ca cb wB xs ys k L w w.heap.size i j p q wq)) (by kernel_rfl) (by rw [← hwn]; exact M.out.on) (fun hHeld => ?_)
    rw [← hwn] at hHeld ⊢
    clear hwn
    refine rg_take (i := 0) (v := ?_) rfl (by kernel_rfl) (by kernel_rfl) (by kernel_rfl) (fun _ _ _ h => h) (by rfl) ?_ (by assumption) ?_
    rotate_left
    · intro w hSw
      (try dsimp only at hSw)
      go_simp
      (try with_reducible rfl)
    (try simp only [Act.put, List.setIfInBounds_toArray, List.set_cons_zero, List.set_cons_succ])
    refine rg_take (i := 1) (v := ?_) rfl (by kernel_rfl) (by kernel_rfl) (by kernel_rfl) (fun _ _ _ h => h) (by rfl) ?_ (by assumption) ?_
    rotate_left
    · intro w hSw
      (try dsimp only at hSw)
      go_simp
      (try with_reducible rfl)
    (try simp only [Act.put, List.setIfInBounds_toArray, List.set_cons_zero, List.set_cons_succ])
    refine rg_take (i := 2) (v := ?_) rfl (by kernel_rfl) (by kernel_rfl) (by kernel_rfl) (fun _ _ _ h => h) (by rfl) ?_ (by assumption) ?_
    rotate_left
    · intro w hSw
      (try dsimp only at hSw)
      go_simp
      (try with_reducible rfl)
    (try simp only [Act.put, List.setIfInBounds_toArray, List.set_cons_zero, List.set_cons_succ])
    refine rg_take (i := 3) (v := ?_) rfl (by kernel_rfl) (by kernel_rfl) (by kernel_rfl) (fun _ _ _ h => h) (by rfl) ?_ (by assumption) ?_
    rotate_left
    · intro w hSw
      (try dsimp only at hSw)
      go_simp
      (try with_reducible rfl)
    (try simp only [Act.put, List.setIfInBounds_toArray, List.set_cons_zero, List.set_cons_succ])
    refine rg_take (i := 4) (v := ?_) rfl (by kernel_rfl) (by kernel_rfl) (by kernel_rfl) (fun _ _ _ h => h) (by rfl) ?_ (by assumption) ?_
    rotate_left
    · intro w hSw
      (try dsimp only at hSw)
      go_simp
      (try with_reducible rfl)
    (try simp only [Act.put, List.setIfInBounds_toArray, List.set_cons_zero, List.set_cons_succ])
    refine wpAnyH_ready (rs := [5, 9, 10]) (by kernel_rfl) (by simp) ?_
    refine AllReadyH.cons rfl (fun K hK => ?_) ?_
    · go_simp
      go_at_call 124
      refine (CS.out _ M.out.1).mono ?_
      rintro e wz ⟨rfl, hk5⟩
      have M := Lib.hid (M.out.below hk5)
      clear hk5
      go_wp2_with fail
      refine hK.out _ _ M.out.on (fun hHeld => ?_)
      clear hK K
      (try simp only [Act.put, List.setIfInBounds_toArray, List.set_cons_zero, List.set_cons_succ])
      refine rg_take (i := 6) (v := ?_) rfl (by kernel_rfl) (by kernel_rfl) (by kernel_rfl) (fun _ _ _ h => h) (by rfl) ?_ (by assumption) ?_
      rotate_left
      · intro w hSw
        (try dsimp only at hSw)
        go_simp
        (try with_reducible rfl)
      (try simp only [Act.put, List.setIfInBounds_toArray, List.set_cons_zero, List.set_cons_succ])
      refine rg_take (i := 7) (v := ?_) rfl (by kernel_rfl) (by kernel_rfl) (by kernel_rfl) (fun _ _ _ h => h) (by rfl) ?_ (by assumption) ?_
      rotate_left
      · intro w hSw
        (try dsimp only at hSw)
        go_simp
        (try with_reducible rfl)
      (try simp only [Act.put, List.setIfInBounds_toArray, List.set_cons_zero, List.set_cons_succ])
      refine rg_take (i := 8) (v := ?_) rfl (by kernel_rfl) (by kernel_rfl) (by kernel_rfl) (fun _ _ _ h => h) (by rfl) ?_ (by assumption) ?_
      rotate_left
      · intro w hSw
        (try dsimp only at hSw)
        go_simp
        (try with_reducible rfl)
      (try simp only [Act.put, List.setIfInBounds_toArray, List.set_cons_zero, List.set_cons_succ])
      refine wpAnyH_ready (rs := [9, 10]) (by kernel_rfl) (by simp) ?_
      refine AllReadyH.cons rfl (fun K hK => ?_) ?_
      · go_simp
        have F4 := Lib.hid (hp_lt M.out.2.2)
        obtain ⟨g4, hg⟩ : ∃ x, x = (World.heap wz).size := ⟨_, rfl⟩
        generalize hwy : World.alloc _ _ = wy
        rw [← hg] at F4 ⊢
        have Z4 := Lib.hid (show Rb wy g4 0 0 0 0 by rw [← hwy, hg]; exact Rb.made _ 0 0 0 0)
        have M := Lib.hid (show MQ D oa ob ca cb wB xs ys k L w w.heap.size i j p q wy by rw [← hwy]; exact M.out.alloc _)
        clear hwy hg
        refine hK.out _ _ M.out.on (fun hHeld => ?_)
        clear hK K
        (try simp only [Act.put, List.setIfInBounds_toArray, List.set_cons_zero, List.set_cons_succ])
        refine wpAnyH_ready (rs := [10]) (by kernel_rfl) (by simp) ?_
        refine AllReadyH.cons rfl (fun K hK => ?_) ?_
        · go_simp
          have F5 := Lib.hid (hp_lt M.out.2.2)
          obtain ⟨g5, hg⟩ : ∃ x, x = (World.heap wy).size := ⟨_, rfl⟩
          generalize hwy : World.alloc _ _ = wy
          rw [← hg] at F5 ⊢
          have Z5 := Lib.hid (show Rb wy g5 0 0 0 0 by rw [← hwy, hg]; exact Rb.made _ 0 0 0 0)
          have DD := Lib.hid (show g4 < g5 by rw [hg]; exact hp_lt Z4.out)
          have Z4 := Lib.hid (show Rb wy g4 0 0 0 0 by rw [← hwy]; exact Z4.out.alloc _)
          have M := Lib.hid (show MQ D oa ob ca cb wB xs ys k L w w.heap.size i j p q wy by rw [← hwy]; exact M.out.alloc _)
          clear hwy hg
          refine hK.out _ _ M.out.on (fun hHeld => ?_)
          clear hK K
          (try simp only [Act.put, List.setIfInBounds_toArray, List.set_cons_zero, List.set_cons_succ])
          refine wpAnyH_ready (rs := [11]) (by kernel_rfl) (by simp) ?_
          refine AllReadyH.cons rfl (fun K hK => ?_) ?_
          · obtain ⟨y0, y1, y2, y3⟩ := Z4.out.cells
            obtain ⟨f0, f1, f2, f3⟩ := Z4.out.froz
            go_simp
            clear y0 y1 y2 y3 f0 f1 f2 f3
            generalize hwy : World.setCell _ _ _ = wy
            have M := Lib.hid (show MQ D oa ob ca cb wB xs ys k L w w.heap.size i j p q wy by rw [← hwy]; exact M.out.set4 (Zb.of Z4.out) (by have := SZ.out; have := F4.out; omega) (by have := F4.out; omega) (by have := F4.out; omega) _ _ _ _)
            have Z5 := Lib.hid (show Rb wy g5 _ _ _ _ by rw [← hwy]; exact Z5.out.over (by have := DD.out; omega) _ _ _ _)
            have Z4 := Lib.hid (show Rb wy g4 i P p Q by rw [← hwy]; exact Z4.out.set i P p Q)
            clear hwy
            refine hK.out _ _ M.out.on (fun hHeld => ?_)
            clear hK K
            (try simp only [Act.put, List.setIfInBounds_toArray, List.set_cons_zero, List.set_cons_succ])
            refine wpAnyH_ready (rs := [12]) (by kernel_rfl) (by simp) ?_
            refine AllReadyH.cons rfl (fun K hK => ?_) ?_
            · obtain ⟨y0, y1, y2, y3⟩ := Z5.out.cells
              obtain ⟨f0, f1, f2, f3⟩ := Z5.out.froz
              go_simp
              clear y0 y1 y2 y3 f0 f1 f2 f3
              generalize hwy : World.setCell _ _ _ = wy
              have M := Lib.hid (show MQ D oa ob ca cb wB xs ys k L w w.heap.size i j p q wy by rw [← hwy]; exact M.out.set4 (Zb.of Z5.out) (by have := SZ.out; have := F5.out; omega) (by have := F5.out; omega) (by have := F5.out; omega) _ _ _ _)
              have Z4 := Lib.hid (show Rb wy g4 _ _ _ _ by rw [← hwy]; exact Z4.out.over (by have := DD.out; omega) _ _ _ _)
              have Z5 := Lib.hid (show Rb wy g5 P j1 Q q1 by rw [← hwy]; exact Z5.out.set P j1 Q q1)
              clear hwy
              refine hK.out _ _ M.out.on (fun hHeld => ?_)
              clear hK K
              (try simp only [Act.put, List.setIfInBounds_toArray, List.set_cons_zero, List.set_cons_succ])
              refine wpAnyH_done (by kernel_rfl) ?_ _
              go_wp2_with fail
              go_meet
              exact ⟨g4, g5, rfl, rfl, M.out, Z4.out, Z5.out⟩
            exact AllReadyH.nil
          exact AllReadyH.nil
        exact AllReadyH.nil
      refine AllReadyH.cons rfl (fun K hK => ?_) ?_
      · go_simp
        have F5 := Lib.hid (hp_lt M.out.2.2)
        obtain ⟨g5, hg⟩ : ∃ x, x = (World.heap wz).size := ⟨_, rfl⟩
        generalize hwy : World.alloc _ _ = wy
        rw [← hg] at F5 ⊢
        have Z5 := Lib.hid (show Rb wy g5 0 0 0 0 by rw [← hwy, hg]; exact Rb.made _ 0 0 0 0)
        have M := Lib.hid (show MQ D oa ob ca cb wB xs ys k L w w.heap.size i j p q wy by rw [← hwy]; exact M.out.alloc _)
        clear hwy hg
        refine hK.out _ _ M.out.on (fun hHeld => ?_)
        clear hK K
        (try simp only [Act.put, List.setIfInBounds_toArray, List.set_cons_zero, List.set_cons_succ])
        refine wpAnyH_ready (rs := [9]) (by kernel_rfl) (by simp) ?_
        refine AllReadyH.cons rfl (fun K hK => ?_) ?_
        · go_simp
          have F4 := Lib.hid (hp_lt M.out.2.2)
          obtain ⟨g4, hg⟩ : ∃ x, x = (World.heap wy).size := ⟨_, rfl⟩
          generalize hwy : World.alloc _ _ = wy
          rw [← hg] at F4 ⊢
          have Z4 := Lib.hid (show Rb wy g4 0 0 0 0 by rw [← hwy, hg]; exact Rb.made _ 0 0 0 0)
          have DD := Lib.hid (show g5 < g4 by rw [hg]; exact hp_lt Z5.out)
          have Z5 := Lib.hid (show Rb wy g5 0 0 0 0 by rw [← hwy]; exact Z5.out.alloc _)
          have M := Lib.hid (show MQ D oa ob ca cb wB xs ys k L w w.heap.size i j p q wy by rw [← hwy]; exact M.out.alloc _)
          clear hwy hg
          refine hK.out _ _ M.out.on (fun hHeld => ?_)
          clear hK K
          (try simp only [Act.put, List.setIfInBounds_toArray, List.set_cons_zero, List.set_cons_succ])
          refine wpAnyH_ready (rs := [11]) (by kernel_rfl) (by simp) ?_
          refine AllReadyH.cons rfl (fun K hK => ?_) ?_
          · obtain ⟨y0, y1, y2, y3⟩ := Z4.out.cells
            obtain ⟨f0, f1, f2, f3⟩ := Z4.out.froz
            go_simp
            clear y0 y1 y2 y3 f0 f1 f2 f3
            generalize hwy : World.setCell _ _ _ = wy
            have M := Lib.hid (show MQ D oa ob ca cb wB xs ys k L w w.heap.size i j p q wy by rw [← hwy]; exact M.out.set4 (Zb.of Z4.out) (by have := SZ.out; have := F4.out; omega) (by have := F4.out; omega) (by have := F4.out; omega) _ _ _ _)
            have Z5 := Lib.hid (show Rb wy g5 _ _ _ _ by rw [← hwy]; exact Z5.out.over (by have := DD.out; omega) _ _ _ _)
            have Z4 := Lib.hid (show Rb wy g4 i P p Q by rw [← hwy]; exact Z4.out.set i P p Q)
            clear hwy
            refine hK.out _ _ M.out.on (fun hHeld => ?_)
            clear hK K
            (try simp only [Act.put, List.setIfInBounds_toArray, List.set_cons_zero, List.set_cons_succ])
            refine wpAnyH_ready (rs := [12]) (by kernel_rfl) (by simp) ?_
            refine AllReadyH.cons rfl (fun K hK => ?_) ?_
            · obtain ⟨y0, y1, y2, y3⟩ := Z5.out.cells
              obtain ⟨f0, f1, f2, f3⟩ := Z5.out.froz
              go_simp
              clear y0 y1 y2 y3 f0 f1 f2 f3
              generalize hwy : World.setCell _ _ _ = wy
              have M := Lib.hid (show MQ D oa ob ca cb wB xs ys k L w w.heap.size i j p q wy by rw [← hwy]; exact M.out.set4 (Zb.of Z5.out) (by have := SZ.out; have := F5.out; omega) (by have := F5.out; omega) (by have := F5.out; omega) _ _ _ _)
              have Z4 := Lib.hid (show Rb wy g4 _ _ _ _ by rw [← hwy]; exact Z4.out.over (by have := DD.out; omega) _ _ _ _)
              have Z5 := Lib.hid (show Rb wy g5 P j1 Q q1 by rw [← hwy]; exact Z5.out.set P j1 Q q1)
              clear hwy
              refine hK.out _ _ M.out.on (fun hHeld => ?_)
              clear hK K
              (try simp only [Act.put, List.setIfInBounds_toArray, List.set_cons_zero, List.set_cons_succ])
              refine wpAnyH_done (by kernel_rfl) ?_ _
              go_wp2_with fail
              go_meet
              exact ⟨g4, g5, rfl, rfl, M.out, Z4.out, Z5.out⟩
            exact AllReadyH.nil
          exact AllReadyH.nil
        exact AllReadyH.nil
      exact AllReadyH.nil
    refine AllReadyH.cons rfl (fun K hK => ?_) ?_
    · go_simp
      have F4 := Lib.hid (hp_lt M.out.2.2)
      obtain ⟨g4, hg⟩ : ∃ x, x = (World.heap wn).size := ⟨_, rfl⟩
      generalize hwy : World.alloc _ _ = wy
      rw [← hg] at F4 ⊢
      have Z4 := Lib.hid (show Rb wy g4 0 0 0 0 by rw [← hwy, hg]; exact Rb.made _ 0 0 0 0)
      have M := Lib.hid (show MQ D oa ob ca cb wB xs ys k L w w.heap.size i j p q wy by rw [← hwy]; exact M.out.alloc _)
      clear hwy hg
      refine hK.out _ _ M.out.on (fun hHeld => ?_)
      clear hK K
      (try simp only [Act.put, List.setIfInBounds_toArray, List.set_cons_zero, List.set_cons_succ])
      refine wpAnyH_ready (rs := [5, 10]) (by kernel_rfl) (by simp) ?_
      refine AllReadyH.cons rfl (fun K hK => ?_) ?_
      · go_simp
        go_at_call 124
        refine (CS.out _ M.out.1).mono ?_
        rintro e wz ⟨rfl, hk5⟩
        have M := Lib.hid (M.out.below hk5)
        have Z4 := Lib.hid (Rb.stay Z4.out (Stay.below hk5))
        clear hk5
        go_wp2_with fail
        refine hK.out _ _ M.out.on (fun hHeld => ?_)
        clear hK K
        (try simp only [Act.put, List.setIfInBounds_toArray, List.set_cons_zero, List.set_cons_succ])
        refine rg_take (i := 6) (v := ?_) rfl (by kernel_rfl) (by kernel_rfl) (by kernel_rfl) (fun _ _ _ h => h) (by rfl) ?_ (by assumption) ?_
        rotate_left
        · intro w hSw
          (try dsimp only at hSw)
          go_simp
          (try with_reducible rfl)
        (try simp only [Act.put, List.setIfInBounds_toArray, List.set_cons_zero, List.set_cons_succ])
        refine rg_take (i := 7) (v := ?_) rfl (by kernel_rfl) (by kernel_rfl) (by kernel_rfl) (fun _ _ _ h => h) (by rfl) ?_ (by assumption) ?_
        rotate_left
        · intro w hSw
          (try dsimp only at hSw)
          go_simp
          (try with_reducible rfl)
        (try simp only [Act.put, List.setIfInBounds_toArray, List.set_cons_zero, List.set_cons_succ])
        refine rg_take (i := 8) (v := ?_) rfl (by kernel_rfl) (by kernel_rfl) (by kernel_rfl) (fun _ _ _ h => h) (by rfl) ?_ (by assumption) ?_
        rotate_left
        · intro w hSw
          (try dsimp only at hSw)
          go_simp
          (try with_reducible rfl)
        (try simp only [Act.put, List.setIfInBounds_toArray, List.set_cons_zero, List.set_cons_succ])
        refine wpAnyH_ready (rs := [10]) (by kernel_rfl) (by simp) ?_
        refine AllReadyH.cons rfl (fun K hK => ?_) ?_
        · go_simp
          have F5 := Lib.hid (hp_lt M.out.2.2)
          obtain ⟨g5, hg⟩ : ∃ x, x = (World.heap wz).size := ⟨_, rfl⟩
          generalize hwy : World.alloc _ _ = wy
          rw [← hg] at F5 ⊢
          have Z5 := Lib.hid (show Rb wy g5 0 0 0 0 by rw [← hwy, hg]; exact Rb.made _ 0 0 0 0)
          have DD := Lib.hid (show g4 < g5 by rw [hg]; exact hp_lt Z4.out)
          have Z4 := Lib.hid (show Rb wy g4 0 0 0 0 by rw [← hwy]; exact Z4.out.alloc _)
          have M := Lib.hid (show MQ D oa ob ca cb wB xs ys k L w w.heap.size i j p q wy by rw [← hwy]; exact M.out.alloc _)
          clear hwy hg
          refine hK.out _ _ M.out.on (fun hHeld => ?_)
          clear hK K
          (try simp only [Act.put, List.setIfInBounds_toArray, List.set_cons_zero, List.set_cons_succ])
          refine wpAnyH_ready (rs := [11]) (by kernel_rfl) (by simp) ?_
          refine AllReadyH.cons rfl (fun K hK => ?_) ?_
          · obtain ⟨y0, y1, y2, y3⟩ := Z4.out.cells
            obtain ⟨f0, f1, f2, f3⟩ := Z4.out.froz
            go_simp
            clear y0 y1 y2 y3 f0 f1 f2 f3
            generalize hwy : World.setCell _ _ _ = wy
            have M := Lib.hid (show MQ D oa ob ca cb wB xs ys k L w w.heap.size i j p q wy by rw [← hwy]; exact M.out.set4 (Zb.of Z4.out) (by have := SZ.out; have := F4.out; omega) (by have := F4.out; omega) (by have := F4.out; omega) _ _ _ _)
            have Z5 := Lib.hid (show Rb wy g5 _ _ _ _ by rw [← hwy]; exact Z5.out.over (by have := DD.out; omega) _ _ _ _)
            have Z4 := Lib.hid (show Rb wy g4 i P p Q by rw [← hwy]; exact Z4.out.set i P p Q)
            clear hwy
            refine hK.out _ _ M.out.on (fun hHeld => ?_)
            clear hK K
            (try simp only [Act.put, List.setIfInBounds_toArray, List.set_cons_zero, List.set_cons_succ])
            refine wpAnyH_ready (rs := [12]) (by kernel_rfl) (by simp) ?_
            refine AllReadyH.cons rfl (fun K hK => ?_) ?_
            · obtain ⟨y0, y1, y2, y3⟩ := Z5.out.cells
              obtain ⟨f0, f1, f2, f3⟩ := Z5.out.froz
              go_simp
              clear y0 y1 y2 y3 f0 f1 f2 f3
              generalize hwy : World.setCell _ _ _ = wy
              have M := Lib.hid (show MQ D oa ob ca cb wB xs ys k L w w.heap.size i j p q wy by rw [← hwy]; exact M.out.set4 (Zb.of Z5.out) (by have := SZ.out; have := F5.out; omega) (by have := F5.out; omega) (by have := F5.out; omega) _ _ _ _)
              have Z4 := Lib.hid (show Rb wy g4 _ _ _ _ by rw [← hwy]; exact Z4.out.over (by have := DD.out; omega) _ _ _ _)
              have Z5 := Lib.hid (show Rb wy g5 P j1 Q q1 by rw [← hwy]; exact Z5.out.set P j1 Q q1)
              clear hwy
              refine hK.out _ _ M.out.on (fun hHeld => ?_)
              clear hK K
              (try simp only [Act.put, List.setIfInBounds_toArray, List.set_cons_zero, List.set_cons_succ])
              refine wpAnyH_done (by kernel_rfl) ?_ _
              go_wp2_with fail
              go_meet
              exact ⟨g4, g5, rfl, rfl, M.out, Z4.out, Z5.out⟩
            exact AllReadyH.nil
          exact AllReadyH.nil
        exact AllReadyH.nil
      refine AllReadyH.cons rfl (fun K hK => ?_) ?_
      · go_simp
        have F5 := Lib.hid (hp_lt M.out.2.2)
        obtain ⟨g5, hg⟩ : ∃ x, x = (World.heap wy).size := ⟨_, rfl⟩
        generalize hwy : World.alloc _ _ = wy
        rw [← hg] at F5 ⊢
        have Z5 := Lib.hid (show Rb wy g5 0 0 0 0 by rw [← hwy, hg]; exact Rb.made _ 0 0 0 0)
        have DD := Lib.hid (show g4 < g5 by rw [hg]; exact hp_lt Z4.out)
        have Z4 := Lib.hid (show Rb wy g4 0 0 0 0 by rw [← hwy]; exact Z4.out.alloc _)
        have M := Lib.hid (show MQ D oa ob ca cb wB xs ys k L w w.heap.size i j p q wy by rw [← hwy]; exact M.out.alloc _)
        clear hwy hg
        refine hK.out _ _ M.out.on (fun hHeld => ?_)
        clear hK K
        (try simp only [Act.put, List.setIfInBounds_toArray, List.set_cons_zero, List.set_cons_succ])
        refine wpAnyH_ready (rs := [5]) (by kernel_rfl) (by simp) ?_
        refine AllReadyH.cons rfl (fun K hK => ?_) ?_
        · go_simp
          go_at_call 124
          refine (CS.out _ M.out.1).mono ?_
          rintro e wz ⟨rfl, hk5⟩
          have M := Lib.hid (M.out.below hk5)
          have Z4 := Lib.hid (Rb.stay Z4.out (Stay.below hk5))
          have Z5 := Lib.hid (Rb.stay Z5.out (Stay.below hk5))
          clear hk5
          go_wp2_with fail
          refine hK.out _ _ M.out.on (fun hHeld => ?_)
          clear hK K
          (try simp only [Act.put, List.setIfInBounds_toArray, List.set_cons_zero, List.set_cons_succ])
          refine rg_take (i := 6) (v := ?_) rfl (by kernel_rfl) (by kernel_rfl) (by kernel_rfl) (fun _ _ _ h => h) (by rfl) ?_ (by assumption) ?_
          rotate_left
          · intro w hSw
            (try dsimp only at hSw)
            go_simp
            (try with_reducible rfl)
          (try simp only [Act.put, List.setIfInBounds_toArray, List.set_cons_zero, List.set_cons_succ])
          refine rg_take (i := 7) (v := ?_) rfl (by kernel_rfl) (by kernel_rfl) (by kernel_rfl) (fun _ _ _ h => h) (by rfl) ?_ (by assumption) ?_
          rotate_left
          · intro w hSw
            (try dsimp only at hSw)
            go_simp
            (try with_reducible rfl)
          (try simp only [Act.put, List.setIfInBounds_toArray, List.set_cons_zero, List.set_cons_succ])
          refine rg_take (i := 8) (v := ?_) rfl (by kernel_rfl) (by kernel_rfl) (by kernel_rfl) (fun _ _ _ h => h) (by rfl) ?_ (by assumption) ?_
          rotate_left
          · intro w hSw
            (try dsimp only at hSw)
            go_simp
            (try with_reducible rfl)
          (try simp only [Act.put, List.setIfInBounds_toArray, List.set_cons_zero, List.set_cons_succ])
          refine wpAnyH_ready (rs := [11]) (by kernel_rfl) (by simp) ?_
          refine AllReadyH.cons rfl (fun K hK => ?_) ?_
          · obtain ⟨y0, y1, y2, y3⟩ := Z4.out.cells
            obtain ⟨f0, f1, f2, f3⟩ := Z4.out.froz
            go_simp
            clear y0 y1 y2 y3 f0 f1 f2 f3
            generalize hwy : World.setCell _ _ _ = wy
            have M := Lib.hid (show MQ D oa ob ca cb wB xs ys k L w w.heap.size i j p q wy by rw [← hwy]; exact M.out.set4 (Zb.of Z4.out) (by have := SZ.out; have := F4.out; omega) (by have := F4.out; omega) (by have := F4.out; omega) _ _ _ _)
            have Z5 := Lib.hid (show Rb wy g5 _ _ _ _ by rw [← hwy]; exact Z5.out.over (by have := DD.out; omega) _ _ _ _)
            have Z4 := Lib.hid (show Rb wy g4 i P p Q by rw [← hwy]; exact Z4.out.set i P p Q)
            clear hwy
            refine hK.out _ _ M.out.on (fun hHeld => ?_)
            clear hK K
            (try simp only [Act.put, List.setIfInBounds_toArray, List.set_cons_zero, List.set_cons_succ])
            refine wpAnyH_ready (rs := [12]) (by kernel_rfl) (by simp) ?_
            refine AllReadyH.cons rfl (fun K hK => ?_) ?_
            · obtain ⟨y0, y1, y2, y3⟩ := Z5.out.cells
              obtain ⟨f0, f1, f2, f3⟩ := Z5.out.froz
              go_simp
              clear y0 y1 y2 y3 f0 f1 f2 f3
              generalize hwy : World.setCell _ _ _ = wy
              have M := Lib.hid (show MQ D oa ob ca cb wB xs ys k L w w.heap.size i j p q wy by rw [← hwy]; exact M.out.set4 (Zb.of Z5.out) (by have := SZ.out; have := F5.out; omega) (by have := F5.out; omega) (by have := F5.out; omega) _ _ _ _)
              have Z4 := Lib.hid (show Rb wy g4 _ _ _ _ by rw [← hwy]; exact Z4.out.over (by have := DD.out; omega) _ _ _ _)
              have Z5 := Lib.hid (show Rb wy g5 P j1 Q q1 by rw [← hwy]; exact Z5.out.set P j1 Q q1)
              clear hwy
              refine hK.out _ _ M.out.on (fun hHeld => ?_)
              clear hK K
              (try simp only [Act.put, List.setIfInBounds_toArray, List.set_cons_zero, List.set_cons_succ])
              refine wpAnyH_done (by kernel_rfl) ?_ _
              go_wp2_with fail
              go_meet
              exact ⟨g4, g5, rfl, rfl, M.out, Z4.out, Z5.out⟩
            exact AllReadyH.nil
          exact AllReadyH.nil
        exact AllReadyH.nil
      exact AllReadyH.nil
    refine AllReadyH.cons rfl (fun K hK => ?_) ?_
    · go_simp
      have F5 := Lib.hid (hp_lt M.out.2.2)
      obtain ⟨g5, hg⟩ : ∃ x, x = (World.heap wn).size := ⟨_, rfl⟩
      generalize hwy : World.alloc _ _ = wy
      rw [← hg] at F5 ⊢
      have Z5 := Lib.hid (show Rb wy g5 0 0 0 0 by rw [← hwy, hg]; exact Rb.made _ 0 0 0 0)
      have M := Lib.hid (show MQ D oa ob ca cb wB xs ys k L w w.heap.size i j p q wy by rw [← hwy]; exact M.out.alloc _)
      clear hwy hg
      refine hK.out _ _ M.out.on (fun hHeld => ?_)
      clear hK K
      (try simp only [Act.put, List.setIfInBounds_toArray, List.set_cons_zero, List.set_cons_succ])
      refine wpAnyH_ready (rs := [5, 9]) (by kernel_rfl) (by simp) ?_
      refine AllReadyH.cons rfl (fun K hK => ?_) ?_
      · go_simp
        go_at_call 124
        refine (CS.out _ M.out.1).mono ?_
        rintro e wz ⟨rfl, hk5⟩
        have M := Lib.hid (M.out.below hk5)
        have Z5 := Lib.hid (Rb.stay Z5.out (Stay.below hk5))
        clear hk5
        go_wp2_with fail
        refine hK.out _ _ M.out.on (fun hHeld => ?_)
        clear hK K
        (try simp only [Act.put, List.setIfInBounds_toArray, List.set_cons_zero, List.set_cons_succ])
        refine rg_take (i := 6) (v := ?_) rfl (by kernel_rfl) (by kernel_rfl) (by kernel_rfl) (fun _ _ _ h => h) (by rfl) ?_ (by assumption) ?_
        rotate_left
        · intro w hSw
          (try dsimp only at hSw)
          go_simp
          (try with_reducible rfl)
        (try simp only [Act.put, List.setIfInBounds_toArray, List.set_cons_zero, List.set_cons_succ])
        refine rg_take (i := 7) (v := ?_) rfl (by kernel_rfl) (by kernel_rfl) (by kernel_rfl) (fun _ _ _ h => h) (by rfl) ?_ (by assumption) ?_
        rotate_left
        · intro w hSw
          (try dsimp only at hSw)
          go_simp
          (try with_reducible rfl)
        (try simp only [Act.put, List.setIfInBounds_toArray, List.set_cons_zero, List.set_cons_succ])
        refine rg_take (i := 8) (v := ?_) rfl (by kernel_rfl) (by kernel_rfl) (by kernel_rfl) (fun _ _ _ h => h) (by rfl) ?_ (by assumption) ?_
        rotate_left
        · intro w hSw
          (try dsimp only at hSw)
          go_simp
          (try with_reducible rfl)
        (try simp only [Act.put, List.setIfInBounds_toArray, List.set_cons_zero, List.set_cons_succ])
        refine wpAnyH_ready (rs := [9]) (by kernel_rfl) (by simp) ?_
        refine AllReadyH.cons rfl (fun K hK => ?_) ?_
        · go_simp
          have F4 := Lib.hid (hp_lt M.out.2.2)
          obtain ⟨g4, hg⟩ : ∃ x, x = (World.heap wz).size := ⟨_, rfl⟩
          generalize hwy : World.alloc _ _ = wy
          rw [← hg] at F4 ⊢
          have Z4 := Lib.hid (show Rb wy g4 0 0 0 0 by rw [← hwy, hg]; exact Rb.made _ 0 0 0 0)
          have DD := Lib.hid (show g5 < g4 by rw [hg]; exact hp_lt Z5.out)
          have Z5 := Lib.hid (show Rb wy g5 0 0 0 0 by rw [← hwy]; exact Z5.out.alloc _)
          have M := Lib.hid (show MQ D oa ob ca cb wB xs ys k L w w.heap.size i j p q wy by rw [← hwy]; exact M.out.alloc _)
          clear hwy hg
          refine hK.out _ _ M.out.on (fun hHeld => ?_)
          clear hK K
          (try simp only [Act.put, List.setIfInBounds_toArray, List.set_cons_zero, List.set_cons_succ])
          refine wpAnyH_ready (rs := [11]) (by kernel_rfl) (by simp) ?_
          refine AllReadyH.cons rfl (fun K hK => ?_) ?_
          · obtain ⟨y0, y1, y2, y3⟩ := Z4.out.cells
            obtain ⟨f0, f1, f2, f3⟩ := Z4.out.froz
            go_simp
            clear y0 y1 y2 y3 f0 f1 f2 f3
            generalize hwy : World.setCell _ _ _ = wy
            have M := Lib.hid (show MQ D oa ob ca cb wB xs ys k L w w.heap.size i j p q wy by rw [← hwy]; exact M.out.set4 (Zb.of Z4.out) (by have := SZ.out; have := F4.out; omega) (by have := F4.out; omega) (by have := F4.out; omega) _ _ _ _)
            have Z5 := Lib.hid (show Rb wy g5 _ _ _ _ by rw [← hwy]; exact Z5.out.over (by have := DD.out; omega) _ _ _ _)
            have Z4 := Lib.hid (show Rb wy g4 i P p Q by rw [← hwy]; exact Z4.out.set i P p Q)
            clear hwy
            refine hK.out _ _ M.out.on (fun hHeld => ?_)
            clear hK K
            (try simp only [Act.put, List.setIfInBounds_toArray, List.set_cons_zero, List.set_cons_succ])
            refine wpAnyH_ready (rs := [12]) (by kernel_rfl) (by simp) ?_
            refine AllReadyH.cons rfl (fun K hK => ?_) ?_
            · obtain ⟨y0, y1, y2, y3⟩ := Z5.out.cells
              obtain ⟨f0, f1, f2, f3⟩ := Z5.out.froz
              go_simp
              clear y0 y1 y2 y3 f0 f1 f2 f3
              generalize hwy : World.setCell _ _ _ = wy
              have M := Lib.hid (show MQ D oa ob ca cb wB xs ys k L w w.heap.size i j p q wy by rw [← hwy]; exact M.out.set4 (Zb.of Z5.out) (by have := SZ.out; have := F5.out; omega) (by have := F5.out; omega) (by have := F5.out; omega) _ _ _ _)
              have Z4 := Lib.hid (show Rb wy g4 _ _ _ _ by rw [← hwy]; exact Z4.out.over (by have := DD.out; omega) _ _ _ _)
              have Z5 := Lib.hid (show Rb wy g5 P j1 Q q1 by rw [← hwy]; exact Z5.out.set P j1 Q q1)
              clear hwy
              refine hK.out _ _ M.out.on (fun hHeld => ?_)
              clear hK K
              (try simp only [Act.put, List.setIfInBounds_toArray, List.set_cons_zero, List.set_cons_succ])
              refine wpAnyH_done (by kernel_rfl) ?_ _
              go_wp2_with fail
              go_meet
              exact ⟨g4, g5, rfl, rfl, M.out, Z4.out, Z5.out⟩
            exact AllReadyH.nil
          exact AllReadyH.nil
        exact AllReadyH.nil
      refine AllReadyH.cons rfl (fun K hK => ?_) ?_
      · go_simp
        have F4 := Lib.hid (hp_lt M.out.2.2)
        obtain ⟨g4, hg⟩ : ∃ x, x = (World.heap wy).size := ⟨_, rfl⟩
        generalize hwy : World.alloc _ _ = wy
        rw [← hg] at F4 ⊢
        have Z4 := Lib.hid (show Rb wy g4 0 0 0 0 by rw [← hwy, hg]; exact Rb.made _ 0 0 0 0)
        have DD := Lib.hid (show g5 < g4 by rw [hg]; exact hp_lt Z5.out)
        have Z5 := Lib.hid (show Rb wy g5 0 0 0 0 by rw [← hwy]; exact Z5.out.alloc _)
        have M := Lib.hid (show MQ D oa ob ca cb wB xs ys k L w w.heap.size i j p q wy by rw [← hwy]; exact M.out.alloc _)
        clear hwy hg
        refine hK.out _ _ M.out.on (fun hHeld => ?_)
        clear hK K
        (try simp only [Act.put, List.setIfInBounds_toArray, List.set_cons_zero, List.set_cons_succ])
        refine wpAnyH_ready (rs := [5]) (by kernel_rfl) (by simp) ?_
        refine AllReadyH.cons rfl (fun K hK => ?_) ?_
        · go_simp
          go_at_call 124
          refine (CS.out _ M.out.1).mono ?_
          rintro e wz ⟨rfl, hk5⟩
          have M := Lib.hid (M.out.below hk5)
          have Z4 := Lib.hid (Rb.stay Z4.out (Stay.below hk5))
          have Z5 := Lib.hid (Rb.stay Z5.out (Stay.below hk5))
          clear hk5
          go_wp2_with fail
          refine hK.out _ _ M.out.on (fun hHeld => ?_)
          clear hK K
          (try simp only [Act.put, List.setIfInBounds_toArray, List.set_cons_zero, List.set_cons_succ])
          refine rg_take (i := 6) (v := ?_) rfl (by kernel_rfl) (by kernel_rfl) (by kernel_rfl) (fun _ _ _ h => h) (by rfl) ?_ (by assumption) ?_
          rotate_left
          · intro w hSw
            (try dsimp only at hSw)
            go_simp
            (try with_reducible rfl)
          (try simp only [Act.put, List.setIfInBounds_toArray, List.set_cons_zero, List.set_cons_succ])
          refine rg_take (i := 7) (v := ?_) rfl (by kernel_rfl) (by kernel_rfl) (by kernel_rfl) (fun _ _ _ h => h) (by rfl) ?_ (by assumption) ?_
          rotate_left
          · intro w hSw
            (try dsimp only at hSw)
            go_simp
            (try with_reducible rfl)
          (try simp only [Act.put, List.setIfInBounds_toArray, List.set_cons_zero, List.set_cons_succ])
          refine rg_take (i := 8) (v := ?_) rfl (by kernel_rfl) (by kernel_rfl) (by kernel_rfl) (fun _ _ _ h => h) (by rfl) ?_ (by assumption) ?_
          rotate_left
          · intro w hSw
            (try dsimp only at hSw)
            go_simp
            (try with_reducible rfl)
          (try simp only [Act.put, List.setIfInBounds_toArray, List.set_cons_zero, List.set_cons_succ])
          refine wpAnyH_ready (rs := [11]) (by kernel_rfl) (by simp) ?_
          refine AllReadyH.cons rfl (fun K hK => ?_) ?_
          · obtain ⟨y0, y1, y2, y3⟩ := Z4.out.cells
            obtain ⟨f0, f1, f2, f3⟩ := Z4.out.froz
            go_simp
            clear y0 y1 y2 y3 f0 f1 f2 f3
            generalize hwy : World.setCell _ _ _ = wy
            have M := Lib.hid (show MQ D oa ob ca cb wB xs ys k L w w.heap.size i j p q wy by rw [← hwy]; exact M.out.set4 (Zb.of Z4.out) (by have := SZ.out; have := F4.out; omega) (by have := F4.out; omega) (by have := F4.out; omega) _ _ _ _)
            have Z5 := Lib.hid (show Rb wy g5 _ _ _ _ by rw [← hwy]; exact Z5.out.over (by have := DD.out; omega) _ _ _ _)
            have Z4 := Lib.hid (show Rb wy g4 i P p Q by rw [← hwy]; exact Z4.out.set i P p Q)
            clear hwy
            refine hK.out _ _ M.out.on (fun hHeld => ?_)
            clear hK K
            (try simp only [Act.put, List.setIfInBounds_toArray, List.set_cons_zero, List.set_cons_succ])
            refine wpAnyH_ready (rs := [12]) (by kernel_rfl) (by simp) ?_
            refine AllReadyH.cons rfl (fun K hK => ?_) ?_
            · obtain ⟨y0, y1, y2, y3⟩ := Z5.out.cells
              obtain ⟨f0, f1, f2, f3⟩ := Z5.out.froz
              go_simp
              clear y0 y1 y2 y3 f0 f1 f2 f3
              generalize hwy : World.setCell _ _ _ = wy
              have M := Lib.hid (show MQ D oa ob ca cb wB xs ys k L w w.heap.size i j p q wy by rw [← hwy]; exact M.out.set4 (Zb.of Z5.out) (by have := SZ.out; have := F5.out; omega) (by have := F5.out; omega) (by have := F5.out; omega) _ _ _ _)
              have Z4 := Lib.hid (show Rb wy g4 _ _ _ _ by rw [← hwy]; exact Z4.out.over (by have := DD.out; omega) _ _ _ _)
              have Z5 := Lib.hid (show Rb wy g5 P j1 Q q1 by rw [← hwy]; exact Z5.out.set P j1 Q q1)
              clear hwy
              refine hK.out _ _ M.out.on (fun hHeld => ?_)
              clear hK K
              (try simp only [Act.put, List.setIfInBounds_toArray, List.set_cons_zero, List.set_cons_succ])
              refine wpAnyH_done (by kernel_rfl) ?_ _
              go_wp2_with fail
              go_meet
              exact ⟨g4, g5, rfl, rfl, M.out, Z4.out, Z5.out⟩
            exact AllReadyH.nil
          exact AllReadyH.nil
        exact AllReadyH.nil
      exact AllReadyH.nil
    exact AllReadyH.nil
  case rest =>
    obtain ⟨g4, g5, rfl, rfl, hM, hb4, hb5⟩ := hcut
    have M := Lib.hid hM
    have Z5 := Lib.hid hb5
    obtain ⟨y0, y1, y2, y3⟩ := hb4.cells
    clear hM hb4 hb5
    go_wp2_with fail
    clear y0 y1 y2 y3
    refine (CA.out _ M.out.1).mono ?_
    rintro e w6 ⟨rfl, hT6, hS6⟩
    have G6 := Lib.hid hT6
    have R6 := Lib.hid (M.out.2.2.stay hS6)
    have Z5 := Lib.hid (Z5.out.stay hS6)
    have S6 := Lib.hid (M.out.2.1.trans hS6)
    clear hT6 hS6
    go_wp2_with fail
    obtain ⟨wn, hwn⟩ : ∃ x, x = w6.drew := ⟨_, rfl⟩
    have GN := Lib.hid (show TG D oa ob ca cb wB xs ys k (L ++ Bm.go (Bm.cP xs ys) xs ys k i P p Q) wn by rw [hwn]; exact G6.out.drawn (Drawn.refl _).drew)
    have RN := Lib.hid (show Rb wn w.heap.size i j p q by rw [hwn]; exact R6.out.drawn (Drawn.refl _).drew)
    have Z5 := Lib.hid (show Rb wn g5 P j1 Q q1 by rw [hwn]; exact Z5.out.drawn (Drawn.refl _).drew)
    have SN := Lib.hid (show Stay w wn by rw [hwn]; exact S6.out.trans (Stay.below (Drawn.refl _).drew.toBelow))
    have X6 := Lib.hid (tr_six0 GN.out RN.out (j1 := j1) (q1 := q1) BJ.out.1 BJ.out.2)
    obtain ⟨pv, hpv, hown⟩ := GN.out.ht
    have HP := Lib.hid hpv
    have HO := Lib.hid hown
    obtain ⟨L1, hL1⟩ : ∃ x, x = L ++ Bm.go (Bm.cP xs ys) xs ys k i P p Q := ⟨_, rfl⟩
    rw [← hL1] at GN HO
    have HL1 := Lib.hid hL1
    have HLN := Lib.hid (show L1.length + 1 + (q1 - Q) ≤ 1000 by rw [hL1, List.length_append]; have := LA.out; have := LL.out; have := BD.out; have := EQ.out; omega)
    have a1 : IntKind.i64.wrap ((j : Int) - 1) = (j1 : Int) := by have := EJ.out; have := I24.out; rw [Kit.w64 (by omega) (by omega)]; omega
    have a2 : IntKind.i64.wrap ((q : Int) - 1) = (q1 : Int) := by have := EQ.out; have := I24.out; rw [Kit.w64 (by omega) (by omega)]; omega
    have k1 : (0 : Int) ≤ (j1 : Int) := by omega
    have k2 : (j1 : Int) < (xs.length : Int) := by have := BJ.out; omega
    have k3 : (0 : Int) ≤ (q1 : Int) := by omega
    have k4 : (q1 : Int) < (ys.length : Int) := by have := BJ.out; omega
    clear hpv hown hL1
    refine wp_region_held_drew (S := (fun wq => wq.cell? ⟨wB.heap.size, 1, none⟩ = some (.slice (some oa) xs.length ca) ∧ wq.cell? ⟨wB.heap.size, 2, none⟩ = some (.slice (some ob) ys.length cb) ∧ wq.cell? ⟨w.heap.size, 1, none⟩ = some (.int .i64 (j : Int)) ∧ wq.cell? ⟨w.heap.size, 3, none⟩ = some (.int .i64 (q : Int)) ∧ wq.cell? (oa.add j1) = some (.int .i64 (Tr.nd xs j1 : Int)) ∧ wq.cell? (ob.add q1) = some (.int .i64 (Tr.nd ys q1 : Int)))) (by kernel_rfl) (by rw [← hwn]; exact X6.out) (fun hHeld => ?_)
    rw [← hwn] at hHeld ⊢
    clear hwn
    refine rg_take (i := 0) (v := ?_) rfl (by kernel_rfl) (by kernel_rfl) (by kernel_rfl) (fun _ _ _ h => h) (by rfl) ?_ (by assumption) ?_
    rotate_left
    · intro w hSw
      (try dsimp only at hSw)
      go_simp
      (try with_reducible rfl)
    (try simp only [Act.put, List.setIfInBounds_toArray, List.set_cons_zero, List.set_cons_succ])
    refine rg_take (i := 1) (v := ?_) rfl (by kernel_rfl) (by kernel_rfl) (by kernel_rfl) (fun _ _ _ h => h) (by rfl) ?_ (by assumption) ?_
    rotate_left
    · intro w hSw
      (try dsimp only at hSw)
      go_simp
      (try with_reducible rfl)
    (try simp only [Act.put, List.setIfInBounds_toArray, List.set_cons_zero, List.set_cons_succ])
    refine rg_take (i := 2) (v := ?_) rfl (by kernel_rfl) (by kernel_rfl) (by kernel_rfl) (fun _ _ _ h => h) (by rfl) ?_ (by assumption) ?_
    rotate_left
    · intro w hSw
      (try dsimp only at hSw)
      go_simp
      (try with_reducible rfl)
    (try simp only [Act.put, List.setIfInBounds_toArray, List.set_cons_zero, List.set_cons_succ])
    refine rg_take (i := 3) (v := ?_) rfl (by kernel_rfl) (by kernel_rfl) (by kernel_rfl) (fun _ _ _ h => h) (by rfl) ?_ (by assumption) ?_
    rotate_left
    · intro w hSw
      (try dsimp only at hSw)
      go_simp
      (try with_reducible rfl)
    (try simp only [Act.put, List.setIfInBounds_toArray, List.set_cons_zero, List.set_cons_succ])
    refine rg_take (i := 5) (v := ?_) rfl (by kernel_rfl) (by kernel_rfl) (by kernel_rfl) (fun _ _ _ h => h) (by rfl) ?_ (by assumption) ?_
    rotate_left
    · intro w hSw
      (try dsimp only at hSw)
      go_simp
      (try with_reducible rfl)
    (try simp only [Act.put, List.setIfInBounds_toArray, List.set_cons_zero, List.set_cons_succ])
    refine rg_take (i := 6) (v := ?_) rfl (by kernel_rfl) (by kernel_rfl) (by kernel_rfl) (fun _ _ _ h => h) (by rfl) ?_ (by assumption) ?_
    rotate_left
    · intro w hSw
      (try dsimp only at hSw)
      go_simp
      (try with_reducible rfl)
    (try simp only [Act.put, List.setIfInBounds_toArray, List.set_cons_zero, List.set_cons_succ])
    refine rg_take (i := 7) (v := ?_) rfl (by kernel_rfl) (by kernel_rfl) (by kernel_rfl) (fun _ _ _ h => h) (by rfl) ?_ (by assumption) ?_
    rotate_left
    · intro w hSw
      (try dsimp only at hSw)
      go_simp
      (try with_reducible rfl)
    (try simp only [Act.put, List.setIfInBounds_toArray, List.set_cons_zero, List.set_cons_succ])
    refine rg_take (i := 8) (v := ?_) rfl (by kernel_rfl) (by kernel_rfl) (by kernel_rfl) (fun _ _ _ h => h) (by rfl) ?_ (by assumption) ?_
    rotate_left
    · intro w hSw
      (try dsimp only at hSw)
      go_simp
      (try with_reducible rfl)
    (try simp only [Act.put, List.setIfInBounds_toArray, List.set_cons_zero, List.set_cons_succ])
    refine rg_take (i := 9) (v := ?_) rfl (by kernel_rfl) (by kernel_rfl) (by kernel_rfl) (fun _ _ _ h => h) (by rfl) ?_ (by assumption) ?_
    rotate_left
    · intro w hSw
      (try dsimp only at hSw)
      go_simp
      (try with_reducible rfl)
    (try simp only [Act.put, List.setIfInBounds_toArray, List.set_cons_zero, List.set_cons_succ])
    refine rg_take (i := 10) (v := ?_) rfl (by kernel_rfl) (by kernel_rfl) (by kernel_rfl) (fun _ _ _ h => h) (by rfl) ?_ (by assumption) ?_
    rotate_left
    · intro w hSw
      (try dsimp only at hSw)
      go_simp
      (try with_reducible rfl)
    (try simp only [Act.put, List.setIfInBounds_toArray, List.set_cons_zero, List.set_cons_succ])
    refine rg_take (i := 11) (v := ?_) rfl (by kernel_rfl) (by kernel_rfl) (by kernel_rfl) (fun _ _ _ h => h) (by rfl) ?_ (by assumption) ?_
    rotate_left
    · intro w hSw
      (try dsimp only at hSw)
      go_simp
      (try with_reducible rfl)
    (try simp only [Act.put, List.setIfInBounds_toArray, List.set_cons_zero, List.set_cons_succ])
    refine rg_take (i := 12) (v := ?_) rfl (by kernel_rfl) (by kernel_rfl) (by kernel_rfl) (fun _ _ _ h => h) (by rfl) ?_ (by assumption) ?_
    rotate_left
    · intro w hSw
      (try dsimp only at hSw)
      go_simp
      (try with_reducible rfl)
    (try simp only [Act.put, List.setIfInBounds_toArray, List.set_cons_zero, List.set_cons_succ])
    refine rg_take (i := 13) (v := ?_) rfl (by kernel_rfl) (by kernel_rfl) (by kernel_rfl) (fun _ _ _ h => h) (by rfl) ?_ (by assumption) ?_
    rotate_left
    · intro w hSw
      (try dsimp only at hSw)
      go_simp
      (try with_reducible rfl)
    (try simp only [Act.put, List.setIfInBounds_toArray, List.set_cons_zero, List.set_cons_succ])
    refine rg_take (i := 14) (v := ?_) rfl (by kernel_rfl) (by kernel_rfl) (by kernel_rfl) (fun _ _ _ h => h) (by rfl) ?_ (by assumption) ?_
    rotate_left
    · intro w hSw
      (try dsimp only at hSw)
      go_simp
      (try with_reducible rfl)
    (try simp only [Act.put, List.setIfInBounds_toArray, List.set_cons_zero, List.set_cons_succ])
    refine rg_take (i := 15) (v := ?_) rfl (by kernel_rfl) (by kernel_rfl) (by kernel_rfl) (fun _ _ _ h => h) (by rfl) ?_ (by assumption) ?_
    rotate_left
    · intro w hSw
      (try dsimp only at hSw)
      go_simp
      (try with_reducible rfl)
    (try simp only [Act.put, List.setIfInBounds_toArray, List.set_cons_zero, List.set_cons_succ])
    refine rg_take (i := 16) (v := ?_) rfl (by kernel_rfl) (by kernel_rfl) (by kernel_rfl) (fun _ _ _ h => h) (by rfl) ?_ (by assumption) ?_
    rotate_left
    · intro w hSw
      (try dsimp only at hSw)
      go_simp
      (try with_reducible rfl)
    (try simp only [Act.put, List.setIfInBounds_toArray, List.set_cons_zero, List.set_cons_succ])
    refine rg_take (i := 17) (v := ?_) rfl (by kernel_rfl) (by kernel_rfl) (by kernel_rfl) (fun _ _ _ h => h) (by rfl) ?_ (by assumption) ?_
    rotate_left
    · intro w hSw
      (try dsimp only at hSw)
      go_simp
      (try with_reducible rfl)
    (try simp only [Act.put, List.setIfInBounds_toArray, List.set_cons_zero, List.set_cons_succ])
    refine rg_take (i := 18) (v := ?_) rfl (by kernel_rfl) (by kernel_rfl) (by kernel_rfl) (fun _ _ _ h => h) (by rfl) ?_ (by assumption) ?_
    rotate_left
    · intro w hSw
      (try dsimp only at hSw)
      go_simp
      (try with_reducible rfl)
    (try simp only [Act.put, List.setIfInBounds_toArray, List.set_cons_zero, List.set_cons_succ])
    refine rg_take (i := 19) (v := ?_) rfl (by kernel_rfl) (by kernel_rfl) (by kernel_rfl) (fun _ _ _ h => h) (by rfl) ?_ (by assumption) ?_
    rotate_left
    · intro w hSw
      (try dsimp only at hSw)
      go_simp
      (try with_reducible rfl)
    (try simp only [Act.put, List.setIfInBounds_toArray, List.set_cons_zero, List.set_cons_succ])
    refine rg_take (i := 20) (v := ?_) rfl (by kernel_rfl) (by kernel_rfl) (by kernel_rfl) (fun _ _ _ h => h) (by rfl) ?_ (by assumption) ?_
    rotate_left
    · intro w hSw
      (try dsimp only at hSw)
      go_simp
      (try with_reducible rfl)
    (try simp only [Act.put, List.setIfInBounds_toArray, List.set_cons_zero, List.set_cons_succ])
    refine rg_take (i := 21) (v := ?_) rfl (by kernel_rfl) (by kernel_rfl) (by kernel_rfl) (fun _ _ _ h => h) (by rfl) ?_ (by assumption) ?_
    rotate_left
    · intro w hSw
      (try dsimp only at hSw)
      go_simp
      (try with_reducible rfl)
    (try simp only [Act.put, List.setIfInBounds_toArray, List.set_cons_zero, List.set_cons_succ])
    refine rg_take (i := 22) (v := ?_) rfl (by kernel_rfl) (by kernel_rfl) (by kernel_rfl) (fun _ _ _ h => h) (by rfl) ?_ (by assumption) ?_
    rotate_left
    · intro w hSw
      (try dsimp only at hSw)
      go_simp
      (try with_reducible rfl)
    (try simp only [Act.put, List.setIfInBounds_toArray, List.set_cons_zero, List.set_cons_succ])
    refine rg_take (i := 23) (v := ?_) rfl (by kernel_rfl) (by kernel_rfl) (by kernel_rfl) (fun _ _ _ h => h) (by rfl) ?_ (by assumption) ?_
    rotate_left
    · intro w hSw
      (try dsimp only at hSw)
      go_simp
      (try with_reducible rfl)
    (try simp only [Act.put, List.setIfInBounds_toArray, List.set_cons_zero, List.set_cons_succ])
    refine wpAnyH_ready (rs := [4, 24]) (by kernel_rfl) (by simp) ?_
    refine AllReadyH.cons rfl (fun K hK => ?_) ?_
    · have x3 := hp_cell (o := 3) (v := pv) HP.out rfl
      go_simp
      clear x3
      refine hK.out _ _ hHeld (fun hHeld => ?_)
      clear hK K
      (try simp only [Act.put, List.setIfInBounds_toArray, List.set_cons_zero, List.set_cons_succ])
      refine wpAnyH_ready (rs := [24]) (by kernel_rfl) (by simp) ?_
      refine AllReadyH.cons rfl (fun K hK => ?_) ?_
      · go_simp
        refine hK.out _ _ (tr_six0 (GN.out.below ((Below.refl _ _).alloc (Nat.le_refl _) _)) (RN.out.alloc _) BJ.out.1 BJ.out.2) (fun hHeld => ?_)
        clear hK K
        (try simp only [Act.put, List.setIfInBounds_toArray, List.set_cons_zero, List.set_cons_succ])
        refine wpAnyH_ready (rs := [25]) (by kernel_rfl) (by simp) ?_
        refine AllReadyH.cons rfl (fun K hK => ?_) ?_
        · refine step_append_pair wn rfl _ _ 43 rfl (wB.heap.size + 1) 55 i0 Try.underlying43 hi hz0 hz1 hz2 pv L1.length L1 rfl HO.out rfl (Tr.nd xs j1 : Int) (Tr.nd ys q1 : Int) rfl (by have := HLN.out; omega) (by have := GN.out.len; omega) ?_
          intro v' w8 hown8 hgrow8
          obtain ⟨L2, hL2⟩ : ∃ x, x = L1 ++ [((Tr.nd xs j1 : Int), (Tr.nd ys q1 : Int))] := ⟨_, rfl⟩
          rw [← hL2] at hown8
          have HL2 := Lib.hid hL2
          clear hL2
          obtain ⟨A8, c8, rfl⟩ := own_slice hown8
          have HG8 := Lib.hid ((World.grownBy_alloc wn (.cells #[.int .i64 (Tr.nd xs j1 : Int), .int .i64 (Tr.nd ys q1 : Int)] 55) pv.ownBlock).trans hgrow8)
          have HO8 := Lib.hid hown8
          clear hown8 hgrow8
          refine hK.out _ _ (tr_six GN.out RN.out HO.out HG8.out BJ.out.1 BJ.out.2) (fun hHeld => ?_)
          clear hK K
          refine rg_take (i := 26) (v := ?_) rfl (by kernel_rfl) (by kernel_rfl) (by kernel_rfl) (fun _ _ _ h => h) (by rfl) ?_ (by assumption) ?_
          rotate_left
          · intro w hSw
            (try dsimp only at hSw)
            go_simp
            (try with_reducible rfl)
          (try simp only [Act.put, List.setIfInBounds_toArray])
          refine rg_take (i := 27) (v := ?_) rfl (by kernel_rfl) (by kernel_rfl) (by kernel_rfl) (fun _ _ _ h => h) (by rfl) ?_ (by assumption) ?_
          rotate_left
          · intro w hSw
            (try dsimp only at hSw)
            go_simp
            (try with_reducible rfl)
          (try simp only [Act.put])
          refine wpAnyH_ready (rs := [28]) (by kernel_rfl) (by simp) ?_
          refine AllReadyH.cons rfl (fun K hK => ?_) ?_
          · have HP8 := Lib.hid ((HG8.out.block _ (hp_lt HP.out) (fun e => by have := (HO.out.lt _ e.symm).1; omega)).trans HP.out)
            have x3 := hp_cell (o := 3) (v := pv) HP8.out rfl
            have f3 := hp_frozen (o := 3) HP8.out
            go_simp
            clear x3 f3
            obtain ⟨hG9, hS9⟩ := GN.out.app HP.out HO.out HG8.out HO8.out
            have G9 := Lib.hid hG9
            have S9 := Lib.hid hS9
            clear hG9 hS9
            refine hK.out _ _ (tr_six0 G9.out (RN.out.stay S9.out) BJ.out.1 BJ.out.2) (fun hHeld => ?_)
            clear hK K
            (try simp only [Act.put, List.setIfInBounds_toArray, List.set_cons_zero, List.set_cons_succ])
            refine wpAnyH_done (by kernel_rfl) ?_ _
            generalize hwx : World.setCell w8 _ _ = wx at G9 S9 ⊢
            clear hwx
            obtain ⟨y0, y1, y2, y3⟩ := (Z5.out.stay S9.out).cells
            go_wp2_with fail
            clear y0 y1 y2 y3
            refine (CB.out _ _ (by have := HLN.out; rw [HL2.out, List.length_append, List.length_singleton]; exact this) G9.out).mono ?_
            rintro e w9 ⟨rfl, hT9, hS8⟩
            have FT := Lib.hid (show TG D oa ob ca cb wB xs ys k (L ++ Bm.mt (Bm.cP xs ys) xs ys k i j p q) w9 by rw [← EM.out, ← HL1.out, ← HL2.out]; exact hT9)
            have FS := Lib.hid ((SN.out.trans S9.out).trans hS8)
            clear hT9 hS8
            go_wp2
            refine bodyPost_end (results_none rfl _ _ _) rfl ?_
            exact ⟨rfl, FT.out, FS.out⟩
          exact AllReadyH.nil
        exact AllReadyH.nil
      exact AllReadyH.nil
    refine AllReadyH.cons rfl (fun K hK => ?_) ?_
    · go_simp
      refine hK.out _ _ (tr_six0 (GN.out.below ((Below.refl _ _).alloc (Nat.le_refl _) _)) (RN.out.alloc _) BJ.out.1 BJ.out.2) (fun hHeld => ?_)
      clear hK K
      (try simp only [Act.put, List.setIfInBounds_toArray, List.set_cons_zero, List.set_cons_succ])
      refine wpAnyH_ready (rs := [4]) (by kernel_rfl) (by simp) ?_
      refine AllReadyH.cons rfl (fun K hK => ?_) ?_
      · have x3 := hp_cell (o := 3) (v := pv) (show (World.alloc wn (.cells #[.int .i64 (Tr.nd xs j1 : Int), .int .i64 (Tr.nd ys q1 : Int)] 55)).heap[wB.heap.size]? = _ from (Below.heap_alloc wn _ _ (hp_lt HP.out)).trans HP.out) rfl
        go_simp
        clear x3
        refine hK.out _ _ hHeld (fun hHeld => ?_)
        clear hK K
        (try simp only [Act.put, List.setIfInBounds_toArray, List.set_cons_zero, List.set_cons_succ])
        refine wpAnyH_ready (rs := [25]) (by kernel_rfl) (by simp) ?_
        refine AllReadyH.cons rfl (fun K hK => ?_) ?_
        · refine step_append_pair wn rfl _ _ 43 rfl (wB.heap.size + 1) 55 i0 Try.underlying43 hi hz0 hz1 hz2 pv L1.length L1 rfl HO.out rfl (Tr.nd xs j1 : Int) (Tr.nd ys q1 : Int) rfl (by have := HLN.out; omega) (by have := GN.out.len; omega) ?_
          intro v' w8 hown8 hgrow8
          obtain ⟨L2, hL2⟩ : ∃ x, x = L1 ++ [((Tr.nd xs j1 : Int), (Tr.nd ys q1 : Int))] := ⟨_, rfl⟩
          rw [← hL2] at hown8
          have HL2 := Lib.hid hL2
          clear hL2
          obtain ⟨A8, c8, rfl⟩ := own_slice hown8
          have HG8 := Lib.hid ((World.grownBy_alloc wn (.cells #[.int .i64 (Tr.nd xs j1 : Int), .int .i64 (Tr.nd ys q1 : Int)] 55) pv.ownBlock).trans hgrow8)
          have HO8 := Lib.hid hown8
          clear hown8 hgrow8
          refine hK.out _ _ (tr_six GN.out RN.out HO.out HG8.out BJ.out.1 BJ.out.2) (fun hHeld => ?_)
          clear hK K
          refine rg_take (i := 26) (v := ?_) rfl (by kernel_rfl) (by kernel_rfl) (by kernel_rfl) (fun _ _ _ h => h) (by rfl) ?_ (by assumption) ?_
          rotate_left
          · intro w hSw
            (try dsimp only at hSw)
            go_simp
            (try with_reducible rfl)
          (try simp only [Act.put, List.setIfInBounds_toArray])
          refine rg_take (i := 27) (v := ?_) rfl (by kernel_rfl) (by kernel_rfl) (by kernel_rfl) (fun _ _ _ h => h) (by rfl) ?_ (by assumption) ?_
          rotate_left
          · intro w hSw
            (try dsimp only at hSw)
            go_simp
            (try with_reducible rfl)
          (try simp only [Act.put])
          refine wpAnyH_ready (rs := [28]) (by kernel_rfl) (by simp) ?_
          refine AllReadyH.cons rfl (fun K hK => ?_) ?_
          · have HP8 := Lib.hid ((HG8.out.block _ (hp_lt HP.out) (fun e => by have := (HO.out.lt _ e.symm).1; omega)).trans HP.out)
            have x3 := hp_cell (o := 3) (v := pv) HP8.out rfl
            have f3 := hp_frozen (o := 3) HP8.out
            go_simp
            clear x3 f3
            obtain ⟨hG9, hS9⟩ := GN.out.app HP.out HO.out HG8.out HO8.out
            have G9 := Lib.hid hG9
            have S9 := Lib.hid hS9
            clear hG9 hS9
            refine hK.out _ _ (tr_six0 G9.out (RN.out.stay S9.out) BJ.out.1 BJ.out.2) (fun hHeld => ?_)
            clear hK K
            (try simp only [Act.put, List.setIfInBounds_toArray, List.set_cons_zero, List.set_cons_succ])
            refine wpAnyH_done (by kernel_rfl) ?_ _
            generalize hwx : World.setCell w8 _ _ = wx at G9 S9 ⊢
            clear hwx
            obtain ⟨y0, y1, y2, y3⟩ := (Z5.out.stay S9.out).cells
            go_wp2_with fail
            clear y0 y1 y2 y3
            refine (CB.out _ _ (by have := HLN.out; rw [HL2.out, List.length_append, List.length_singleton]; exact this) G9.out).mono ?_
            rintro e w9 ⟨rfl, hT9, hS8⟩
            have FT := Lib.hid (show TG D oa ob ca cb wB xs ys k (L ++ Bm.mt (Bm.cP xs ys) xs ys k i j p q) w9 by rw [← EM.out, ← HL1.out, ← HL2.out]; exact hT9)
            have FS := Lib.hid ((SN.out.trans S9.out).trans hS8)
            clear hT9 hS8
            go_wp2
            refine bodyPost_end (results_none rfl _ _ _) rfl ?_
            exact ⟨rfl, FT.out, FS.out⟩
          exact AllReadyH.nil
        exact AllReadyH.nil
      exact AllReadyH.nil
    exact AllReadyH.nil

end Go.Proofs.Ytlndaflhlkbedaa

/- Contracts (TrJ). -/
namespace Go.Proofs.Ytlndaflhlkbedaa
open Go.RowKit
set_option linter.unusedVariables false

section
variable {D : D10} {oa ob : Addr} {ca cb : Nat} {wB : World} {xs ys : Tr} {k : Co} {L : Tr} {w0 wq wx : World} {b i j p q : Nat}
theorem mq_dist (h : (wq.cell? ⟨b, 0, none⟩ = some (.int .i64 (i : Int)) ∧ wq.cell? ⟨b, 1, none⟩ = some (.int .i64 (j : Int)) ∧ wq.cell? ⟨b, 2, none⟩ = some (.int .i64 (p : Int)) ∧ wq.cell? ⟨b, 3, none⟩ = some (.int .i64 (q : Int)) ∧ wq.cell? ⟨wB.heap.size, 0, none⟩ = some (.pointer (some ⟨D.g, 0, none⟩))) ∧ MQ D oa ob ca cb wB xs ys k L w0 b i j p q wq) (h' : PG D xs ys k wq wx) : (wx.cell? ⟨b, 0, none⟩ = some (.int .i64 (i : Int)) ∧ wx.cell? ⟨b, 1, none⟩ = some (.int .i64 (j : Int)) ∧ wx.cell? ⟨b, 2, none⟩ = some (.int .i64 (p : Int)) ∧ wx.cell? ⟨b, 3, none⟩ = some (.int .i64 (q : Int)) ∧ wx.cell? ⟨wB.heap.size, 0, none⟩ = some (.pointer (some ⟨D.g, 0, none⟩))) ∧ MQ D oa ob ca cb wB xs ys k L w0 b i j p q wx := (h.2.dist h').on
theorem mq_drawn (h : (wq.cell? ⟨b, 0, none⟩ = some (.int .i64 (i : Int)) ∧ wq.cell? ⟨b, 1, none⟩ = some (.int .i64 (j : Int)) ∧ wq.cell? ⟨b, 2, none⟩ = some (.int .i64 (p : Int)) ∧ wq.cell? ⟨b, 3, none⟩ = some (.int .i64 (q : Int)) ∧ wq.cell? ⟨wB.heap.size, 0, none⟩ = some (.pointer (some ⟨D.g, 0, none⟩))) ∧ MQ D oa ob ca cb wB xs ys k L w0 b i j p q wq) (h' : Drawn wq wx) : (wx.cell? ⟨b, 0, none⟩ = some (.int .i64 (i : Int)) ∧ wx.cell? ⟨b, 1, none⟩ = some (.int .i64 (j : Int)) ∧ wx.cell? ⟨b, 2, none⟩ = some (.int .i64 (p : Int)) ∧ wx.cell? ⟨b, 3, none⟩ = some (.int .i64 (q : Int)) ∧ wx.cell? ⟨wB.heap.size, 0, none⟩ = some (.pointer (some ⟨D.g, 0, none⟩))) ∧ MQ D oa ob ca cb wB xs ys k L w0 b i j p q wx := (h.2.drawn h').on
theorem MQ.over (h : MQ D oa ob ca cb wB xs ys k L w0 b i j p q wq) (hB : wB.heap.size ≤ b) (hw : w0.heap.size ≤ b) (i' j' p' q' : Nat) : MQ D oa ob ca cb wB xs ys k L w0 b i' j' p' q' ((((wq.setCell ⟨b, 0, none⟩ (.int .i64 (i' : Int))).setCell ⟨b, 1, none⟩ (.int .i64 (j' : Int))).setCell ⟨b, 2, none⟩ (.int .i64 (p' : Int))).setCell ⟨b, 3, none⟩ (.int .i64 (q' : Int))) := by
  have hg := grown_set4 wq b (.int .i64 (i' : Int)) (.int .i64 (j' : Int)) (.int .i64 (p' : Int)) (.int .i64 (q' : Int))
  refine ⟨h.1.box h.2.2 hB _ _ _ _, ⟨Nat.le_trans h.2.1.size hg.size, fun b' cur t hb h1 h2 => ?_⟩, h.2.2.set _ _ _ _⟩
  have hb2 := h.2.1.blk b' cur t hb h1 h2
  exact (hg.block _ (hp_lt hb2) (fun e => by have := hp_lt hb; have := Option.some.inj e; omega)).trans hb2
end
set_option maxHeartbeats 3200000 in
set_option maxRecDepth 100000 in
theorem trace_step (D : D10) (oa ob : Addr) (ca cb : Nat) (wB : World) (xs ys : Tr) (k : Co) (s : Nat) (hx : Tr.ok xs = true) (hy : Tr.ok ys = true) (hk : Co.ok k = true) (hs : SaysT D oa ob ca cb wB xs ys k s) : SaysT D oa ob ca cb wB xs ys k (s + 1) := by
  intro i0 j0 p0 q0 L w hij0 hj0 hpq0 hq0 hsum0 hL0 h
  obtain ⟨w1, hw1⟩ : ∃ w1, w1 = w.alloc (.cells #[.int .i64 (i0 : Int), .int .i64 (j0 : Int), .int .i64 (p0 : Int), .int .i64 (q0 : Int)] 102) := ⟨_, rfl⟩
  have hb1 : Below w.heap.size w w1 := by rw [hw1]; exact (Below.refl _ _).alloc (Nat.le_refl _) _
  obtain ⟨bb, hbb⟩ : ∃ x, x = w.heap.size := ⟨_, rfl⟩
  have M1 := Lib.hid (show MQ D oa ob ca cb wB xs ys k L w bb i0 j0 p0 q0 w1 from ⟨h.below hb1, Stay.below hb1, by rw [hw1, hbb]; exact Rb.made _ _ _ _ _⟩)
  have SB := Lib.hid (show wB.heap.size ≤ bb ∧ w.heap.size ≤ bb from ⟨by have := h.len; omega, by omega⟩)
  obtain ⟨G, hG⟩ : ∃ x, x = Bm.go (Bm.cP xs ys) xs ys k i0 j0 p0 q0 := ⟨_, rfl⟩
  rw [← hG]
  have HGG := Lib.hid hG
  have HBB := Lib.hid hbb
  have HW1 := Lib.hid hw1
  have HS := Lib.hid hs
  have HX := Lib.hid hx
  have HY := Lib.hid hy
  have HK := Lib.hid hk
  have BI0 := Lib.hid (show i0 ≤ j0 ∧ j0 ≤ xs.length ∧ p0 ≤ q0 ∧ q0 ≤ ys.length ∧ (j0 - i0) + (q0 - p0) ≤ s ∧ L.length + (q0 - p0) ≤ 1000 by omega)
  clear hG hbb hw1 hs hx hy hk hb1 h hij0 hj0 hpq0 hq0 hsum0 hL0
  go_enter Try.func132, Try.ntmps132
  go_wp2_with fail
  rw [← HW1.out, ← HBB.out]
  go_loopg [] (s + 1) (fun g wr => ∃ i j p q : Nat, i ≤ j ∧ j ≤ xs.length ∧ p ≤ q ∧ q ≤ ys.length ∧ (j - i) + (q - p) < g ∧ g ≤ s + 1 ∧ L.length + (q - p) ≤ 1000 ∧ Bm.go (Bm.cP xs ys) xs ys k i j p q = G ∧ MQ D oa ob ca cb wB xs ys k L w bb i j p q wr)
  case atStart => exact ⟨i0, j0, p0, q0, BI0.out.1, BI0.out.2.1, BI0.out.2.2.1, BI0.out.2.2.2.1, by have := BI0.out; omega, Nat.le_refl _, BI0.out.2.2.2.2.2, HGG.out.symm, M1.out⟩
  case round =>
    clear M1 HW1 HGG BI0
    obtain ⟨i, j, p, q, hij, hj, hpq, hq, hsum, hgs, hL, hgo, hM⟩ := hrel
    have M := Lib.hid hM
    have HGO := Lib.hid hgo
    clear hM hgo
    obtain ⟨y0, y1, y2, y3⟩ := M.out.2.2.cells
    by_cases e : j ≤ i ∨ q ≤ p
    · have HE := Lib.hid (show G = [] from HGO.out.symm.trans (Bm.go_none e))
      have FT := Lib.hid (show TG D oa ob ca cb wB xs ys k (L ++ G) wr by rw [HE.out, List.append_nil]; exact M.out.1)
      by_cases e1 : i < j
      · have e2 : ¬ p < q := by omega
        clear hij hj hpq hq hsum hgs hL e
        go_wp2
        refine bodyPost_end (results_none rfl _ _ _) rfl ?_
        exact ⟨rfl, FT.out, M.out.2.1⟩
      · clear hij hj hpq hq hsum hgs hL e
        go_wp2
        refine bodyPost_end (results_none rfl _ _ _) rfl ?_
        exact ⟨rfl, FT.out, M.out.2.1⟩
    · have e1 : i < j := by omega
      have e2 : p < q := by omega
      have x24 := (Tr.len24 HX.out).2
      have y24 := (Tr.len24 HY.out).2
      obtain ⟨j1, ej⟩ : ∃ z, z = j - 1 := ⟨_, rfl⟩
      obtain ⟨q1, eq⟩ : ∃ z, z = q - 1 := ⟨_, rfl⟩
      have EJ := Lib.hid ej
      have EQ := Lib.hid eq
      have bX := RR_bound (k := k) HX.out HY.out (p := i) (a := j1) (q := p) (b := q) (by omega) (by omega) (by omega) hq
      have bY := RR_bound (k := k) HX.out HY.out (p := i) (a := j) (q := p) (b := q1) (by omega) hj (by omega) (by omega)
      obtain ⟨D0, hD0⟩ : ∃ z, z = RR xs ys k i j p q := ⟨_, rfl⟩
      obtain ⟨X, hX⟩ : ∃ z, z = RR xs ys k i j1 p q := ⟨_, rfl⟩
      obtain ⟨Y, hY⟩ : ∃ z, z = RR xs ys k i j p q1 := ⟨_, rfl⟩
      obtain ⟨dv, hdv⟩ : ∃ z, z = Co.del k (Tr.xa xs j1) := ⟨_, rfl⟩
      obtain ⟨iv, hiv⟩ : ∃ z, z = Co.ins k (Tr.xa ys q1) := ⟨_, rfl⟩
      have bD := (Co.nonneg' k).1 (Tr.xa xs j1)
      have bI := (Co.nonneg' k).2.1 (Tr.xa ys q1)
      have CD := Lib.hid (fun (wq : World) (hp : TG D oa ob ca cb wB xs ys k L wq) => rangeDist_any D xs ys k HX.out HY.out HK.out (xs.length + ys.length + 1) i j p q wq hij hj hpq hq (by omega) hp.pt)
      have CX := Lib.hid (fun (wq : World) (hp : TG D oa ob ca cb wB xs ys k L wq) => rangeDist_any D xs ys k HX.out HY.out HK.out (xs.length + ys.length + 1) i j1 p q wq (by omega) (by omega) hpq hq (by omega) hp.pt)
      have CY := Lib.hid (fun (wq : World) (hp : TG D oa ob ca cb wB xs ys k L wq) => rangeDist_any D xs ys k HX.out HY.out HK.out (xs.length + ys.length + 1) i j p q1 wq hij hj (by omega) (by omega) (by omega) hp.pt)
      have CE := Lib.hid (fun (wq : World) (hp : TG D oa ob ca cb wB xs ys k L wq) => sidesDel_any D.g D.a0 D.a1 D.b0 D.b1 D.k0 D.k1 D.k2 D.ca0 D.ca1 D.cb0 D.cb1 D.ck0 D.ck1 D.ck2 xs ys k wq hp.pt.sd HX.out HK.out j1 (by omega))
      have CI := Lib.hid (fun (wq : World) (hp : TG D oa ob ca cb wB xs ys k L wq) => sidesIns_any D.g D.a0 D.a1 D.b0 D.b1 D.k0 D.k1 D.k2 D.ca0 D.ca1 D.cb0 D.cb1 D.ck0 D.ck1 D.ck2 xs ys k wq hp.pt.sd HY.out HK.out q1 (by omega))
      have HW := Lib.hid (show ∀ wq : World, TG D oa ob ca cb wB xs ys k L wq → Calls Try.prog 125 #[(.agg #[.int .i64 (i : Int), .int .i64 (j : Int), .int .i64 (p : Int), .int .i64 (q : Int)])] wq fun e w' => e = .returned (.agg #[.int .i64 (i : Int), .int .i64 (j1 : Int), .int .i64 (p : Int), .int .i64 (q : Int)]) ∧ Below wq.heap.size wq w' by
        intro wq _; have := withoutA_any i j p q wq (by omega) (by omega); rw [← EJ.out] at this; exact this)
      have HV := Lib.hid (show ∀ wq : World, TG D oa ob ca cb wB xs ys k L wq → Calls Try.prog 127 #[(.agg #[.int .i64 (i : Int), .int .i64 (j : Int), .int .i64 (p : Int), .int .i64 (q : Int)])] wq fun e w' => e = .returned (.agg #[.int .i64 (i : Int), .int .i64 (j : Int), .int .i64 (p : Int), .int .i64 (q1 : Int)]) ∧ Below wq.heap.size wq w' by
        intro wq _; have := withoutB_any i j p q wq (by omega) (by omega); rw [← EQ.out] at this; exact this)
      have CM := Lib.hid (fun (wq : World) (hp : TG D oa ob ca cb wB xs ys k L wq) => match_any D oa ob ca cb wB xs ys k s HX.out HY.out HS.out i j p q L wq e1 hj e2 hq (by omega) hL hp)
      rw [← hD0] at CD
      rw [← hX] at bX CX
      rw [← hY] at bY CY
      rw [← hdv] at bD CE
      rw [← hiv] at bI CI
      have QA := Lib.hid (show (D0 = X + dv) ↔ RR xs ys k i j p q = RR xs ys k i (j - 1) p q + Co.del k (Tr.xa xs (j - 1)) by rw [hD0, hX, hdv, EJ.out])
      have QB := Lib.hid (show (D0 = Y + iv) ↔ RR xs ys k i j p q = RR xs ys k i j p (q - 1) + Co.ins k (Tr.xa ys (q - 1)) by rw [hD0, hY, hiv, EQ.out])
      have a1 : IntKind.i64.wrap ((j : Int) - 1) = (j1 : Int) := by rw [Kit.w64 (by omega) (by omega)]; omega
      have a2 : IntKind.i64.wrap ((q : Int) - 1) = (q1 : Int) := by rw [Kit.w64 (by omega) (by omega)]; omega
      have s1 : IntKind.i64.wrap (X + dv) = X + dv := Kit.w64 (by omega) (by omega)
      have s2 : IntKind.i64.wrap (Y + iv) = Y + iv := Kit.w64 (by omega) (by omega)
      have BI := Lib.hid (show i < j ∧ p < q ∧ j ≤ xs.length ∧ q ≤ ys.length ∧ (j - i) + (q - p) < gk ∧ gk ≤ s + 1 ∧ L.length + (q - p) ≤ 1000 by omega)
      clear hD0 hX hY hdv hiv ej eq x24 y24 bX bY bD bI hij hj hpq hq hsum hgs hL e
      go_wp2_with fail
      clear y0 y1 y2 y3
      obtain ⟨wn, hwn⟩ : ∃ x, x = wr.drew := ⟨_, rfl⟩
      have M := Lib.hid (show MQ D oa ob ca cb wB xs ys k L w bb i j p q wn by rw [hwn]; exact M.out.drawn (Drawn.refl _).drew)
      refine wp_region_held_drew (S := (fun wq => (wq.cell? ⟨bb, 0, none⟩ = some (.int .i64 (i : Int)) ∧ wq.cell? ⟨bb, 1, none⟩ = some (.int .i64 (j : Int)) ∧ wq.cell? ⟨bb, 2, none⟩ = some (.int .i64 (p : Int)) ∧ wq.cell? ⟨bb, 3, none⟩ = some (.int .i64 (q : Int)) ∧ wq.cell? ⟨wB.heap.size, 0, none⟩ = some (.pointer (some ⟨D.g, 0, none⟩))) ∧ MQ D oa ob ca cb wB xs ys k L w bb i j p q wq)) (by kernel_rfl) (by rw [← hwn]; exact M.out.on) (fun hHeld => ?_)
      rw [← hwn] at hHeld ⊢
      clear hwn e1 e2 hHeld
      have hHeld := M.out.on
      refine rg_take (i := 0) (v := ?_) rfl (by kernel_rfl) (by kernel_rfl) (by kernel_rfl) (fun _ _ _ h => h) (by rfl) ?_ (by assumption) ?_
      rotate_left
      · intro w hSw
        (try dsimp only at hSw)
        go_simp
        (try with_reducible rfl)
      (try simp only [Act.put, List.setIfInBounds_toArray, List.set_cons_zero, List.set_cons_succ])
      refine rg_take (i := 1) (v := ?_) rfl (by kernel_rfl) (by kernel_rfl) (by kernel_rfl) (fun _ _ _ h => h) (by rfl) ?_ (by assumption) ?_
      rotate_left
      · intro w hSw
        (try dsimp only at hSw)
        go_simp
        (try with_reducible rfl)
      (try simp only [Act.put, List.setIfInBounds_toArray, List.set_cons_zero, List.set_cons_succ])
      refine rg_take (i := 2) (v := ?_) rfl (by kernel_rfl) (by kernel_rfl) (by kernel_rfl) (fun _ _ _ h => h) (by rfl) ?_ (by assumption) ?_
      rotate_left
      · intro w hSw
        (try dsimp only at hSw)
        go_simp
        (try with_reducible rfl)
      (try simp only [Act.put, List.setIfInBounds_toArray, List.set_cons_zero, List.set_cons_succ])
      refine rg_take (i := 3) (v := ?_) rfl (by kernel_rfl) (by kernel_rfl) (by kernel_rfl) (fun _ _ _ h => h) (by rfl) ?_ (by assumption) ?_
      rotate_left
      · intro w hSw
        (try dsimp only at hSw)
        go_simp
        (try with_reducible rfl)
      (try simp only [Act.put, List.setIfInBounds_toArray, List.set_cons_zero, List.set_cons_succ])
      refine rg_take (i := 4) (v := ?_) rfl (by kernel_rfl) (by kernel_rfl) (by kernel_rfl) (fun _ _ _ h => h) (by rfl) ?_ (by assumption) ?_
      rotate_left
      · intro w hSw
        (try dsimp only at hSw)
        go_simp
        (try with_reducible rfl)
      (try simp only [Act.put, List.setIfInBounds_toArray, List.set_cons_zero, List.set_cons_succ])
      refine wpAnyH_ready (rs := [5]) (by kernel_rfl) (by simp) ?_
      refine AllReadyH.cons rfl (fun K hK => ?_) ?_
      · go_simp
        go_at_call 84
        refine (CD.out _ M.out.1).mono ?_
        rintro e wz ⟨rfl, hk5⟩
        have M := Lib.hid (M.out.dist hk5)
        clear hk5
        go_wp2_with fail
        refine hK.out _ _ M.out.on (fun hHeld => ?_)
        clear hK K
        (try simp only [Act.put, List.setIfInBounds_toArray, List.set_cons_zero, List.set_cons_succ])
        refine wpAnyH_done (by kernel_rfl) ?_ _
        go_wp2_with fail
        have S0 := Lib.hid (show (wz.drew.cell? ⟨bb, 0, none⟩ = some (.int .i64 (i : Int)) ∧ wz.drew.cell? ⟨bb, 1, none⟩ = some (.int .i64 (j : Int)) ∧ wz.drew.cell? ⟨bb, 2, none⟩ = some (.int .i64 (p : Int)) ∧ wz.drew.cell? ⟨bb, 3, none⟩ = some (.int .i64 (q : Int)) ∧ wz.drew.cell? ⟨wB.heap.size, 0, none⟩ = some (.pointer (some ⟨D.g, 0, none⟩))) ∧ MQ D oa ob ca cb wB xs ys k L w bb i j p q wz.drew from (M.out.drawn (Drawn.refl _).drew).on)
        have A2 := Lib.hid a2
        have S2 := Lib.hid s2
        clear a2 s2
        (try clear hHeld)
        by_cases ca : D0 = X + dv
        · have c1 : (D0 == X + dv) = true := by simpa using ca
          have HN := Lib.hid (show Bm.go (Bm.cP xs ys) xs ys k i j1 p q = G from by rw [← HGO.out, EJ.out]; exact (Bm.go_del BI.out.1 BI.out.2.1 (QA.out.1 ca)).symm)
          clear ca
          go_region_held3 (fun wq => (wq.cell? ⟨bb, 0, none⟩ = some (.int .i64 (i : Int)) ∧ wq.cell? ⟨bb, 1, none⟩ = some (.int .i64 (j : Int)) ∧ wq.cell? ⟨bb, 2, none⟩ = some (.int .i64 (p : Int)) ∧ wq.cell? ⟨bb, 3, none⟩ = some (.int .i64 (q : Int)) ∧ wq.cell? ⟨wB.heap.size, 0, none⟩ = some (.pointer (some ⟨D.g, 0, none⟩))) ∧ MQ D oa ob ca cb wB xs ys k L w bb i j p q wq) (first | (with_reducible exact SC) | (with_reducible exact S0.out)) (first | ((go_at_call 125; with_reducible refine (HW.out _ (mq_tg (by assumption))).mono ?_); rintro e w5 ⟨rfl, hk5⟩; have SC := mq_next (by assumption) hk5) | ((go_at_call 126; with_reducible refine (CE.out _ (mq_tg (by assumption))).mono ?_); rintro e w5 ⟨rfl, hk5⟩; have SC := mq_drawn (by assumption) hk5) | ((go_at_call 84; with_reducible refine (CX.out _ (mq_tg (by assumption))).mono ?_); rintro e w5 ⟨rfl, hk5⟩; have SC := mq_dist (by assumption) hk5))
          clear a1 s1
          obtain ⟨wv, hwv⟩ : ∃ x, x = w5 := ⟨_, rfl⟩
          rw [← hwv] at SC ⊢
          clear hwv
          have M := Lib.hid (mq_of SC)
          clear SC S0
          obtain ⟨y0, y1, y2, y3⟩ := M.out.2.2.cells
          go_wp2_with fail
          clear y0 y1 y2 y3
          refine (HW.out _ M.out.1).mono ?_
          rintro e w6 ⟨rfl, hk6⟩
          have M := Lib.hid (M.out.below hk6)
          clear hk6
          obtain ⟨y0, y1, y2, y3⟩ := M.out.2.2.cells
          obtain ⟨f0, f1, f2, f3⟩ := M.out.2.2.froz
          go_wp2
          go_roundg (gk - 1)
          case measure => have := BI.out; omega
          case rel => exact ⟨i, j1, p, q, by have := BI.out; have := EJ.out; omega, by have := BI.out; have := EJ.out; omega, by have := BI.out; omega, BI.out.2.2.2.1, by have := BI.out; have := EJ.out; omega, by have := BI.out; omega, BI.out.2.2.2.2.2.2, HN.out, M.out.over SB.out.1 SB.out.2 _ _ _ _⟩
        · have c1 : (D0 == X + dv) = false := by simpa using ca
          have HCA := Lib.hid (fun h => ca (QA.out.2 h))
          clear ca
          by_cases cb : D0 = Y + iv
          · have c2 : (D0 == Y + iv) = true := by simpa using cb
            have HN := Lib.hid (show Bm.go (Bm.cP xs ys) xs ys k i j p q1 = G from by rw [← HGO.out, EQ.out]; exact (Bm.go_ins BI.out.1 BI.out.2.1 HCA.out (QB.out.1 cb)).symm)
            clear cb
            go_region_held3 (fun wq => (wq.cell? ⟨bb, 0, none⟩ = some (.int .i64 (i : Int)) ∧ wq.cell? ⟨bb, 1, none⟩ = some (.int .i64 (j : Int)) ∧ wq.cell? ⟨bb, 2, none⟩ = some (.int .i64 (p : Int)) ∧ wq.cell? ⟨bb, 3, none⟩ = some (.int .i64 (q : Int)) ∧ wq.cell? ⟨wB.heap.size, 0, none⟩ = some (.pointer (some ⟨D.g, 0, none⟩))) ∧ MQ D oa ob ca cb wB xs ys k L w bb i j p q wq) (first | (with_reducible exact SC) | (with_reducible exact S0.out)) (first | ((go_at_call 125; with_reducible refine (HW.out _ (mq_tg (by assumption))).mono ?_); rintro e w5 ⟨rfl, hk5⟩; have SC := mq_next (by assumption) hk5) | ((go_at_call 126; with_reducible refine (CE.out _ (mq_tg (by assumption))).mono ?_); rintro e w5 ⟨rfl, hk5⟩; have SC := mq_drawn (by assumption) hk5) | ((go_at_call 84; with_reducible refine (CX.out _ (mq_tg (by assumption))).mono ?_); rintro e w5 ⟨rfl, hk5⟩; have SC := mq_dist (by assumption) hk5))
            clear a1 s1
            obtain ⟨wv, hwv⟩ : ∃ x, x = w5 := ⟨_, rfl⟩
            rw [← hwv] at SC ⊢
            clear hwv
            have M := Lib.hid (mq_of SC)
            clear SC S0
            have a2 := A2.out
            have s2 := S2.out
            go_wp2_with fail
            have S0 := Lib.hid (show (wv.drew.cell? ⟨bb, 0, none⟩ = some (.int .i64 (i : Int)) ∧ wv.drew.cell? ⟨bb, 1, none⟩ = some (.int .i64 (j : Int)) ∧ wv.drew.cell? ⟨bb, 2, none⟩ = some (.int .i64 (p : Int)) ∧ wv.drew.cell? ⟨bb, 3, none⟩ = some (.int .i64 (q : Int)) ∧ wv.drew.cell? ⟨wB.heap.size, 0, none⟩ = some (.pointer (some ⟨D.g, 0, none⟩))) ∧ MQ D oa ob ca cb wB xs ys k L w bb i j p q wv.drew from (M.out.drawn (Drawn.refl _).drew).on)
            go_region_held3 (fun wq => (wq.cell? ⟨bb, 0, none⟩ = some (.int .i64 (i : Int)) ∧ wq.cell? ⟨bb, 1, none⟩ = some (.int .i64 (j : Int)) ∧ wq.cell? ⟨bb, 2, none⟩ = some (.int .i64 (p : Int)) ∧ wq.cell? ⟨bb, 3, none⟩ = some (.int .i64 (q : Int)) ∧ wq.cell? ⟨wB.heap.size, 0, none⟩ = some (.pointer (some ⟨D.g, 0, none⟩))) ∧ MQ D oa ob ca cb wB xs ys k L w bb i j p q wq) (first | (with_reducible exact SC) | (with_reducible exact S0.out)) (first | ((go_at_call 127; with_reducible refine (HV.out _ (mq_tg (by assumption))).mono ?_); rintro e w5 ⟨rfl, hk5⟩; have SC := mq_next (by assumption) hk5) | ((go_at_call 128; with_reducible refine (CI.out _ (mq_tg (by assumption))).mono ?_); rintro e w5 ⟨rfl, hk5⟩; have SC := mq_drawn (by assumption) hk5) | ((go_at_call 84; with_reducible refine (CY.out _ (mq_tg (by assumption))).mono ?_); rintro e w5 ⟨rfl, hk5⟩; have SC := mq_dist (by assumption) hk5))
            clear a2 s2
            obtain ⟨wv, hwv⟩ : ∃ x, x = w5 := ⟨_, rfl⟩
            rw [← hwv] at SC ⊢
            clear hwv
            have M := Lib.hid (mq_of SC)
            clear SC S0
            obtain ⟨y0, y1, y2, y3⟩ := M.out.2.2.cells
            go_wp2_with fail
            clear y0 y1 y2 y3
            refine (HV.out _ M.out.1).mono ?_
            rintro e w6 ⟨rfl, hk6⟩
            have M := Lib.hid (M.out.below hk6)
            clear hk6
            obtain ⟨y0, y1, y2, y3⟩ := M.out.2.2.cells
            obtain ⟨f0, f1, f2, f3⟩ := M.out.2.2.froz
            go_wp2
            go_roundg (gk - 1)
            case measure => have := BI.out; omega
            case rel => exact ⟨i, j, p, q1, by have := BI.out; omega, BI.out.2.2.1, by have := BI.out; have := EQ.out; omega, by have := BI.out; have := EQ.out; omega, by have := BI.out; have := EQ.out; omega, by have := BI.out; omega, by have := BI.out; have := EQ.out; omega, HN.out, M.out.over SB.out.1 SB.out.2 _ _ _ _⟩
          · have c2 : (D0 == Y + iv) = false := by simpa using cb
            have HN := Lib.hid (show Bm.mt (Bm.cP xs ys) xs ys k i j p q = G from by rw [← HGO.out]; exact (Bm.go_both HX.out HY.out BI.out.1 BI.out.2.1 BI.out.2.2.1 BI.out.2.2.2.1 HCA.out (fun h => cb (QB.out.2 h))).symm)
            clear cb
            go_region_held3 (fun wq => (wq.cell? ⟨bb, 0, none⟩ = some (.int .i64 (i : Int)) ∧ wq.cell? ⟨bb, 1, none⟩ = some (.int .i64 (j : Int)) ∧ wq.cell? ⟨bb, 2, none⟩ = some (.int .i64 (p : Int)) ∧ wq.cell? ⟨bb, 3, none⟩ = some (.int .i64 (q : Int)) ∧ wq.cell? ⟨wB.heap.size, 0, none⟩ = some (.pointer (some ⟨D.g, 0, none⟩))) ∧ MQ D oa ob ca cb wB xs ys k L w bb i j p q wq) (first | (with_reducible exact SC) | (with_reducible exact S0.out)) (first | ((go_at_call 125; with_reducible refine (HW.out _ (mq_tg (by assumption))).mono ?_); rintro e w5 ⟨rfl, hk5⟩; have SC := mq_next (by assumption) hk5) | ((go_at_call 126; with_reducible refine (CE.out _ (mq_tg (by assumption))).mono ?_); rintro e w5 ⟨rfl, hk5⟩; have SC := mq_drawn (by assumption) hk5) | ((go_at_call 84; with_reducible refine (CX.out _ (mq_tg (by assumption))).mono ?_); rintro e w5 ⟨rfl, hk5⟩; have SC := mq_dist (by assumption) hk5))
            clear a1 s1
            obtain ⟨wv, hwv⟩ : ∃ x, x = w5 := ⟨_, rfl⟩
            rw [← hwv] at SC ⊢
            clear hwv
            have M := Lib.hid (mq_of SC)
            clear SC S0
            have a2 := A2.out
            have s2 := S2.out
            go_wp2_with fail
            have S0 := Lib.hid (show (wv.drew.cell? ⟨bb, 0, none⟩ = some (.int .i64 (i : Int)) ∧ wv.drew.cell? ⟨bb, 1, none⟩ = some (.int .i64 (j : Int)) ∧ wv.drew.cell? ⟨bb, 2, none⟩ = some (.int .i64 (p : Int)) ∧ wv.drew.cell? ⟨bb, 3, none⟩ = some (.int .i64 (q : Int)) ∧ wv.drew.cell? ⟨wB.heap.size, 0, none⟩ = some (.pointer (some ⟨D.g, 0, none⟩))) ∧ MQ D oa ob ca cb wB xs ys k L w bb i j p q wv.drew from (M.out.drawn (Drawn.refl _).drew).on)
            go_region_held3 (fun wq => (wq.cell? ⟨bb, 0, none⟩ = some (.int .i64 (i : Int)) ∧ wq.cell? ⟨bb, 1, none⟩ = some (.int .i64 (j : Int)) ∧ wq.cell? ⟨bb, 2, none⟩ = some (.int .i64 (p : Int)) ∧ wq.cell? ⟨bb, 3, none⟩ = some (.int .i64 (q : Int)) ∧ wq.cell? ⟨wB.heap.size, 0, none⟩ = some (.pointer (some ⟨D.g, 0, none⟩))) ∧ MQ D oa ob ca cb wB xs ys k L w bb i j p q wq) (first | (with_reducible exact SC) | (with_reducible exact S0.out)) (first | ((go_at_call 127; with_reducible refine (HV.out _ (mq_tg (by assumption))).mono ?_); rintro e w5 ⟨rfl, hk5⟩; have SC := mq_next (by assumption) hk5) | ((go_at_call 128; with_reducible refine (CI.out _ (mq_tg (by assumption))).mono ?_); rintro e w5 ⟨rfl, hk5⟩; have SC := mq_drawn (by assumption) hk5) | ((go_at_call 84; with_reducible refine (CY.out _ (mq_tg (by assumption))).mono ?_); rintro e w5 ⟨rfl, hk5⟩; have SC := mq_dist (by assumption) hk5))
            clear a2 s2
            obtain ⟨wv, hwv⟩ : ∃ x, x = w5 := ⟨_, rfl⟩
            rw [← hwv] at SC ⊢
            clear hwv
            have M := Lib.hid (mq_of SC)
            clear SC S0
            obtain ⟨y0, y1, y2, y3⟩ := M.out.2.2.cells
            go_wp2_with fail
            clear y0 y1 y2 y3
            refine (CM.out _ M.out.1).mono ?_
            rintro e w6 ⟨rfl, hT6, hS6⟩
            have FT := Lib.hid (show TG D oa ob ca cb wB xs ys k (L ++ G) w6 by rw [← HN.out]; exact hT6)
            have FS := Lib.hid (M.out.2.1.trans hS6)
            clear hT6 hS6
            go_wp2
            refine bodyPost_ret (results_none rfl _ _ _) rfl ?_
            exact ⟨rfl, FT.out, FS.out⟩

      exact AllReadyH.nil
theorem trace_any (D : D10) (oa ob : Addr) (ca cb : Nat) (wB : World) (xs ys : Tr) (k : Co) (hx : Tr.ok xs = true) (hy : Tr.ok ys = true) (hk : Co.ok k = true) : ∀ s, SaysT D oa ob ca cb wB xs ys k s := by
  intro s
  induction s with
  | zero => intro i j p q L w _ _ _ _ h; omega
  | succ s ih => exact trace_step D oa ob ca cb wB xs ys k s hx hy hk ih

end Go.Proofs.Ytlndaflhlkbedaa
