/- Texts of one claim laid into one file, in build order: Opm, Com, Bm. -/
import Derived.Test.YtgkkeejhfofcaaaHd12
import Derived.Test.YtgkkeejhfofcaaaHd14
import Derived.Test.YtgkkeejhfofcaaaHd2
import Derived.Test.YtgkkeejhfofcaaaHd3
/- Contracts (Opm). -/
namespace Go.Proofs.Ytgkkeejhfofcaaa
open Go.RowKit
set_option linter.unusedVariables false


/-! Mathematics of chapter 13: operations on lists of nodes. -/
/-- nodes from place f up to t, so much deeper -/
def Tr.sh (xs : Tr) (f t : Nat) (dd : Int) : Tr := (List.range (t - f)).map fun j => (Tr.l xs (f + j), Tr.d xs (f + j) + dd)
theorem Tr.sh_len (xs : Tr) (f t : Nat) (dd : Int) : (Tr.sh xs f t dd).length = t - f := by simp [Tr.sh]
theorem Tr.sh_l {xs : Tr} {f t k : Nat} {dd : Int} (h : k < t - f) : Tr.l (Tr.sh xs f t dd) k = Tr.l xs (f + k) := by
  simp [Tr.l, Tr.sh, List.getD_eq_getElem?_getD, h]
theorem Tr.sh_d {xs : Tr} {f t k : Nat} {dd : Int} (h : k < t - f) : Tr.d (Tr.sh xs f t dd) k = Tr.d xs (f + k) + dd := by
  simp [Tr.d, Tr.sh, List.getD_eq_getElem?_getD, h]
theorem Tr.l_app (xs ys : Tr) (k : Nat) : Tr.l (xs ++ ys) k = if k < xs.length then Tr.l xs k else Tr.l ys (k - xs.length) := by
  unfold Tr.l
  rw [List.getD_eq_getElem?_getD, List.getElem?_append]
  split <;> simp [List.getD_eq_getElem?_getD]
theorem Tr.d_app (xs ys : Tr) (k : Nat) : Tr.d (xs ++ ys) k = if k < xs.length then Tr.d xs k else Tr.d ys (k - xs.length) := by
  unfold Tr.d
  rw [List.getD_eq_getElem?_getD, List.getElem?_append]
  split <;> simp [List.getD_eq_getElem?_getD]
/-- node i out, its kids in its place -/
def Oc.del (xs : Tr) (i : Nat) : Tr := (Tr.sh xs 0 i 0 ++ Tr.sh xs (i + 1) (Tr.endN xs i) (-1)) ++ Tr.sh xs (Tr.endN xs i) xs.length 0
/-- a node below i at place f, those up to t below it -/
def Oc.ins (xs : Tr) (i : Nat) (a : Int) (f t : Nat) : Tr := ((Tr.sh xs 0 f 0 ++ [(a, Tr.d xs i + 1)]) ++ Tr.sh xs f t 1) ++ Tr.sh xs t xs.length 0
def Oc.rel (xs : Tr) (i : Nat) (a : Int) : Tr := xs.set i (a, Tr.d xs i)
section
variable {xs : Tr} {i f t k : Nat} {a : Int}
theorem Oc.del_len (hi : i < xs.length) : (Oc.del xs i).length = xs.length - 1 := by
  obtain ⟨h1, h2, _⟩ := Tr.endN_spec xs i hi
  simp only [Oc.del, List.length_append, Tr.sh_len]
  omega
theorem Oc.del_l (hi : i < xs.length) (hk : k < xs.length - 1) : Tr.l (Oc.del xs i) k = if k < i then Tr.l xs k else Tr.l xs (k + 1) := by
  obtain ⟨h1, h2, _⟩ := Tr.endN_spec xs i hi
  unfold Oc.del
  rw [Tr.l_app, Tr.l_app]
  simp only [List.length_append, Tr.sh_len]
  by_cases c1 : k < i
  · rw [if_pos (by omega), if_pos (by omega), if_pos c1, Tr.sh_l (by omega)]
    congr 1; omega
  · rw [if_neg c1]
    by_cases c2 : k + 1 < Tr.endN xs i
    · rw [if_pos (by omega), if_neg (by omega), Tr.sh_l (by omega)]
      congr 1; omega
    · rw [if_neg (by omega), Tr.sh_l (by omega)]
      congr 1; omega
theorem Oc.del_d (hi : i < xs.length) (hk : k < xs.length - 1) : Tr.d (Oc.del xs i) k = if k < i then Tr.d xs k else if k + 1 < Tr.endN xs i then Tr.d xs (k + 1) - 1 else Tr.d xs (k + 1) := by
  obtain ⟨h1, h2, _⟩ := Tr.endN_spec xs i hi
  unfold Oc.del
  rw [Tr.d_app, Tr.d_app]
  simp only [List.length_append, Tr.sh_len]
  by_cases c1 : k < i
  · rw [if_pos (by omega), if_pos (by omega), if_pos c1, Tr.sh_d (by omega), Int.add_zero]
    congr 1; omega
  · rw [if_neg c1]
    by_cases c2 : k + 1 < Tr.endN xs i
    · rw [if_pos (by omega), if_neg (by omega), if_pos c2, Tr.sh_d (by omega), show i + 1 + (k - (i - 0)) = k + 1 by omega]
      omega
    · rw [if_neg (by omega), if_neg c2, Tr.sh_d (by omega), Int.add_zero]
      congr 1; omega
theorem Oc.ins_len (hft : f ≤ t) (ht : t ≤ xs.length) : (Oc.ins xs i a f t).length = xs.length + 1 := by
  simp only [Oc.ins, List.length_append, Tr.sh_len, List.length_singleton]
  omega
theorem Oc.ins_l (hft : f ≤ t) (ht : t ≤ xs.length) (hk : k < xs.length + 1) : Tr.l (Oc.ins xs i a f t) k = if k < f then Tr.l xs k else if k = f then a else Tr.l xs (k - 1) := by
  unfold Oc.ins
  rw [Tr.l_app, Tr.l_app, Tr.l_app]
  simp only [List.length_append, Tr.sh_len, List.length_singleton]
  by_cases c1 : k < f
  · rw [if_pos (by omega), if_pos (by omega), if_pos (by omega), if_pos c1, Tr.sh_l (by omega)]
    congr 1; omega
  · rw [if_neg c1]
    by_cases c2 : k = f
    · subst c2
      rw [if_pos (by omega), if_pos (by omega), if_neg (by omega), if_pos rfl]
      simp [Tr.l]
    · rw [if_neg c2]
      by_cases c3 : k ≤ t
      · rw [if_pos (by omega), if_neg (by omega), Tr.sh_l (by omega)]
        congr 1; omega
      · rw [if_neg (by omega), Tr.sh_l (by omega)]
        congr 1; omega
theorem Oc.ins_d (hft : f ≤ t) (ht : t ≤ xs.length) (hk : k < xs.length + 1) : Tr.d (Oc.ins xs i a f t) k = if k < f then Tr.d xs k else if k = f then Tr.d xs i + 1 else if k ≤ t then Tr.d xs (k - 1) + 1 else Tr.d xs (k - 1) := by
  unfold Oc.ins
  rw [Tr.d_app, Tr.d_app, Tr.d_app]
  simp only [List.length_append, Tr.sh_len, List.length_singleton]
  by_cases c1 : k < f
  · rw [if_pos (by omega), if_pos (by omega), if_pos (by omega), if_pos c1, Tr.sh_d (by omega), Int.add_zero]
    congr 1; omega
  · rw [if_neg c1]
    by_cases c2 : k = f
    · subst c2
      rw [if_pos (by omega), if_pos (by omega), if_neg (by omega), if_pos rfl]
      simp [Tr.d]
    · rw [if_neg c2]
      by_cases c3 : k ≤ t
      · rw [if_pos (by omega), if_neg (by omega), if_pos c3, Tr.sh_d (by omega)]
        congr 2; omega
      · rw [if_neg (by omega), if_neg c3, Tr.sh_d (by omega), Int.add_zero]
        congr 1; omega
end
/-! the places between kids -/
/-- where the q-th kid of i begins, or where i ends -/
def Tr.cut (xs : Tr) (i q : Nat) : Nat := (Tr.kidsTo xs i (Tr.endN xs i) ++ [Tr.endN xs i]).getD q 0
section
variable {xs : Tr} (hok : Tr.ok xs = true) {i : Nat} (hi : i < xs.length)
include hok hi
theorem Tr.cut_bound : ∀ q, q ≤ (Tr.kidsTo xs i (Tr.endN xs i)).length → Tr.bound xs i (Tr.cut xs i q) ∧ (Tr.kidsTo xs i (Tr.cut xs i q)).length = q ∧ (q < (Tr.kidsTo xs i (Tr.endN xs i)).length → Tr.cut xs i q < Tr.endN xs i ∧ (Tr.kidsTo xs i (Tr.endN xs i)).getD q 0 = Tr.cut xs i q) := by
  have key : ∀ q, q ≤ (Tr.kidsTo xs i (Tr.endN xs i)).length → ∃ b, Tr.bound xs i b ∧ (Tr.kidsTo xs i b).length = q := fun q => by
    induction q with
    | zero => exact fun _ => ⟨i + 1, Tr.bound_start hok hi, by rw [Tr.kidsTo_start]; rfl⟩
    | succ q ih =>
      intro h
      obtain ⟨b, hb, hq⟩ := ih (by omega)
      obtain ⟨_, _, _, _, _, h1, h2, _⟩ := Tr.kid_round hok hi hb hq (by omega)
      exact ⟨_, h1, h2⟩
  intro q hq
  obtain ⟨b, hb, hl⟩ := key q hq
  rcases Nat.lt_or_ge q (Tr.kidsTo xs i (Tr.endN xs i)).length with h | h
  · have hbe : b < Tr.endN xs i := by
      have := hb.2.1
      by_cases e : b = Tr.endN xs i
      · rw [e] at hl; omega
      · omega
    obtain ⟨r, hr⟩ := Tr.kid_next hok hi hb hbe
    have e1 : (Tr.kidsTo xs i (Tr.endN xs i)).getD q 0 = b := by
      rw [hr, ← hl]
      simp [List.getD_eq_getElem?_getD]
    have e : Tr.cut xs i q = b := by
      unfold Tr.cut
      rw [List.getD_eq_getElem?_getD, List.getElem?_append_left h, ← List.getD_eq_getElem?_getD, e1]
    rw [e]
    exact ⟨hb, hl, fun _ => ⟨hbe, e1⟩⟩
  · have e : Tr.cut xs i q = Tr.endN xs i := by
      unfold Tr.cut
      rw [List.getD_eq_getElem?_getD, List.getElem?_append_right h, show q - (Tr.kidsTo xs i (Tr.endN xs i)).length = 0 by omega]
      rfl
    have hbl := Tr.kid_last hok hi hb hl (by omega)
    rw [e]
    rw [hbl] at hb hl
    exact ⟨hb, hl, fun h' => by omega⟩
theorem Tr.cut_mono {q r : Nat} (hqr : q ≤ r) (hr : r ≤ (Tr.kidsTo xs i (Tr.endN xs i)).length) : Tr.cut xs i q ≤ Tr.cut xs i r := by
  obtain ⟨a1, a2, _⟩ := Tr.cut_bound hok hi q (by omega)
  obtain ⟨b1, b2, _⟩ := Tr.cut_bound hok hi r hr
  by_cases c : Tr.cut xs i q ≤ Tr.cut xs i r
  · exact c
  · exfalso
    obtain ⟨s, hs⟩ := Tr.kidsTo_more xs i (Tr.cut xs i r) (Tr.cut xs i q) (by omega)
    have hlen : (Tr.kidsTo xs i (Tr.cut xs i q)).length = (Tr.kidsTo xs i (Tr.cut xs i r)).length + s.length := by rw [hs, List.length_append]
    have hqr' : q = r := by omega
    rw [hqr'] at c
    exact c (Nat.le_refl _)
end
/-! valid trees stay valid -/
theorem Oc.ok_of {ys : Tr} (h1 : 1 ≤ ys.length) (h2 : ys.length ≤ 24) (h : ∀ k, k < ys.length → (0 ≤ Tr.l ys k ∧ Tr.l ys k ≤ 5) ∧ (0 ≤ Tr.d ys k ∧ Tr.d ys k ≤ 12) ∧ (Tr.d ys k = 0 ↔ k = 0) ∧ (k = 0 ∨ Tr.d ys k ≤ Tr.d ys (k - 1) + 1)) : Tr.ok ys = true :=
  Tr.ok_iff.2 ⟨fun j hj => by simpa [Tr.okAt] using h j hj, h1, h2⟩
section
variable {xs : Tr} (hok : Tr.ok xs = true) {i f t : Nat} {a : Int} (hi : i < xs.length)
include hok hi
theorem Oc.del_ok (h0 : 0 < i) : Tr.ok (Oc.del xs i) = true := by
  have n := Tr.len24 hok
  obtain ⟨e1, e2, e3, e4⟩ := Tr.endN_spec xs i hi
  refine Oc.ok_of (by rw [Oc.del_len hi]; omega) (by rw [Oc.del_len hi]; omega) (fun k hk => ?_)
  rw [Oc.del_len hi] at hk
  have oi := Tr.ok_at hok hi
  rw [Oc.del_l hi hk, Oc.del_d hi hk]
  by_cases c1 : k < i
  · have o := Tr.ok_at hok (show k < xs.length by omega)
    rw [if_pos c1, if_pos c1]
    refine ⟨o.1, o.2.1, o.2.2.1, ?_⟩
    rcases Nat.eq_zero_or_pos k with h | h
    · exact .inl h
    · rw [Oc.del_d hi (by omega), if_pos (by omega)]
      exact o.2.2.2
  · have o := Tr.ok_at hok (show k + 1 < xs.length by omega)
    rw [if_neg c1, if_neg c1]
    have o3 := o.2.2.2.resolve_left (by omega)
    rw [show k + 1 - 1 = k by omega] at o3
    have z1 : Tr.d xs (k + 1) ≠ 0 := fun e => by have := o.2.2.1.1 e; omega
    have zi : Tr.d xs i ≠ 0 := fun e => by have := oi.2.2.1.1 e; omega
    have pr : k = 0 ∨ Tr.d (Oc.del xs i) (k - 1) = if k - 1 < i then Tr.d xs (k - 1) else if k < Tr.endN xs i then Tr.d xs k - 1 else Tr.d xs k := by
      rcases Nat.eq_zero_or_pos k with h | h
      · exact .inl h
      · refine .inr ?_
        rw [Oc.del_d hi (by omega), show k - 1 + 1 = k by omega]
    by_cases c2 : k + 1 < Tr.endN xs i
    · have d1 := e3 (k + 1) (by omega) c2
      rw [if_pos c2]
      refine ⟨o.1, by omega, by omega, .inr ?_⟩
      rw [pr.resolve_left (by omega)]
      by_cases c3 : k = i
      · subst c3
        rw [if_pos (by omega)]
        have := oi.2.2.2.resolve_left (by omega)
        omega
      · rw [if_neg (by omega), if_pos (by omega)]
        omega
    · rw [if_neg c2]
      refine ⟨o.1, by omega, by omega, .inr ?_⟩
      rw [pr.resolve_left (by omega)]
      by_cases c3 : k = i
      · subst c3
        rw [if_pos (by omega)]
        have := oi.2.2.2.resolve_left (by omega)
        have hee : Tr.endN xs k = k + 1 := by omega
        rw [hee] at e4
        have := e4.resolve_left (by omega)
        omega
      · rw [if_neg (by omega)]
        by_cases c4 : k < Tr.endN xs i
        · rw [if_pos c4]
          have hee : Tr.endN xs i = k + 1 := by omega
          rw [hee] at e4
          have := e4.resolve_left (by omega)
          have := e3 k (by omega) (by omega)
          omega
        · rw [if_neg c4]
          exact o3
end

end Go.Proofs.Ytgkkeejhfofcaaa

/- Contracts (Com). -/
namespace Go.Proofs.Ytgkkeejhfofcaaa
open Go.RowKit
set_option linter.unusedVariables false

/-- where b leads, by the first k pairs -/
def Cp.out (ns : Tr) (b : Int) : Nat → List Int
  | 0 => []
  | k + 1 => if b = Tr.l ns k then Cp.out ns b k ++ [Tr.d ns k] else Cp.out ns b k
/-- the pairs of a by way of b -/
def Cp.row (a : Int) (zs : List Int) : Tr := zs.map fun z => (a, z)
def Cp.to (ms ns : Tr) : Nat → Tr
  | 0 => []
  | i + 1 => Cp.to ms ns i ++ Cp.row (Tr.l ms i) (Cp.out ns (Tr.d ms i) ns.length)
def Cp.all (ms ns : Tr) : Tr := Cp.to ms ns ms.length
theorem Cp.out_len (ns : Tr) (b : Int) : ∀ k, (Cp.out ns b k).length ≤ k
  | 0 => Nat.le_refl _
  | k + 1 => by
    have h := Cp.out_len ns b k
    unfold Cp.out
    split
    · rw [List.length_append, List.length_singleton]; omega
    · omega
theorem Cp.row_len (a : Int) (zs : List Int) : (Cp.row a zs).length = zs.length := by simp [Cp.row]
theorem Cp.out_yes {ns : Tr} {b : Int} {k : Nat} (h : b = Tr.l ns k) : Cp.out ns b (k + 1) = Cp.out ns b k ++ [Tr.d ns k] := by rw [Cp.out, if_pos h]
theorem Cp.out_no {ns : Tr} {b : Int} {k : Nat} (h : ¬ b = Tr.l ns k) : Cp.out ns b (k + 1) = Cp.out ns b k := by rw [Cp.out, if_neg h]
theorem Cp.to_len (ms ns : Tr) : ∀ i, (Cp.to ms ns i).length ≤ i * ns.length
  | 0 => by simp [Cp.to]
  | i + 1 => by
    have h := Cp.to_len ms ns i
    have h2 := Cp.out_len ns (Tr.d ms i) ns.length
    rw [Cp.to, List.length_append, Cp.row_len, Nat.succ_mul]
    omega
open Go.RowKit in
/-- one pair appended to a row of one's own, however long -/
theorem step_append_pair {P : Program} {ops : Array Oper} {o : Oper} {a : Act} (w : World) {K : Act → World → Prop} {Q : Exit → Act → World → Prop} {E : Prop} (hgd : o.guard = none) (s x : Operand) (t : TypeId)
    (ho : o.op = .call { callee := .builtin .append, args := #[s, x], argTypes := #[t, t] })
    (base : Nat) (e : TypeId) (i : TypeInfo) (ht : P.underlying t = some (.slice e)) (hi : P.info? e = some i) (hz : i.zero = some (.agg #[.int .i64 0, .int .i64 0]))
    (hsize : i.size = 2) (hby : i.bytes = 16) (v : Value) (n : Nat) (l : Tr) (hs : a.eval s = v) (hown : w.ownsRow base e 2 v n (Tr.cells l)) (hn : n = l.length)
    (b1 b2 : Int) (hx : a.eval x = .slice (some ⟨w.heap.size, 0, none⟩) 1 1)
    (h63 : l.length + 1 ≤ 4398046511104) (hbase : base ≤ w.heap.size)
    (h : ∀ v' w', w'.ownsRow base e 2 v' (l ++ [(b1, b2)]).length (Tr.cells (l ++ [(b1, b2)])) → (w.alloc (.cells #[.int .i64 b1, .int .i64 b2] e)).grownBy w' v.ownBlock → K (a.put o.dst v') w') :
    if Region.wanted o (yielded ops a.tmps) = true then Oper.wp P o a (w.alloc (.cells #[.int .i64 b1, .int .i64 b2] e)) K Q else E := by
  have hw : Region.wanted o (yielded ops a.tmps) = true := by simp [Region.wanted, hgd]
  rw [if_pos hw]
  subst hn
  refine wp_append_own _ s x t ho base e i (.agg #[.int .i64 0, .int .i64 0]) 2 16 ht hi hz hsize hby rfl (by decide) v l.length (Tr.cells l) hs (hown.alloc _) ⟨w.heap.size, 0, none⟩ 1 1 (Tr.cells [(b1, b2)]) hx (by simp [Tr.cells]) ?_ (Tr.cells_cell _) (by unfold maxLen; omega) (by omega) (by simp; omega) ?_
  · intro j u hj
    have hj2 : j < 2 := by
      have := (List.getElem?_eq_some_iff.1 hj).1
      simpa [Tr.cells] using this
    have : j = 0 ∨ j = 1 := by omega
    rcases this with rfl | rfl <;> (simp [Tr.cells] at hj; subst hj; simp [Addr.add])
  · intro v' w' h2 h3 _
    refine h v' w' ?_ h3
    rw [Tr.cells_append, List.length_append]
    exact h2

end Go.Proofs.Ytgkkeejhfofcaaa

/- Contracts (Bm). -/
namespace Go.Proofs.Ytgkkeejhfofcaaa
open Go.RowKit
set_option linter.unusedVariables false

/-- pairs of a mapping of least cost between two ranges of places; cmb lays a pair beside what stands ahead of it and below it -/
def Bm.go (cmb : Tr → Nat → Nat → Tr → Tr) (xs ys : Tr) (k : Co) (i j p q : Nat) : Tr :=
  if j ≤ i ∨ q ≤ p then []
  else if RR xs ys k i j p q = RR xs ys k i (j - 1) p q + Co.del k (Tr.xa xs (j - 1)) then Bm.go cmb xs ys k i (j - 1) p q
  else if RR xs ys k i j p q = RR xs ys k i j p (q - 1) + Co.ins k (Tr.xa ys (q - 1)) then Bm.go cmb xs ys k i j p (q - 1)
  else cmb (Bm.go cmb xs ys k i (min (j - 1) (max i (Tr.la xs (j - 1)))) p (min (q - 1) (max p (Tr.la ys (q - 1))))) (j - 1) (q - 1)
    (Bm.go cmb xs ys k (min (j - 1) (max i (Tr.la xs (j - 1)))) (j - 1) (min (q - 1) (max p (Tr.la ys (q - 1)))) (q - 1))
termination_by (j - i) + (q - p)
decreasing_by all_goals omega
/-- the last ones of both together -/
def Bm.mt (cmb : Tr → Nat → Nat → Tr → Tr) (xs ys : Tr) (k : Co) (i j p q : Nat) : Tr :=
  cmb (Bm.go cmb xs ys k i (max i (Tr.la xs (j - 1))) p (max p (Tr.la ys (q - 1)))) (j - 1) (q - 1)
    (Bm.go cmb xs ys k (max i (Tr.la xs (j - 1))) (j - 1) (max p (Tr.la ys (q - 1))) (q - 1))
/-- the node at a place -/
def Tr.nd (xs : Tr) (u : Nat) : Nat := (Tr.post xs).getD u 0
/-- the model's order: by places, the pair last -/
def Bm.cS (a : Tr) (u v : Nat) (b : Tr) : Tr := a ++ b ++ [((u : Int), (v : Int))]
/-- the program's order: nodes, the pair between -/
def Bm.cP (xs ys : Tr) (a : Tr) (u v : Nat) (b : Tr) : Tr := a ++ [((Tr.nd xs u : Int), (Tr.nd ys v : Int))] ++ b
section
variable {cmb : Tr → Nat → Nat → Tr → Tr} {xs ys : Tr} {k : Co} {i j p q : Nat}
theorem Bm.go_none (h : j ≤ i ∨ q ≤ p) : Bm.go cmb xs ys k i j p q = [] := by rw [Bm.go, if_pos h]
theorem Bm.go_del (h1 : i < j) (h2 : p < q) (h : RR xs ys k i j p q = RR xs ys k i (j - 1) p q + Co.del k (Tr.xa xs (j - 1))) : Bm.go cmb xs ys k i j p q = Bm.go cmb xs ys k i (j - 1) p q := by
  rw [Bm.go, if_neg (by omega), if_pos h]
theorem Bm.go_ins (h1 : i < j) (h2 : p < q) (h : ¬ RR xs ys k i j p q = RR xs ys k i (j - 1) p q + Co.del k (Tr.xa xs (j - 1))) (h' : RR xs ys k i j p q = RR xs ys k i j p (q - 1) + Co.ins k (Tr.xa ys (q - 1))) : Bm.go cmb xs ys k i j p q = Bm.go cmb xs ys k i j p (q - 1) := by
  rw [Bm.go, if_neg (by omega), if_neg h, if_pos h']
theorem Bm.go_both (hx : Tr.ok xs = true) (hy : Tr.ok ys = true) (h1 : i < j) (h2 : p < q) (hj : j ≤ xs.length) (hq : q ≤ ys.length) (h : ¬ RR xs ys k i j p q = RR xs ys k i (j - 1) p q + Co.del k (Tr.xa xs (j - 1))) (h' : ¬ RR xs ys k i j p q = RR xs ys k i j p (q - 1) + Co.ins k (Tr.xa ys (q - 1))) :
    Bm.go cmb xs ys k i j p q = Bm.mt cmb xs ys k i j p q := by
  have a := (Tr.la_nest hx (j - 1) (by omega)).1
  have b := (Tr.la_nest hy (q - 1) (by omega)).1
  rw [Bm.go, if_neg (by omega), if_neg h, if_neg h', show min (j - 1) (max i (Tr.la xs (j - 1))) = max i (Tr.la xs (j - 1)) by omega, show min (q - 1) (max p (Tr.la ys (q - 1))) = max p (Tr.la ys (q - 1)) by omega]
  rfl
/-- what holds of each step holds of the whole -/
theorem Bm.go_ind {M : Nat → Nat → Nat → Nat → Tr → Prop} (hx : Tr.ok xs = true) (hy : Tr.ok ys = true)
    (h0 : ∀ i j p q, j ≤ i ∨ q ≤ p → M i j p q [])
    (h1 : ∀ i j p q L, i < j → p < q → j ≤ xs.length → q ≤ ys.length → RR xs ys k i j p q = RR xs ys k i (j - 1) p q + Co.del k (Tr.xa xs (j - 1)) → M i (j - 1) p q L → M i j p q L)
    (h2 : ∀ i j p q L, i < j → p < q → j ≤ xs.length → q ≤ ys.length → ¬ RR xs ys k i j p q = RR xs ys k i (j - 1) p q + Co.del k (Tr.xa xs (j - 1)) → RR xs ys k i j p q = RR xs ys k i j p (q - 1) + Co.ins k (Tr.xa ys (q - 1)) → M i j p (q - 1) L → M i j p q L)
    (h3 : ∀ i j p q P Q A B, i < j → p < q → j ≤ xs.length → q ≤ ys.length → P = max i (Tr.la xs (j - 1)) → Q = max p (Tr.la ys (q - 1)) → P ≤ j - 1 → Q ≤ q - 1 → ¬ RR xs ys k i j p q = RR xs ys k i (j - 1) p q + Co.del k (Tr.xa xs (j - 1)) → ¬ RR xs ys k i j p q = RR xs ys k i j p (q - 1) + Co.ins k (Tr.xa ys (q - 1)) → RR xs ys k i j p q = RR xs ys k i P p Q + RR xs ys k P (j - 1) Q (q - 1) + Co.rel k (Tr.xa xs (j - 1)) (Tr.xa ys (q - 1)) →
      M i P p Q A → M P (j - 1) Q (q - 1) B → M i j p q (cmb A (j - 1) (q - 1) B)) :
    ∀ (s i j p q : Nat), (j - i) + (q - p) < s → j ≤ xs.length → q ≤ ys.length → M i j p q (Bm.go cmb xs ys k i j p q) := by
  intro s
  induction s with
  | zero => intro i j p q h; omega
  | succ s ih =>
    intro i j p q hs hj hq
    by_cases e : j ≤ i ∨ q ≤ p
    · rw [Bm.go_none e]; exact h0 i j p q e
    · by_cases a : RR xs ys k i j p q = RR xs ys k i (j - 1) p q + Co.del k (Tr.xa xs (j - 1))
      · rw [Bm.go_del (by omega) (by omega) a]; exact h1 i j p q _ (by omega) (by omega) hj hq a (ih i (j - 1) p q (by omega) (by omega) hq)
      · by_cases b : RR xs ys k i j p q = RR xs ys k i j p (q - 1) + Co.ins k (Tr.xa ys (q - 1))
        · rw [Bm.go_ins (by omega) (by omega) a b]; exact h2 i j p q _ (by omega) (by omega) hj hq a b (ih i j p (q - 1) (by omega) hj (by omega))
        · have la1 := (Tr.la_nest hx (j - 1) (by omega)).1
          have lb1 := (Tr.la_nest hy (q - 1) (by omega)).1
          rw [Bm.go_both hx hy (by omega) (by omega) hj hq a b]
          refine h3 i j p q _ _ _ _ (by omega) (by omega) hj hq rfl rfl (by omega) (by omega) a b ?_ (ih _ _ _ _ (by omega) (by omega) (by omega)) (ih _ _ _ _ (by omega) (by omega) (by omega))
          have := RD_both (K := Co.cs k) (x := Tr.xa xs) (y := Tr.xa ys) (Tr.la_nest hx) (Tr.la_nest hy) (i := i) (j := j - 1) (k := p) (l := q - 1) (by omega) (by omega) (by omega) (by omega)
          rw [show j - 1 + 1 = j by omega, show q - 1 + 1 = q by omega] at this
          have t : RR xs ys k i j p q = min (min (RR xs ys k i (j - 1) p q + Co.del k (Tr.xa xs (j - 1))) (RR xs ys k i j p (q - 1) + Co.ins k (Tr.xa ys (q - 1)))) (RR xs ys k i (max i (Tr.la xs (j - 1))) p (max p (Tr.la ys (q - 1))) + RR xs ys k (max i (Tr.la xs (j - 1))) (j - 1) (max p (Tr.la ys (q - 1))) (q - 1) + Co.rel k (Tr.xa xs (j - 1)) (Tr.xa ys (q - 1))) := this
          omega
end
section
variable {xs : Tr} (hok : Tr.ok xs = true)
include hok
theorem Tr.nd_at {u : Nat} (hu : u < xs.length) : Tr.nd xs u < xs.length ∧ Tr.rk xs (Tr.nd xs u) = u ∧ Tr.la xs u = Tr.nd xs u - Tr.dn xs (Tr.nd xs u) ∧ Tr.xa xs u = Tr.l xs (Tr.nd xs u) := by
  obtain ⟨i, h1, h2, h3, h4, h5⟩ := Tr.la_at hok hu
  have : Tr.nd xs u = i := by unfold Tr.nd; rw [List.getD_eq_getElem?_getD, h5]; rfl
  rw [this]
  exact ⟨h1, h2, h3, h4⟩
theorem Tr.nd_rk {i : Nat} (hi : i < xs.length) : Tr.nd xs (Tr.rk xs i) = i := by
  unfold Tr.nd; rw [List.getD_eq_getElem?_getD, Tr.post_rk hok hi]; rfl
/-- ahead of v's first leaf: ahead of v -/
theorem Tr.nd_ahead {u v : Nat} (hv : v < xs.length) (h : u < Tr.la xs v) : Tr.nd xs u < Tr.nd xs v := by
  have l1 := (Tr.la_nest hok v hv).1
  obtain ⟨a1, a2, a3, _⟩ := Tr.nd_at hok (u := u) (by omega)
  obtain ⟨b1, b2, b3, _⟩ := Tr.nd_at hok hv
  rcases Nat.lt_or_ge (Tr.nd xs u) (Tr.nd xs v) with c | c
  · exact c
  · have := Tr.rk_ge hok c a1
    omega
/-- from v's first leaf on: below v -/
theorem Tr.nd_below {u v : Nat} (hv : v < xs.length) (h : Tr.la xs v ≤ u) (huv : u < v) : Tr.nd xs v < Tr.nd xs u ∧ Tr.nd xs u < Tr.endN xs (Tr.nd xs v) := by
  obtain ⟨a1, a2, a3, _⟩ := Tr.nd_at hok (u := u) (by omega)
  obtain ⟨b1, b2, b3, _⟩ := Tr.nd_at hok hv
  have d1 := Tr.dn_le hok a1
  have hlt : Tr.nd xs v < Tr.nd xs u := by
    rcases Nat.lt_trichotomy (Tr.nd xs u) (Tr.nd xs v) with c | c | c
    · by_cases hu : Tr.nd xs v < Tr.endN xs (Tr.nd xs u)
      · have := Tr.rk_under hok a1 c hu; omega
      · have g := Tr.gap_mono hok (i := Tr.endN xs (Tr.nd xs u)) (j := Tr.nd xs v) (by omega) b1
        have e := Tr.endN_dn hok a1
        have r : Tr.rk xs (Tr.nd xs u) = Tr.endN xs (Tr.nd xs u) - 1 - Tr.dn xs (Tr.nd xs u) := rfl
        rcases e.2.2.2 with f | ⟨f1, f2⟩
        · omega
        · omega
    · rw [c] at a2; omega
    · exact c
  refine ⟨hlt, ?_⟩
  rcases Nat.lt_or_ge (Tr.nd xs u) (Tr.endN xs (Tr.nd xs v)) with c | c
  · exact c
  · have := Tr.rk_left hok b1 c a1; omega
theorem Tr.nd_not {u v : Nat} (huv : u ≤ v) (hv : v < xs.length) : Tr.under xs (Tr.nd xs u : Int) (Tr.nd xs v : Int) = false := by
  obtain ⟨a1, a2, a3, _⟩ := Tr.nd_at hok (u := u) (by omega)
  obtain ⟨b1, b2, b3, _⟩ := Tr.nd_at hok hv
  cases e : Tr.under xs (Tr.nd xs u : Int) (Tr.nd xs v : Int) with
  | false => rfl
  | true =>
    simp only [Tr.under, Bool.and_eq_true, decide_eq_true_eq] at e
    obtain ⟨⟨⟨e1, e2⟩, e3⟩, e4⟩ := e
    rw [Tr.endOf_yes e1] at e4
    have := Tr.rk_under hok a1 (by omega) (show Tr.nd xs v < Tr.endN xs (Tr.nd xs u) by omega)
    omega
theorem Tr.has_nd {u : Nat} (hu : u < xs.length) : Tr.has xs (Tr.nd xs u : Int) = true := by
  have := (Tr.nd_at hok hu).1
  rw [Tr.has_iff]
  exact ⟨hok, by omega, by omega⟩
theorem Tr.nd_yes {u v : Nat} (hv : v < xs.length) (h : Tr.la xs v ≤ u) (huv : u < v) : Tr.under xs (Tr.nd xs v : Int) (Tr.nd xs u : Int) = true := by
  obtain ⟨c1, c2⟩ := Tr.nd_below hok hv h huv
  unfold Tr.under
  rw [Tr.has_nd hok hv, Tr.has_nd hok (show u < xs.length by omega), Tr.endOf_yes (Tr.has_nd hok hv), decide_eq_true (by omega), decide_eq_true (by omega)]
  rfl
end

end Go.Proofs.Ytgkkeejhfofcaaa
