/- Texts of one claim laid into one file, in build order: Bm4, UniM, SwpM, BthM, CmM. -/
import Derived.Test.YtofpcedpmbecgaaHh10
import Derived.Test.YtofpcedpmbecgaaHh6
import Derived.Test.YtofpcedpmbecgaaHh7
import Derived.Test.YtofpcedpmbecgaaHh8
/- Contracts (Bm4). -/
namespace Go.Proofs.Ytofpcedpmbecgaa
open Go.RowKit
set_option linter.unusedVariables false

section
variable {xs ys : Tr} {k : Co}
theorem pr_at (L : Tr) {i : Nat} (h : i < L.length) : L[i] = (Tr.l L i, Tr.d L i) := by simp [Tr.l, Tr.d, List.getD_eq_getElem?_getD, h]
/-- pairs in order are a valid mapping -/
theorem Bm.ok_of {L : Tr} (hx : Tr.ok xs = true) (hy : Tr.ok ys = true) (h : L.Pairwise (Bm.R xs ys)) (hin : ∀ e ∈ L, Bm.inn xs ys 0 xs.length 0 ys.length e) : Mp.ok xs ys L = true := by
  rw [Mp.ok_yes, hx, hy]
  · rfl
  · intro i hi
    have e1 := pr_at L hi
    obtain ⟨u, v, e2, _, hu, _, hv⟩ := hin L[i] (List.getElem_mem hi)
    rw [e1] at e2
    injection e2 with e3 e4
    refine Mp.okAt_yes (by rw [e3]; exact Tr.has_nd hx hu) (by rw [e4]; exact Tr.has_nd hy hv) (fun m hm => ?_)
    have r := List.pairwise_iff_getElem.1 h m i (by omega) hi hm
    rw [e1, pr_at L (show m < L.length by omega)] at r
    exact Mp.at_yes r.1 r.2.1 r.2.2
/-- what a pair takes off -/
def Bm.w (xs ys : Tr) (k : Co) (e : Int × Int) : Int := Co.rel k (Tr.l xs e.1.toNat) (Tr.l ys e.2.toNat) - Co.del k (Tr.l xs e.1.toNat) - Co.ins k (Tr.l ys e.2.toNat)
def Bm.ws (xs ys : Tr) (k : Co) : Tr → Int
  | [] => 0
  | e :: L => Bm.w xs ys k e + Bm.ws xs ys k L
theorem Bm.ws_app (A B : Tr) : Bm.ws xs ys k (A ++ B) = Bm.ws xs ys k A + Bm.ws xs ys k B := by
  induction A with
  | nil => simp [Bm.ws]
  | cons e A ih => rw [List.cons_append, Bm.ws, ih, Bm.ws]; omega
theorem Bm.part_ws {L : Tr} (h : Mp.ok xs ys L = true) : ∀ m, m ≤ L.length → Mp.part xs ys k L m = Mp.part xs ys k L 0 + Bm.ws xs ys k (L.take m)
  | 0, _ => by simp [Bm.ws]
  | m + 1, hm => by
    have ih := Bm.part_ws h m (by omega)
    have hk := (Mp.ok_all h).2.2 m (by omega)
    obtain ⟨a, b, _, _, ha, hb⟩ := Mp.pair_at hk
    rw [Mp.part_succ (by omega) hk ha hb, ih, List.take_add_one, List.getElem?_eq_getElem (show m < L.length by omega), pr_at L (show m < L.length by omega), ha, hb, Bm.ws_app]
    simp only [Option.toList_some, Bm.ws, Bm.w, Int.toNat_natCast]
    omega
/-- sums over an interval of places -/
def Bm.sx (xs : Tr) (f : Int → Int) (i j : Nat) : Int := Mp.sum (fun u => f (Tr.xa xs u)) j - Mp.sum (fun u => f (Tr.xa xs u)) i
theorem Bm.sx_self (f : Int → Int) (i : Nat) : Bm.sx xs f i i = 0 := by unfold Bm.sx; omega
theorem Bm.sx_succ (f : Int → Int) (i j : Nat) (h : 0 < j) : Bm.sx xs f i j = Bm.sx xs f i (j - 1) + f (Tr.xa xs (j - 1)) := by
  obtain ⟨m, rfl⟩ : ∃ m, j = m + 1 := ⟨j - 1, by omega⟩
  unfold Bm.sx
  simp only [Mp.sum, Nat.add_sub_cancel]
  omega
theorem Bm.sx_cat (f : Int → Int) (i m j : Nat) : Bm.sx xs f i j = Bm.sx xs f i m + Bm.sx xs f m j := by unfold Bm.sx; omega
theorem Bm.rr_del (hx : Tr.ok xs = true) {i p : Nat} : ∀ j, i ≤ j → j ≤ xs.length → RR xs ys k i j p p = Bm.sx xs (Co.del k) i j := by
  intro j
  induction j with
  | zero => intro h _; obtain rfl : i = 0 := by omega
            rw [Bm.sx_self]; exact RD_none (Nat.le_refl _) (Nat.le_refl _)
  | succ j ih =>
    intro h hj
    by_cases e : i = j + 1
    · subst e; rw [Bm.sx_self]; exact RD_none (Nat.le_refl _) (Nat.le_refl _)
    · have := RD_left (K := Co.cs k) (lb := Tr.la ys) (x := Tr.xa xs) (y := Tr.xa ys) (Tr.la_nest hx) (i := i) (j := j) (k := p) (l := p) (by omega) (by omega) (Nat.le_refl _)
      rw [Bm.sx_succ _ _ _ (by omega), Nat.add_sub_cancel, ← ih (by omega) (by omega)]
      exact this
theorem Bm.rr_ins (hy : Tr.ok ys = true) {i p : Nat} : ∀ q, p ≤ q → q ≤ ys.length → RR xs ys k i i p q = Bm.sx ys (Co.ins k) p q := by
  intro q
  induction q with
  | zero => intro h _; obtain rfl : p = 0 := by omega
            rw [Bm.sx_self]; exact RD_none (Nat.le_refl _) (Nat.le_refl _)
  | succ q ih =>
    intro h hj
    by_cases e : p = q + 1
    · subst e; rw [Bm.sx_self]; exact RD_none (Nat.le_refl _) (Nat.le_refl _)
    · have := RD_right (K := Co.cs k) (la := Tr.la xs) (x := Tr.xa xs) (y := Tr.xa ys) (Tr.la_nest hy) (i := i) (j := i) (k := p) (l := q) (Nat.le_refl _) (by omega) (by omega)
      rw [Bm.sx_succ _ _ _ (by omega), Nat.add_sub_cancel, ← ih (by omega) (by omega)]
      exact this
/-- sums over all nodes, by nodes and by places -/
theorem sum_add (f g : Nat → Int) : ∀ n, Mp.sum (fun i => f i + g i) n = Mp.sum f n + Mp.sum g n
  | 0 => rfl
  | n + 1 => by
    have := sum_add f g n
    simp only [Mp.sum]
    omega
theorem sum_zero : ∀ n, Mp.sum (fun _ => 0) n = 0
  | 0 => rfl
  | n + 1 => by have := sum_zero n; simp only [Mp.sum]; omega
theorem sum_swap (f : Nat → Nat → Int) (n : Nat) : ∀ m, Mp.sum (fun i => Mp.sum (fun j => f i j) m) n = Mp.sum (fun j => Mp.sum (fun i => f i j) n) m
  | 0 => by simp only [Mp.sum]; exact sum_zero n
  | m + 1 => by
    have := sum_swap f n m
    simp only [Mp.sum]
    rw [sum_add, this]
theorem sum_one (g : Nat → Int) (a : Nat) : ∀ n, Mp.sum (fun i => if i = a then g i else 0) n = if a < n then g a else 0
  | 0 => by simp [Mp.sum]
  | n + 1 => by
    have := sum_one g a n
    simp only [Mp.sum]
    rw [this]
    by_cases e : n = a
    · subst e; simp
    · rw [if_neg e]
      by_cases c : a < n
      · rw [if_pos c, if_pos (by omega)]; omega
      · rw [if_neg c, if_neg (by omega)]; omega
theorem sum_post (hx : Tr.ok xs = true) (f : Int → Int) : Mp.sum (fun i => f (Tr.l xs i)) xs.length = Mp.sum (fun u => f (Tr.xa xs u)) xs.length := by
  have e1 : Mp.sum (fun u => f (Tr.xa xs u)) xs.length = Mp.sum (fun u => Mp.sum (fun i => if i = Tr.nd xs u then f (Tr.l xs i) else 0) xs.length) xs.length := by
    refine Mp.sum_congr fun u hu => ?_
    obtain ⟨a, _, _, b⟩ := Tr.nd_at hx hu
    rw [sum_one (fun i => f (Tr.l xs i)), if_pos a, b]
  have e2 : Mp.sum (fun i => f (Tr.l xs i)) xs.length = Mp.sum (fun i => Mp.sum (fun u => if i = Tr.nd xs u then f (Tr.l xs i) else 0) xs.length) xs.length := by
    refine Mp.sum_congr fun i hi => ?_
    have hr := Tr.rk_lt hx hi
    have : ∀ u, u < xs.length → (if i = Tr.nd xs u then f (Tr.l xs i) else 0) = (if u = Tr.rk xs i then f (Tr.l xs i) else 0) := fun u hu => by
      by_cases e : i = Tr.nd xs u
      · rw [if_pos e, if_pos (by rw [e, (Tr.nd_at hx hu).2.1])]
      · rw [if_neg e, if_neg (fun h => e (by rw [h, Tr.nd_rk hx hi]))]
    rw [Mp.sum_congr this, sum_one (fun _ => f (Tr.l xs i)), if_pos hr]
  rw [e1, e2, sum_swap]
/-- nodes that belong to none, and those that do, are all -/
theorem Un.count {L : Tr} (h : L.Pairwise fun e e' => e.1 < e'.1) (h0 : ∀ e ∈ L, 0 ≤ e.1) : ∀ i, (Un.to L i).length + (L.filter fun e => decide (e.1 < (i : Int))).length = i
  | 0 => by
    rw [List.filter_eq_nil_iff.2 fun e he => by have := h0 e he; simp; omega]
    rfl
  | i + 1 => by
    have ih := Un.count h h0 i
    rw [← asc_split h i, List.length_append]
    cases hh : Un.has L (i : Int) L.length with
    | true =>
      rw [Un.to_yes hh]
      obtain ⟨q, hq, hl⟩ := (Un.has_iff _).1 hh
      have hm : L[q] ∈ (L.filter fun e => decide (e.1 = (i : Int))) := List.mem_filter.2 ⟨List.getElem_mem hq, by rw [pr_at L hq]; simpa using hl⟩
      rcases one_key h (i : Int) with hn | ⟨x, hx⟩
      · rw [hn] at hm; cases hm
      · rw [hx, List.length_singleton]; omega
    | false =>
      rw [Un.to_no hh, List.length_append, List.length_singleton]
      have : (L.filter fun e => decide (e.1 = (i : Int))) = [] := List.filter_eq_nil_iff.2 fun e he => by
        intro h2
        obtain ⟨q, hq, rfl⟩ := List.getElem_of_mem he
        rw [pr_at L hq] at h2
        have h3 := (Un.has_iff (ms := L) (a := (i : Int)) L.length).2 ⟨q, hq, by simpa using h2⟩
        rw [hh] at h3; cases h3
      rw [this]
      simp only [List.length_nil]
      omega
end

end Go.Proofs.Ytofpcedpmbecgaa

/- The distances of trees whose labels are valid, under costs that agree on those. -/
namespace Go.Proofs.Ytofpcedpmbecgaa
open Go.RowKit
set_option linter.unusedVariables false

def Fst.all (P : Int → Prop) : Fst → Prop
  | .nil => True
  | .snoc l a s => l.all P ∧ P a ∧ s.all P
/-! unit costs -/
theorem Co.unit_ok : Co.ok Co.unit = true := by decide
theorem Co.unit_dels : ∀ u : Nat, u < 6 → Co.del Co.unit u = 1 ∧ Co.ins Co.unit u = 1 := by decide
theorem Co.unit_rels : ∀ u : Nat, u < 6 → ∀ v : Nat, v < 6 → Co.rel Co.unit u v = if u = v then 0 else 1 := by decide
end Go.Proofs.Ytofpcedpmbecgaa

/- Contracts (SwpM). -/
namespace Go.Proofs.Ytofpcedpmbecgaa
open Go.RowKit
set_option linter.unusedVariables false

/-- costs with what goes and what comes exchanged -/
def Co.turn (k : Co) : Co := ⟨k.i, k.d, (List.range 36).map fun i => Zs.at k.r (i % 6 * 6 + i / 6)⟩
end Go.Proofs.Ytofpcedpmbecgaa

/- Contracts (BthM). -/
namespace Go.Proofs.Ytofpcedpmbecgaa
open Go.RowKit
set_option linter.unusedVariables false

def Tr.whole (xs : Tr) : Fst := fr (Tr.la xs) (Tr.xa xs) (Tr.la xs (xs.length - 1)) (xs.length - 1 + 1)
end Go.Proofs.Ytofpcedpmbecgaa

/- Contracts (CmM). -/
namespace Go.Proofs.Ytofpcedpmbecgaa
open Go.RowKit
set_option linter.unusedVariables false

section
variable {xs ys zs ms ns : Tr} {k : Co}
/-- valid, by pairs -/
theorem Mp.ok_iff : Mp.ok xs ys ms = true ↔ Tr.ok xs = true ∧ Tr.ok ys = true ∧ (∀ e ∈ ms, Tr.has xs e.1 = true ∧ Tr.has ys e.2 = true) ∧ ms.Pairwise (Bm.R xs ys) := by
  constructor
  · intro h
    obtain ⟨h1, h2, h3⟩ := Mp.ok_all h
    refine ⟨h1, h2, fun e he => ?_, ?_⟩
    · obtain ⟨q, hq, rfl⟩ := List.getElem_of_mem he
      obtain ⟨a, b, _⟩ := Mp.okAt_parts (h3 q hq)
      rw [pr_at ms hq]
      exact ⟨a, b⟩
    · refine List.pairwise_iff_getElem.2 fun i j hi hj hij => ?_
      obtain ⟨_, _, c⟩ := Mp.okAt_parts (h3 j hj)
      rw [pr_at ms hi, pr_at ms hj]
      exact c i hij
  · rintro ⟨h1, h2, h3, h4⟩
    rw [Mp.ok_yes, h1, h2]
    · rfl
    · intro i hi
      have e := h3 ms[i] (List.getElem_mem hi)
      rw [pr_at ms hi] at e
      refine Mp.okAt_yes e.1 e.2 (fun m hm => ?_)
      have r := List.pairwise_iff_getElem.1 h4 m i (by omega) hi hm
      rw [pr_at ms hi, pr_at ms (show m < ms.length by omega)] at r
      exact Mp.at_yes r.1 r.2.1 r.2.2
/-- where b leads: at most one place, if first places ascend -/
theorem Cp.out_mem {b z : Int} : ∀ m, z ∈ Cp.out ns b m ↔ ∃ q, q < m ∧ Tr.l ns q = b ∧ Tr.d ns q = z
  | 0 => by simp [Cp.out]
  | m + 1 => by
    have ih := Cp.out_mem (b := b) (z := z) m
    by_cases e : b = Tr.l ns m
    · rw [Cp.out_yes e, List.mem_append, ih, List.mem_singleton]
      constructor
      · rintro (⟨q, h1, h2, h3⟩ | h)
        · exact ⟨q, by omega, h2, h3⟩
        · exact ⟨m, by omega, e.symm, h.symm⟩
      · rintro ⟨q, h1, h2, h3⟩
        by_cases hq : q = m
        · subst hq; exact .inr h3.symm
        · exact .inl ⟨q, by omega, h2, h3⟩
    · rw [Cp.out_no e, ih]
      constructor
      · rintro ⟨q, h1, h2, h3⟩; exact ⟨q, by omega, h2, h3⟩
      · rintro ⟨q, h1, h2, h3⟩
        refine ⟨q, ?_, h2, h3⟩
        by_cases hq : q = m
        · subst hq; exact absurd h2.symm e
        · omega
theorem Cp.out_one {b : Int} (h : ns.Pairwise fun e e' => e.1 < e'.1) : ∀ m, m ≤ ns.length → (Cp.out ns b m).length ≤ 1
  | 0, _ => by simp [Cp.out]
  | m + 1, hm => by
    have ih := Cp.out_one (b := b) h m (by omega)
    by_cases e : b = Tr.l ns m
    · rw [Cp.out_yes e, List.length_append, List.length_singleton]
      have : Cp.out ns b m = [] := by
        refine List.eq_nil_iff_forall_not_mem.2 fun z hz => ?_
        obtain ⟨q, h1, h2, _⟩ := (Cp.out_mem m).1 hz
        have r := List.pairwise_iff_getElem.1 h q m (by omega) (by omega) h1
        rw [pr_at ns (show q < ns.length by omega), pr_at ns (show m < ns.length by omega)] at r
        simp only at r
        omega
      rw [this]; simp
    · rw [Cp.out_no e]; exact ih
/-- a mapping by way of its inverse leads back -/
theorem Cp.back (hm : ms.Pairwise (Bm.R xs ys)) : ∀ m, m ≤ ms.length → Cp.to ms (Tr.turn ms) m = (ms.take m).map fun e => (e.1, e.1)
  | 0, _ => by simp [Cp.to]
  | m + 1, h => by
    have ih := Cp.back hm m (by omega)
    have asc : (Tr.turn ms).Pairwise fun e e' => e.1 < e'.1 := by
      unfold Tr.turn
      rw [List.pairwise_map]
      exact hm.imp (fun h => h.2.1)
    have ho : Cp.out (Tr.turn ms) (Tr.d ms m) (Tr.turn ms).length = [Tr.l ms m] := by
      have hmem : Tr.l ms m ∈ Cp.out (Tr.turn ms) (Tr.d ms m) (Tr.turn ms).length := (Cp.out_mem _).2 ⟨m, by rw [Tr.turn_length]; omega, Tr.turn_l ms (by omega), Tr.turn_d ms (by omega)⟩
      have h1 := Cp.out_one (b := Tr.d ms m) asc _ (Nat.le_refl _)
      rcases hl : Cp.out (Tr.turn ms) (Tr.d ms m) (Tr.turn ms).length with _ | ⟨a, _ | ⟨b, r⟩⟩
      · rw [hl] at hmem; cases hmem
      · rw [hl] at hmem; rw [List.mem_singleton.1 hmem]
      · rw [hl] at h1; simp at h1
    rw [Cp.to, ih, ho, List.take_add_one, List.getElem?_eq_getElem (show m < ms.length by omega), pr_at ms (show m < ms.length by omega), List.map_append]
    rfl
end

end Go.Proofs.Ytofpcedpmbecgaa
