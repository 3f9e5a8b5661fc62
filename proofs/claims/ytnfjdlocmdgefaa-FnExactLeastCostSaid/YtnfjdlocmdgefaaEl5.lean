/- Texts of one claim laid into one file, in build order: Tur, Un, Bm4, UniM, SwpM, BthM, CmM, Lb, Am, Exu, UndS, MapS. -/
import Derived.Test.YtnfjdlocmdgefaaEl1
import Derived.Test.YtnfjdlocmdgefaaEl2
import Derived.Test.YtnfjdlocmdgefaaEl3
import Derived.Test.YtnfjdlocmdgefaaEl4
import Derived.Outline
import Derived.Test.YtnfjdlocmdgefaaRows
/- Contracts (Tur). -/
namespace Go.Proofs.Ytnfjdlocmdgefaa
open Go.RowKit
set_option linter.unusedVariables false

/-- the first pair is that of the roots -/
def Tr.rooted (xs : Tr) : Bool := decide (0 < xs.length) && (decide (Tr.l xs 0 = 0) && decide (Tr.d xs 0 = 0))
/-- each pair the other way round -/
def Tr.turn (xs : Tr) : Tr := xs.map (fun q => (q.2, q.1))
theorem Tr.turn_length (xs : Tr) : (Tr.turn xs).length = xs.length := by simp [Tr.turn]
theorem Tr.turn_l (xs : Tr) {k : Nat} (hk : k < xs.length) : Tr.l (Tr.turn xs) k = Tr.d xs k := by simp [Tr.turn, Tr.l, Tr.d, List.getD_eq_getElem?_getD, hk]
theorem Tr.turn_d (xs : Tr) {k : Nat} (hk : k < xs.length) : Tr.d (Tr.turn xs) k = Tr.l xs k := by simp [Tr.turn, Tr.l, Tr.d, List.getD_eq_getElem?_getD, hk]
end Go.Proofs.Ytnfjdlocmdgefaa

/- Contracts (Un). -/
namespace Go.Proofs.Ytnfjdlocmdgefaa
open Go.RowKit
set_option linter.unusedVariables false

/-- is a the first of one of the first k pairs? -/
def Un.has (ms : Tr) (a : Int) : Nat → Bool
  | 0 => false
  | k + 1 => Un.has ms a k || decide (Tr.l ms k = a)
/-- the places below i that are first of no pair -/
def Un.to (ms : Tr) : Nat → List Int
  | 0 => []
  | i + 1 => if Un.has ms (i : Int) ms.length = true then Un.to ms i else Un.to ms i ++ [(i : Int)]
theorem Un.has_up {ms : Tr} {a : Int} {k : Nat} (h : Un.has ms a k = true) : ∀ m, k ≤ m → Un.has ms a m = true := by
  intro m
  induction m with
  | zero => intro hk; obtain rfl : k = 0 := by omega
            exact h
  | succ m ih =>
    intro hk
    by_cases e : k = m + 1
    · rw [← e]; exact h
    · rw [Un.has, ih (by omega)]; rfl
theorem Un.has_hit {ms : Tr} {a : Int} {k m : Nat} (h : Tr.l ms k = a) (hk : k < m) : Un.has ms a m = true := Un.has_up (k := k + 1) (by rw [Un.has, decide_eq_true h, Bool.or_true]) m (by omega)
theorem Un.has_iff {ms : Tr} {a : Int} : ∀ k, Un.has ms a k = true ↔ ∃ q, q < k ∧ Tr.l ms q = a := by
  intro k
  constructor
  · induction k with
    | zero => intro h; exact absurd h (by simp [Un.has])
    | succ k ih =>
      intro h
      rw [Un.has, Bool.or_eq_true] at h
      rcases h with h | h
      · obtain ⟨q, h1, h2⟩ := ih h; exact ⟨q, by omega, h2⟩
      · exact ⟨k, by omega, of_decide_eq_true h⟩
  · rintro ⟨q, h1, h2⟩; exact Un.has_hit h2 h1
theorem Un.to_yes {ms : Tr} {i : Nat} (h : Un.has ms (i : Int) ms.length = true) : Un.to ms (i + 1) = Un.to ms i := by rw [Un.to, if_pos h]
theorem Un.to_no {ms : Tr} {i : Nat} (h : Un.has ms (i : Int) ms.length = false) : Un.to ms (i + 1) = Un.to ms i ++ [(i : Int)] := by rw [Un.to, if_neg (by rw [h]; decide)]
end Go.Proofs.Ytnfjdlocmdgefaa

/- Contracts (Bm4). -/
namespace Go.Proofs.Ytnfjdlocmdgefaa
open Go.RowKit
set_option linter.unusedVariables false

section
variable {xs ys : Tr} {k : Co}
theorem pr_at (L : Tr) {i : Nat} (h : i < L.length) : L[i] = (Tr.l L i, Tr.d L i) := by simp [Tr.l, Tr.d, List.getD_eq_getElem?_getD, h]
/-- pairs in order are a valid mapping -/
theorem Bm.ok_of {L : Tr} (hx : Tr.ok xs = true) (hy : Tr.ok ys = true) (h : L.Pairwise (Bm.R xs ys)) (hin : ∀ e ∈ L, Bm.inn xs ys 0 xs.length 0 ys.length e) : Mp.ok xs ys L = true := by
  rw [Mp.ok_yes, hx, hy]
  · rfl
  · intro i hi
    have e1 := pr_at L hi
    obtain ⟨u, v, e2, _, hu, _, hv⟩ := hin L[i] (List.getElem_mem hi)
    rw [e1] at e2
    injection e2 with e3 e4
    refine Mp.okAt_yes (by rw [e3]; exact Tr.has_nd hx hu) (by rw [e4]; exact Tr.has_nd hy hv) (fun m hm => ?_)
    have r := List.pairwise_iff_getElem.1 h m i (by omega) hi hm
    rw [e1, pr_at L (show m < L.length by omega)] at r
    exact Mp.at_yes r.1 r.2.1 r.2.2
/-- what a pair takes off -/
def Bm.w (xs ys : Tr) (k : Co) (e : Int × Int) : Int := Co.rel k (Tr.l xs e.1.toNat) (Tr.l ys e.2.toNat) - Co.del k (Tr.l xs e.1.toNat) - Co.ins k (Tr.l ys e.2.toNat)
def Bm.ws (xs ys : Tr) (k : Co) : Tr → Int
  | [] => 0
  | e :: L => Bm.w xs ys k e + Bm.ws xs ys k L
theorem Bm.ws_app (A B : Tr) : Bm.ws xs ys k (A ++ B) = Bm.ws xs ys k A + Bm.ws xs ys k B := by
  induction A with
  | nil => simp [Bm.ws]
  | cons e A ih => rw [List.cons_append, Bm.ws, ih, Bm.ws]; omega
theorem Bm.part_ws {L : Tr} (h : Mp.ok xs ys L = true) : ∀ m, m ≤ L.length → Mp.part xs ys k L m = Mp.part xs ys k L 0 + Bm.ws xs ys k (L.take m)
  | 0, _ => by simp [Bm.ws]
  | m + 1, hm => by
    have ih := Bm.part_ws h m (by omega)
    have hk := (Mp.ok_all h).2.2 m (by omega)
    obtain ⟨a, b, _, _, ha, hb⟩ := Mp.pair_at hk
    rw [Mp.part_succ (by omega) hk ha hb, ih, List.take_add_one, List.getElem?_eq_getElem (show m < L.length by omega), pr_at L (show m < L.length by omega), ha, hb, Bm.ws_app]
    simp only [Option.toList_some, Bm.ws, Bm.w, Int.toNat_natCast]
    omega
/-- sums over an interval of places -/
def Bm.sx (xs : Tr) (f : Int → Int) (i j : Nat) : Int := Mp.sum (fun u => f (Tr.xa xs u)) j - Mp.sum (fun u => f (Tr.xa xs u)) i
theorem Bm.sx_self (f : Int → Int) (i : Nat) : Bm.sx xs f i i = 0 := by unfold Bm.sx; omega
theorem Bm.sx_succ (f : Int → Int) (i j : Nat) (h : 0 < j) : Bm.sx xs f i j = Bm.sx xs f i (j - 1) + f (Tr.xa xs (j - 1)) := by
  obtain ⟨m, rfl⟩ : ∃ m, j = m + 1 := ⟨j - 1, by omega⟩
  unfold Bm.sx
  simp only [Mp.sum, Nat.add_sub_cancel]
  omega
theorem Bm.sx_cat (f : Int → Int) (i m j : Nat) : Bm.sx xs f i j = Bm.sx xs f i m + Bm.sx xs f m j := by unfold Bm.sx; omega
theorem Bm.rr_del (hx : Tr.ok xs = true) {i p : Nat} : ∀ j, i ≤ j → j ≤ xs.length → RR xs ys k i j p p = Bm.sx xs (Co.del k) i j := by
  intro j
  induction j with
  | zero => intro h _; obtain rfl : i = 0 := by omega
            rw [Bm.sx_self]; exact RD_none (Nat.le_refl _) (Nat.le_refl _)
  | succ j ih =>
    intro h hj
    by_cases e : i = j + 1
    · subst e; rw [Bm.sx_self]; exact RD_none (Nat.le_refl _) (Nat.le_refl _)
    · have := RD_left (K := Co.cs k) (lb := Tr.la ys) (x := Tr.xa xs) (y := Tr.xa ys) (Tr.la_nest hx) (i := i) (j := j) (k := p) (l := p) (by omega) (by omega) (Nat.le_refl _)
      rw [Bm.sx_succ _ _ _ (by omega), Nat.add_sub_cancel, ← ih (by omega) (by omega)]
      exact this
theorem Bm.rr_ins (hy : Tr.ok ys = true) {i p : Nat} : ∀ q, p ≤ q → q ≤ ys.length → RR xs ys k i i p q = Bm.sx ys (Co.ins k) p q := by
  intro q
  induction q with
  | zero => intro h _; obtain rfl : p = 0 := by omega
            rw [Bm.sx_self]; exact RD_none (Nat.le_refl _) (Nat.le_refl _)
  | succ q ih =>
    intro h hj
    by_cases e : p = q + 1
    · subst e; rw [Bm.sx_self]; exact RD_none (Nat.le_refl _) (Nat.le_refl _)
    · have := RD_right (K := Co.cs k) (la := Tr.la xs) (x := Tr.xa xs) (y := Tr.xa ys) (Tr.la_nest hy) (i := i) (j := i) (k := p) (l := q) (Nat.le_refl _) (by omega) (by omega)
      rw [Bm.sx_succ _ _ _ (by omega), Nat.add_sub_cancel, ← ih (by omega) (by omega)]
      exact this
theorem Bm.go_cost (hx : Tr.ok xs = true) (hy : Tr.ok ys = true) {i j p q : Nat} (hij : i ≤ j) (hj : j ≤ xs.length) (hpq : p ≤ q) (hq : q ≤ ys.length) :
    Bm.sx xs (Co.del k) i j + Bm.sx ys (Co.ins k) p q + Bm.ws xs ys k (Bm.go (Bm.cP xs ys) xs ys k i j p q) = RR xs ys k i j p q := by
  refine Bm.go_ind (M := fun i j p q L => i ≤ j → p ≤ q → j ≤ xs.length → q ≤ ys.length → Bm.sx xs (Co.del k) i j + Bm.sx ys (Co.ins k) p q + Bm.ws xs ys k L = RR xs ys k i j p q) hx hy ?_ ?_ ?_ ?_ (j - i + (q - p) + 1) i j p q (by omega) hj hq hij hpq hj hq
  · intro i j p q h h1 h2 h3 h4
    simp only [Bm.ws]
    rcases h with h | h
    · obtain rfl : i = j := by omega
      rw [Bm.rr_ins hy q h2 h4, Bm.sx_self]; omega
    · obtain rfl : p = q := by omega
      rw [Bm.rr_del hx j h1 h3, Bm.sx_self (xs := ys)]; omega
  · intro i j p q L h1 h2 h3 h4 h h5 h6 h7 h8 h9
    have := h5 (by omega) (by omega) (by omega) (by omega)
    rw [Bm.sx_succ _ _ j (by omega), h, ← this]; omega
  · intro i j p q L h1 h2 h3 h4 _ h h5 h6 h7 h8 h9
    have := h5 (by omega) (by omega) (by omega) (by omega)
    rw [Bm.sx_succ (xs := ys) _ _ q (by omega), h, ← this]; omega
  · intro i j p q P Q A B h1 h2 h3 h4 hP hQ hP1 hQ1 _ _ h hA hB h6 h7 h8 h9
    have a := hA (by omega) (by omega) (by omega) (by omega)
    have b := hB (by omega) (by omega) (by omega) (by omega)
    have cx : Tr.xa xs (j - 1) = Tr.l xs (Tr.nd xs (j - 1)) := (Tr.nd_at hx (by omega)).2.2.2
    have cy : Tr.xa ys (q - 1) = Tr.l ys (Tr.nd ys (q - 1)) := (Tr.nd_at hy (by omega)).2.2.2
    unfold Bm.cP
    rw [Bm.ws_app, Bm.ws_app, Bm.sx_succ _ _ j (by omega), Bm.sx_succ (xs := ys) _ _ q (by omega), Bm.sx_cat (xs := xs) _ i P (j - 1), Bm.sx_cat (xs := ys) _ p Q (q - 1), h, ← a, ← b]
    simp only [Bm.ws, Bm.w, Int.toNat_natCast]
    rw [← cx, ← cy]
    omega
/-- sums over all nodes, by nodes and by places -/
theorem sum_add (f g : Nat → Int) : ∀ n, Mp.sum (fun i => f i + g i) n = Mp.sum f n + Mp.sum g n
  | 0 => rfl
  | n + 1 => by
    have := sum_add f g n
    simp only [Mp.sum]
    omega
theorem sum_zero : ∀ n, Mp.sum (fun _ => 0) n = 0
  | 0 => rfl
  | n + 1 => by have := sum_zero n; simp only [Mp.sum]; omega
theorem sum_swap (f : Nat → Nat → Int) (n : Nat) : ∀ m, Mp.sum (fun i => Mp.sum (fun j => f i j) m) n = Mp.sum (fun j => Mp.sum (fun i => f i j) n) m
  | 0 => by simp only [Mp.sum]; exact sum_zero n
  | m + 1 => by
    have := sum_swap f n m
    simp only [Mp.sum]
    rw [sum_add, this]
theorem sum_one (g : Nat → Int) (a : Nat) : ∀ n, Mp.sum (fun i => if i = a then g i else 0) n = if a < n then g a else 0
  | 0 => by simp [Mp.sum]
  | n + 1 => by
    have := sum_one g a n
    simp only [Mp.sum]
    rw [this]
    by_cases e : n = a
    · subst e; simp
    · rw [if_neg e]
      by_cases c : a < n
      · rw [if_pos c, if_pos (by omega)]; omega
      · rw [if_neg c, if_neg (by omega)]; omega
theorem sum_post (hx : Tr.ok xs = true) (f : Int → Int) : Mp.sum (fun i => f (Tr.l xs i)) xs.length = Mp.sum (fun u => f (Tr.xa xs u)) xs.length := by
  have e1 : Mp.sum (fun u => f (Tr.xa xs u)) xs.length = Mp.sum (fun u => Mp.sum (fun i => if i = Tr.nd xs u then f (Tr.l xs i) else 0) xs.length) xs.length := by
    refine Mp.sum_congr fun u hu => ?_
    obtain ⟨a, _, _, b⟩ := Tr.nd_at hx hu
    rw [sum_one (fun i => f (Tr.l xs i)), if_pos a, b]
  have e2 : Mp.sum (fun i => f (Tr.l xs i)) xs.length = Mp.sum (fun i => Mp.sum (fun u => if i = Tr.nd xs u then f (Tr.l xs i) else 0) xs.length) xs.length := by
    refine Mp.sum_congr fun i hi => ?_
    have hr := Tr.rk_lt hx hi
    have : ∀ u, u < xs.length → (if i = Tr.nd xs u then f (Tr.l xs i) else 0) = (if u = Tr.rk xs i then f (Tr.l xs i) else 0) := fun u hu => by
      by_cases e : i = Tr.nd xs u
      · rw [if_pos e, if_pos (by rw [e, (Tr.nd_at hx hu).2.1])]
      · rw [if_neg e, if_neg (fun h => e (by rw [h, Tr.nd_rk hx hi]))]
    rw [Mp.sum_congr this, sum_one (fun _ => f (Tr.l xs i)), if_pos hr]
  rw [e1, e2, sum_swap]
theorem Bm.best_ok (hx : Tr.ok xs = true) (hy : Tr.ok ys = true) : Mp.ok xs ys (Bm.mt (Bm.cP xs ys) xs ys k 0 xs.length 0 ys.length) = true := by
  obtain ⟨_, h2, h3, _⟩ := Bm.mt_facts (k := k) hx hy
  exact Bm.ok_of hx hy h2 h3
theorem Bm.best_cost (hx : Tr.ok xs = true) (hy : Tr.ok ys = true) (hk : Co.ok k = true) : Mp.cost xs ys k (Bm.mt (Bm.cP xs ys) xs ys k 0 xs.length 0 ys.length) = Tr.rootDist xs ys k := by
  have x1 := (Tr.len24 hx).1
  have y1 := (Tr.len24 hy).1
  have hok := Bm.best_ok (k := k) hx hy
  obtain ⟨_, _, _, _, _, B, hB, hB2⟩ := Bm.mt_facts (k := k) hx hy
  have hc := Bm.go_cost (k := k) hx hy (i := 0) (j := xs.length - 1) (p := 0) (q := ys.length - 1) (by omega) (by omega) (by omega) (by omega)
  have hw := Bm.part_ws (k := k) hok _ (Nat.le_refl _)
  rw [List.take_length] at hw
  unfold Mp.cost Tr.rootDist
  rw [hok, hk, hx, hy, hw]
  simp only [Bool.and_self, if_true]
  rw [Mp.part_zero, sum_post hx, sum_post hy, hB, hB2, ← hc]
  have s1 := Bm.sx_succ (xs := xs) (Co.del k) 0 xs.length (by omega)
  have s2 := Bm.sx_succ (xs := ys) (Co.ins k) 0 ys.length (by omega)
  unfold Bm.sx at s1 s2 ⊢
  simp only [Mp.sum] at s1 s2 ⊢
  have t1 := Tr.xa_last hx
  have t2 := Tr.xa_last hy
  simp only [Bm.ws, Bm.w]
  rw [t1] at s1
  rw [t2] at s2
  simp only [Int.toNat_zero]
  omega
/-- nodes that belong to none, and those that do, are all -/
theorem Un.count {L : Tr} (h : L.Pairwise fun e e' => e.1 < e'.1) (h0 : ∀ e ∈ L, 0 ≤ e.1) : ∀ i, (Un.to L i).length + (L.filter fun e => decide (e.1 < (i : Int))).length = i
  | 0 => by
    rw [List.filter_eq_nil_iff.2 fun e he => by have := h0 e he; simp; omega]
    rfl
  | i + 1 => by
    have ih := Un.count h h0 i
    rw [← asc_split h i, List.length_append]
    cases hh : Un.has L (i : Int) L.length with
    | true =>
      rw [Un.to_yes hh]
      obtain ⟨q, hq, hl⟩ := (Un.has_iff _).1 hh
      have hm : L[q] ∈ (L.filter fun e => decide (e.1 = (i : Int))) := List.mem_filter.2 ⟨List.getElem_mem hq, by rw [pr_at L hq]; simpa using hl⟩
      rcases one_key h (i : Int) with hn | ⟨x, hx⟩
      · rw [hn] at hm; cases hm
      · rw [hx, List.length_singleton]; omega
    | false =>
      rw [Un.to_no hh, List.length_append, List.length_singleton]
      have : (L.filter fun e => decide (e.1 = (i : Int))) = [] := List.filter_eq_nil_iff.2 fun e he => by
        intro h2
        obtain ⟨q, hq, rfl⟩ := List.getElem_of_mem he
        rw [pr_at L hq] at h2
        have h3 := (Un.has_iff (ms := L) (a := (i : Int)) L.length).2 ⟨q, hq, by simpa using h2⟩
        rw [hh] at h3; cases h3
      rw [this]
      simp only [List.length_nil]
      omega
theorem Un.count_all {L : Tr} {n : Nat} (h : L.Pairwise fun e e' => e.1 < e'.1) (h0 : ∀ e ∈ L, 0 ≤ e.1 ∧ e.1 < (n : Int)) : (Un.to L n).length + L.length = n := by
  have := Un.count h (fun e he => (h0 e he).1) n
  rw [List.filter_eq_self.2 fun e he => by have := (h0 e he).2; simpa using this] at this
  exact this
theorem Bm.best_rooted (hx : Tr.ok xs = true) (hy : Tr.ok ys = true) : Tr.rooted (Bm.mt (Bm.cP xs ys) xs ys k 0 xs.length 0 ys.length) = true := by
  obtain ⟨_, _, _, _, _, B, hB, _⟩ := Bm.mt_facts (k := k) hx hy
  rw [hB]
  simp [Tr.rooted, Tr.l, Tr.d]
end

end Go.Proofs.Ytnfjdlocmdgefaa

/- The distances of trees whose labels are valid, under costs that agree on those. -/
namespace Go.Proofs.Ytnfjdlocmdgefaa
open Go.RowKit
set_option linter.unusedVariables false

def Fst.all (P : Int → Prop) : Fst → Prop
  | .nil => True
  | .snoc l a s => l.all P ∧ P a ∧ s.all P
/-- what lies below a tree's root, as a forest -/
def Tr.inner (xs : Tr) : Fst := fr (Tr.la xs) (Tr.xa xs) 0 (xs.length - 1)
/-! unit costs -/
end Go.Proofs.Ytnfjdlocmdgefaa

/- Contracts (SwpM). -/
namespace Go.Proofs.Ytnfjdlocmdgefaa
open Go.RowKit
set_option linter.unusedVariables false

/-- costs with what goes and what comes exchanged -/
def Co.turn (k : Co) : Co := ⟨k.i, k.d, (List.range 36).map fun i => Zs.at k.r (i % 6 * 6 + i / 6)⟩
end Go.Proofs.Ytnfjdlocmdgefaa

/- Contracts (BthM). -/
namespace Go.Proofs.Ytnfjdlocmdgefaa
open Go.RowKit
set_option linter.unusedVariables false

def Tr.whole (xs : Tr) : Fst := fr (Tr.la xs) (Tr.xa xs) (Tr.la xs (xs.length - 1)) (xs.length - 1 + 1)
end Go.Proofs.Ytnfjdlocmdgefaa

/- Contracts (CmM). -/
namespace Go.Proofs.Ytnfjdlocmdgefaa
open Go.RowKit
set_option linter.unusedVariables false

section
variable {xs ys zs ms ns : Tr} {k : Co}
/-- valid, by pairs -/
theorem Mp.ok_iff : Mp.ok xs ys ms = true ↔ Tr.ok xs = true ∧ Tr.ok ys = true ∧ (∀ e ∈ ms, Tr.has xs e.1 = true ∧ Tr.has ys e.2 = true) ∧ ms.Pairwise (Bm.R xs ys) := by
  constructor
  · intro h
    obtain ⟨h1, h2, h3⟩ := Mp.ok_all h
    refine ⟨h1, h2, fun e he => ?_, ?_⟩
    · obtain ⟨q, hq, rfl⟩ := List.getElem_of_mem he
      obtain ⟨a, b, _⟩ := Mp.okAt_parts (h3 q hq)
      rw [pr_at ms hq]
      exact ⟨a, b⟩
    · refine List.pairwise_iff_getElem.2 fun i j hi hj hij => ?_
      obtain ⟨_, _, c⟩ := Mp.okAt_parts (h3 j hj)
      rw [pr_at ms hi, pr_at ms hj]
      exact c i hij
  · rintro ⟨h1, h2, h3, h4⟩
    rw [Mp.ok_yes, h1, h2]
    · rfl
    · intro i hi
      have e := h3 ms[i] (List.getElem_mem hi)
      rw [pr_at ms hi] at e
      refine Mp.okAt_yes e.1 e.2 (fun m hm => ?_)
      have r := List.pairwise_iff_getElem.1 h4 m i (by omega) hi hm
      rw [pr_at ms hi, pr_at ms (show m < ms.length by omega)] at r
      exact Mp.at_yes r.1 r.2.1 r.2.2
/-- where b leads: at most one place, if first places ascend -/
theorem Cp.out_mem {b z : Int} : ∀ m, z ∈ Cp.out ns b m ↔ ∃ q, q < m ∧ Tr.l ns q = b ∧ Tr.d ns q = z
  | 0 => by simp [Cp.out]
  | m + 1 => by
    have ih := Cp.out_mem (b := b) (z := z) m
    by_cases e : b = Tr.l ns m
    · rw [Cp.out_yes e, List.mem_append, ih, List.mem_singleton]
      constructor
      · rintro (⟨q, h1, h2, h3⟩ | h)
        · exact ⟨q, by omega, h2, h3⟩
        · exact ⟨m, by omega, e.symm, h.symm⟩
      · rintro ⟨q, h1, h2, h3⟩
        by_cases hq : q = m
        · subst hq; exact .inr h3.symm
        · exact .inl ⟨q, by omega, h2, h3⟩
    · rw [Cp.out_no e, ih]
      constructor
      · rintro ⟨q, h1, h2, h3⟩; exact ⟨q, by omega, h2, h3⟩
      · rintro ⟨q, h1, h2, h3⟩
        refine ⟨q, ?_, h2, h3⟩
        by_cases hq : q = m
        · subst hq; exact absurd h2.symm e
        · omega
theorem Cp.out_one {b : Int} (h : ns.Pairwise fun e e' => e.1 < e'.1) : ∀ m, m ≤ ns.length → (Cp.out ns b m).length ≤ 1
  | 0, _ => by simp [Cp.out]
  | m + 1, hm => by
    have ih := Cp.out_one (b := b) h m (by omega)
    by_cases e : b = Tr.l ns m
    · rw [Cp.out_yes e, List.length_append, List.length_singleton]
      have : Cp.out ns b m = [] := by
        refine List.eq_nil_iff_forall_not_mem.2 fun z hz => ?_
        obtain ⟨q, h1, h2, _⟩ := (Cp.out_mem m).1 hz
        have r := List.pairwise_iff_getElem.1 h q m (by omega) (by omega) h1
        rw [pr_at ns (show q < ns.length by omega), pr_at ns (show m < ns.length by omega)] at r
        simp only at r
        omega
      rw [this]; simp
    · rw [Cp.out_no e]; exact ih
/-- a mapping by way of its inverse leads back -/
theorem Cp.back (hm : ms.Pairwise (Bm.R xs ys)) : ∀ m, m ≤ ms.length → Cp.to ms (Tr.turn ms) m = (ms.take m).map fun e => (e.1, e.1)
  | 0, _ => by simp [Cp.to]
  | m + 1, h => by
    have ih := Cp.back hm m (by omega)
    have asc : (Tr.turn ms).Pairwise fun e e' => e.1 < e'.1 := by
      unfold Tr.turn
      rw [List.pairwise_map]
      exact hm.imp (fun h => h.2.1)
    have ho : Cp.out (Tr.turn ms) (Tr.d ms m) (Tr.turn ms).length = [Tr.l ms m] := by
      have hmem : Tr.l ms m ∈ Cp.out (Tr.turn ms) (Tr.d ms m) (Tr.turn ms).length := (Cp.out_mem _).2 ⟨m, by rw [Tr.turn_length]; omega, Tr.turn_l ms (by omega), Tr.turn_d ms (by omega)⟩
      have h1 := Cp.out_one (b := Tr.d ms m) asc _ (Nat.le_refl _)
      rcases hl : Cp.out (Tr.turn ms) (Tr.d ms m) (Tr.turn ms).length with _ | ⟨a, _ | ⟨b, r⟩⟩
      · rw [hl] at hmem; cases hmem
      · rw [hl] at hmem; rw [List.mem_singleton.1 hmem]
      · rw [hl] at h1; simp at h1
    rw [Cp.to, ih, ho, List.take_add_one, List.getElem?_eq_getElem (show m < ms.length by omega), pr_at ms (show m < ms.length by omega), List.map_append]
    rfl
theorem Mp.ok_len (h : Mp.ok xs ys ms = true) : ms.length ≤ xs.length := by
  obtain ⟨a1, a2, a3, a4⟩ := Mp.ok_iff.1 h
  have := Un.count_all (n := xs.length) (L := ms) (a4.imp (fun h => h.1)) (fun e he => by
    have := (Tr.has_iff.1 (a3 e he).1).2
    exact this)
  omega
end

end Go.Proofs.Ytnfjdlocmdgefaa

/- Contracts (Lb). -/
namespace Go.Proofs.Ytnfjdlocmdgefaa
open Go.RowKit
set_option linter.unusedVariables false

/-- two pairs of places, one of a node above or to the right of the other, on both sides alike -/
def Lb.D (xs ys : Tr) (e e' : Nat × Nat) : Prop := (e'.1 < e.1 ∧ Tr.la xs e.1 ≤ e'.1 ∧ e'.2 < e.2 ∧ Tr.la ys e.2 ≤ e'.2) ∨ (e.1 < e'.1 ∧ e.1 < Tr.la xs e'.1 ∧ e.2 < e'.2 ∧ e.2 < Tr.la ys e'.2)
def Lb.C (xs ys : Tr) (e e' : Nat × Nat) : Prop := Lb.D xs ys e e' ∨ Lb.D xs ys e' e
def Lb.w (xs ys : Tr) (k : Co) (e : Nat × Nat) : Int := Co.rel k (Tr.xa xs e.1) (Tr.xa ys e.2) - Co.del k (Tr.xa xs e.1) - Co.ins k (Tr.xa ys e.2)
def Lb.ws (xs ys : Tr) (k : Co) : List (Nat × Nat) → Int
  | [] => 0
  | e :: L => Lb.w xs ys k e + Lb.ws xs ys k L
section
variable {xs ys : Tr} {k : Co}
theorem Lb.ws_perm {L L' : List (Nat × Nat)} (h : L.Perm L') : Lb.ws xs ys k L = Lb.ws xs ys k L' := by
  induction h with
  | nil => rfl
  | cons x _ ih => rw [Lb.ws, Lb.ws, ih]
  | swap x y l => simp only [Lb.ws]; omega
  | trans _ _ a b => rw [a, b]
theorem Lb.ws_split (f : Nat × Nat → Bool) : ∀ L : List (Nat × Nat), Lb.ws xs ys k L = Lb.ws xs ys k (L.filter f) + Lb.ws xs ys k (L.filter fun e => !f e)
  | [] => by simp [Lb.ws]
  | e :: L => by
    have ih := Lb.ws_split f L
    cases h : f e with
    | true => rw [List.filter_cons_of_pos h, List.filter_cons_of_neg (by rw [h]; simp), Lb.ws, Lb.ws, ih]; omega
    | false => rw [List.filter_cons_of_neg (by rw [h]; simp), List.filter_cons_of_pos (by rw [h]; rfl), Lb.ws, Lb.ws, ih]; omega
theorem RR_step (hx : Tr.ok xs = true) (hy : Tr.ok ys = true) {i j p q : Nat} (h1 : i < j) (h2 : p < q) (hj : j ≤ xs.length) (hq : q ≤ ys.length) :
    RR xs ys k i j p q = min (min (RR xs ys k i (j - 1) p q + Co.del k (Tr.xa xs (j - 1))) (RR xs ys k i j p (q - 1) + Co.ins k (Tr.xa ys (q - 1)))) (RR xs ys k i (max i (Tr.la xs (j - 1))) p (max p (Tr.la ys (q - 1))) + RR xs ys k (max i (Tr.la xs (j - 1))) (j - 1) (max p (Tr.la ys (q - 1))) (q - 1) + Co.rel k (Tr.xa xs (j - 1)) (Tr.xa ys (q - 1))) := by
  have := RD_both (K := Co.cs k) (x := Tr.xa xs) (y := Tr.xa ys) (Tr.la_nest hx) (Tr.la_nest hy) (i := i) (j := j - 1) (k := p) (l := q - 1) (by omega) (by omega) (by omega) (by omega)
  rw [show j - 1 + 1 = j by omega, show q - 1 + 1 = q by omega] at this
  exact this
theorem Lb.low (hx : Tr.ok xs = true) (hy : Tr.ok ys = true) : ∀ (s i j p q : Nat) (W : List (Nat × Nat)), (j - i) + (q - p) < s → i ≤ j → j ≤ xs.length → p ≤ q → q ≤ ys.length → W.Pairwise (Lb.C xs ys) → (∀ e ∈ W, (i ≤ e.1 ∧ e.1 < j) ∧ p ≤ e.2 ∧ e.2 < q) →
    RR xs ys k i j p q ≤ Bm.sx xs (Co.del k) i j + Bm.sx ys (Co.ins k) p q + Lb.ws xs ys k W := by
  intro s
  induction s with
  | zero => intro i j p q W h; omega
  | succ s ih =>
    intro i j p q W hs hij hj hpq hq hW hin
    rcases Nat.eq_or_lt_of_le hij with e | hij'
    · subst e
      obtain rfl : W = [] := by
        cases W with
        | nil => rfl
        | cons e W => have := hin e List.mem_cons_self; omega
      rw [Bm.rr_ins hy q hpq hq, Bm.sx_self]
      simp only [Lb.ws]
      omega
    · rcases Nat.eq_or_lt_of_le hpq with e | hpq'
      · subst e
        obtain rfl : W = [] := by
          cases W with
          | nil => rfl
          | cons e W => have := hin e List.mem_cons_self; omega
        rw [Bm.rr_del hx j hij hj, Bm.sx_self (xs := ys)]
        simp only [Lb.ws]
        omega
      · have step := RR_step (k := k) hx hy hij' hpq' hj hq
        have s1 := Bm.sx_succ (xs := xs) (Co.del k) i j (by omega)
        have s2 := Bm.sx_succ (xs := ys) (Co.ins k) p q (by omega)
        by_cases a : ∃ e ∈ W, e.1 = j - 1
        · by_cases b : ∃ e ∈ W, e.2 = q - 1
          · obtain ⟨e, he, ea⟩ := a
            obtain ⟨e', he', eb⟩ := b
            have pm := List.perm_cons_erase he
            obtain ⟨hC, hP⟩ := List.pairwise_cons.1 ((pm.pairwise_iff (fun h => Or.symm h)).1 hW)
            have i1 := hin e he
            have ein : ∀ x ∈ W.erase e, x ∈ W := fun x hx => List.mem_of_mem_erase hx
            have e2 : e.2 = q - 1 := by
              by_cases h : e' = e
              · rw [← h]; exact eb
              · have c := hC e' ((List.mem_erase_of_ne h).2 he')
                have i2 := hin e' he'
                unfold Lb.C Lb.D at c
                omega
            have la1 := (Tr.la_nest hx (j - 1) (by omega)).1
            have lb1 := (Tr.la_nest hy (q - 1) (by omega)).1
            have hr : ∀ x ∈ W.erase e, (i ≤ x.1 ∧ p ≤ x.2) ∧ ((Tr.la xs (j - 1) ≤ x.1 ∧ x.1 < j - 1 ∧ Tr.la ys (q - 1) ≤ x.2 ∧ x.2 < q - 1) ∨ (x.1 < Tr.la xs (j - 1) ∧ x.2 < Tr.la ys (q - 1))) := fun x hx => by
              have c := hC x hx
              have i2 := hin x (ein x hx)
              unfold Lb.C Lb.D at c
              rw [ea, e2] at c
              omega
            obtain ⟨P, hPd⟩ : ∃ P, P = max i (Tr.la xs (j - 1)) := ⟨_, rfl⟩
            obtain ⟨Q, hQd⟩ : ∃ Q, Q = max p (Tr.la ys (q - 1)) := ⟨_, rfl⟩
            rw [← hPd, ← hQd] at step
            have f1 := ih P (j - 1) Q (q - 1) ((W.erase e).filter fun x => decide (Tr.la xs (j - 1) ≤ x.1)) (by omega) (by omega) (by omega) (by omega) (by omega) (hP.filter _) (fun x hx => by
              obtain ⟨h1, h2⟩ := List.mem_filter.1 hx
              have := hr x h1
              have h3 := of_decide_eq_true h2
              omega)
            have f2 := ih i P p Q ((W.erase e).filter fun x => !decide (Tr.la xs (j - 1) ≤ x.1)) (by omega) (by omega) (by omega) (by omega) (by omega) (hP.filter _) (fun x hx => by
              obtain ⟨h1, h2⟩ := List.mem_filter.1 hx
              have := hr x h1
              have h3 : ¬ Tr.la xs (j - 1) ≤ x.1 := by simpa using h2
              omega)
            have g := Lb.ws_perm (xs := xs) (ys := ys) (k := k) pm
            rw [Lb.ws, Lb.ws_split (fun x => decide (Tr.la xs (j - 1) ≤ x.1)) (W.erase e)] at g
            unfold Lb.w at g
            rw [ea, e2] at g
            have c1 := Bm.sx_cat (xs := xs) (Co.del k) i P (j - 1)
            have c2 := Bm.sx_cat (xs := ys) (Co.ins k) p Q (q - 1)
            omega
          · have := ih i j p (q - 1) W (by omega) hij hj (by omega) (by omega) hW (fun e he => by
              have h1 := hin e he
              have h2 : ¬ e.2 = q - 1 := fun h => b ⟨e, he, h⟩
              omega)
            omega
        · have := ih i (j - 1) p q W (by omega) (by omega) (by omega) hpq hq hW (fun e he => by
            have h1 := hin e he
            have h2 : ¬ e.1 = j - 1 := fun h => a ⟨e, he, h⟩
            omega)
          omega
/-- nodes as places -/
def Lb.f (xs ys : Tr) (e : Int × Int) : Nat × Nat := (Tr.rk xs e.1.toNat, Tr.rk ys e.2.toNat)
theorem Lb.side (hx : Tr.ok xs = true) {a b : Nat} (ha : a < b) (hb : b < xs.length) : (Tr.under xs (a : Int) (b : Int) = true ∧ Tr.rk xs b < Tr.rk xs a ∧ Tr.la xs (Tr.rk xs a) ≤ Tr.rk xs b) ∨ (Tr.under xs (a : Int) (b : Int) = false ∧ Tr.rk xs a < Tr.rk xs b ∧ Tr.rk xs a < Tr.la xs (Tr.rk xs b)) := by
  have r1 := Tr.rk_lt hx (show a < xs.length by omega)
  have r2 := Tr.rk_lt hx hb
  have n1 := Tr.nd_rk hx (show a < xs.length by omega)
  have n2 := Tr.nd_rk hx hb
  rcases Nat.lt_trichotomy (Tr.rk xs b) (Tr.rk xs a) with h | h | h
  · have hl : Tr.la xs (Tr.rk xs a) ≤ Tr.rk xs b := by
      rcases Nat.lt_or_ge (Tr.rk xs b) (Tr.la xs (Tr.rk xs a)) with c | c
      · have := Tr.nd_ahead hx r1 c
        rw [n1, n2] at this
        omega
      · exact c
    have := Tr.nd_yes hx r1 hl h
    rw [n1, n2] at this
    exact .inl ⟨this, h, hl⟩
  · have := Tr.rk_inj hx hb (show a < xs.length by omega) h
    omega
  · have hf := Tr.nd_not hx (Nat.le_of_lt h) r2
    rw [n1, n2] at hf
    refine .inr ⟨hf, h, ?_⟩
    rcases Nat.lt_or_ge (Tr.rk xs a) (Tr.la xs (Tr.rk xs b)) with c | c
    · exact c
    · have := (Tr.nd_below hx r2 c h).1
      rw [n1, n2] at this
      omega
theorem Lb.pair (hx : Tr.ok xs = true) (hy : Tr.ok ys = true) {e e' : Int × Int} (h : Bm.R xs ys e e') (h1 : 0 ≤ e.1) (h2 : 0 ≤ e.2) (h3 : e'.1 < xs.length) (h4 : e'.2 < ys.length) : Lb.C xs ys (Lb.f xs ys e) (Lb.f xs ys e') := by
  obtain ⟨a, b⟩ := e
  obtain ⟨a', b'⟩ := e'
  obtain ⟨r1, r2, r3⟩ := h
  dsimp only at r1 r2 r3 h1 h2 h3 h4
  obtain ⟨a, rfl⟩ := Int.eq_ofNat_of_zero_le h1
  obtain ⟨b, rfl⟩ := Int.eq_ofNat_of_zero_le h2
  obtain ⟨a', rfl⟩ := Int.eq_ofNat_of_zero_le (show 0 ≤ a' by omega)
  obtain ⟨b', rfl⟩ := Int.eq_ofNat_of_zero_le (show 0 ≤ b' by omega)
  have s1 := Lb.side hx (a := a) (b := a') (by omega) (by omega)
  have s2 := Lb.side hy (a := b) (b := b') (by omega) (by omega)
  rw [r3] at s1
  unfold Lb.C Lb.D Lb.f
  simp only [Int.toNat_natCast]
  rcases s1 with ⟨u1, s1⟩ | ⟨u1, s1⟩ <;> rcases s2 with ⟨u2, s2⟩ | ⟨u2, s2⟩
  · omega
  · rw [u1] at u2; cases u2
  · rw [u1] at u2; cases u2
  · omega
theorem Lb.ws_map (hx : Tr.ok xs = true) (hy : Tr.ok ys = true) : ∀ M : Tr, (∀ e ∈ M, (0 ≤ e.1 ∧ e.1 < xs.length) ∧ 0 ≤ e.2 ∧ e.2 < ys.length) → Lb.ws xs ys k (M.map (Lb.f xs ys)) = Bm.ws xs ys k M
  | [], _ => rfl
  | e :: M, h => by
    have ih := Lb.ws_map hx hy M (fun x hx => h x (List.mem_cons_of_mem _ hx))
    have he := h e List.mem_cons_self
    have l1 : Tr.xa xs (Tr.rk xs e.1.toNat) = Tr.l xs e.1.toNat := by
      have := (Tr.nd_at hx (Tr.rk_lt hx (show e.1.toNat < xs.length by omega))).2.2.2
      rw [Tr.nd_rk hx (by omega)] at this
      exact this
    have l2 : Tr.xa ys (Tr.rk ys e.2.toNat) = Tr.l ys e.2.toNat := by
      have := (Tr.nd_at hy (Tr.rk_lt hy (show e.2.toNat < ys.length by omega))).2.2.2
      rw [Tr.nd_rk hy (by omega)] at this
      exact this
    rw [List.map_cons, Lb.ws, ih, Bm.ws]
    unfold Lb.w Bm.w Lb.f
    dsimp only
    rw [l1, l2]
theorem Tr.rk_root (hx : Tr.ok xs = true) {a : Nat} (h0 : 0 < a) (ha : a < xs.length) : Tr.rk xs a < xs.length - 1 := by
  have h := Tr.rk_under hx (i := 0) (by omega) h0 (by rw [Tr.endN_zero hx]; exact ha)
  rw [show Tr.rk xs 0 = xs.length - 1 by unfold Tr.rk; rw [Tr.endN_zero hx, Tr.dn_zero hx]; omega] at h
  exact h
/-- nothing that belongs together, root to root, costs less than the distance -/
theorem Lb.root {M : Tr} (h : Mp.ok xs ys M = true) (hr : Tr.rooted M = true) (hk : Co.ok k = true) : Tr.rootDist xs ys k ≤ Mp.cost xs ys k M := by
  obtain ⟨hx, hy, h3, h4⟩ := Mp.ok_iff.1 h
  have x1 := (Tr.len24 hx).1
  have y1 := (Tr.len24 hy).1
  obtain ⟨M', rfl⟩ : ∃ M', M = (0, 0) :: M' := by
    cases M with
    | nil => simp [Tr.rooted] at hr
    | cons e M' =>
      refine ⟨M', ?_⟩
      obtain ⟨a, b⟩ := e
      simp [Tr.rooted, Tr.l, Tr.d] at hr
      obtain ⟨rfl, rfl⟩ := hr
      rfl
  have hb : ∀ e ∈ M', (0 ≤ e.1 ∧ e.1 < xs.length) ∧ 0 ≤ e.2 ∧ e.2 < ys.length := fun e he => by
    have a := (Tr.has_iff.1 (h3 e (List.mem_cons_of_mem _ he)).1).2
    have b := (Tr.has_iff.1 (h3 e (List.mem_cons_of_mem _ he)).2).2
    exact ⟨a, b⟩
  obtain ⟨p1, p2⟩ := List.pairwise_cons.1 h4
  have hw := Bm.part_ws (k := k) h _ (Nat.le_refl _)
  rw [List.take_length] at hw
  have lo := Lb.low (k := k) hx hy (xs.length - 1 - 0 + (ys.length - 1 - 0) + 1) 0 (xs.length - 1) 0 (ys.length - 1) (M'.map (Lb.f xs ys)) (by omega) (by omega) (by omega) (by omega) (by omega)
    (List.pairwise_map.2 (p2.imp_of_mem fun ha hb' r => Lb.pair hx hy r (hb _ ha).1.1 (hb _ ha).2.1 (hb _ hb').1.2 (hb _ hb').2.2))
    (fun e he => by
      obtain ⟨u, hu, rfl⟩ := List.mem_map.1 he
      have := p1 u hu
      have b := hb u hu
      have r1 := this.1
      have r2 := this.2.1
      dsimp only at r1 r2
      have q1 := Tr.rk_root hx (a := u.1.toNat) (by omega) (by omega)
      have q2 := Tr.rk_root hy (a := u.2.toNat) (by omega) (by omega)
      unfold Lb.f
      dsimp only
      omega)
  rw [Lb.ws_map hx hy M' hb] at lo
  unfold Mp.cost Tr.rootDist
  rw [h, hk, hx, hy, hw]
  simp only [Bool.and_self, if_true]
  rw [Mp.part_zero, sum_post hx, sum_post hy]
  have s1 := Bm.sx_succ (xs := xs) (Co.del k) 0 xs.length (by omega)
  have s2 := Bm.sx_succ (xs := ys) (Co.ins k) 0 ys.length (by omega)
  unfold Bm.sx at s1 s2 lo
  simp only [Mp.sum] at s1 s2 lo
  have t1 := Tr.xa_last hx
  have t2 := Tr.xa_last hy
  simp only [Bm.ws, Bm.w]
  rw [t1] at s1
  rw [t2] at s2
  simp only [Int.toNat_zero]
  omega
end

end Go.Proofs.Ytnfjdlocmdgefaa

/- Contracts (Am). -/
namespace Go.Proofs.Ytnfjdlocmdgefaa
open Go.RowKit
set_option linter.unusedVariables false

/-- all ways to go on with the last r nodes -/
def Am.more (xs ys : Tr) : Nat → Tr → List Tr
  | 0, m => [m]
  | r + 1, m => Am.more xs ys r m ++ (List.range (ys.length - 1)).flatMap fun q => if Mp.ok xs ys (m ++ [(((xs.length - (r + 1) : Nat) : Int), ((q + 1 : Nat) : Int))]) then Am.more xs ys r (m ++ [(((xs.length - (r + 1) : Nat) : Int), ((q + 1 : Nat) : Int))]) else []
def Am.all (xs ys : Tr) : List Tr := if Tr.ok xs && Tr.ok ys && decide (xs.length ≤ 5) && decide (ys.length ≤ 5) then Am.more xs ys (xs.length - 1) [(0, 0)] else []
section
variable {xs ys : Tr}
theorem Am.more_ok : ∀ (r : Nat) (m : Tr), Mp.ok xs ys m = true → ∀ L ∈ Am.more xs ys r m, Mp.ok xs ys L = true ∧ ∃ Z, L = m ++ Z
  | 0, m, h, L, hL => by
    obtain rfl := List.mem_singleton.1 hL
    exact ⟨h, [], by simp⟩
  | r + 1, m, h, L, hL => by
    rcases List.mem_append.1 hL with hL | hL
    · exact Am.more_ok r m h L hL
    · obtain ⟨q, _, hq⟩ := List.mem_flatMap.1 hL
      by_cases c : Mp.ok xs ys (m ++ [(((xs.length - (r + 1) : Nat) : Int), ((q + 1 : Nat) : Int))]) = true
      · rw [if_pos c] at hq
        obtain ⟨h1, Z, rfl⟩ := Am.more_ok r _ c L hq
        exact ⟨h1, _, List.append_assoc _ _ _⟩
      · rw [if_neg c] at hq
        cases hq
theorem Am.more_len (hy : 1 ≤ ys.length) : ∀ (r : Nat) (m : Tr), 1 ≤ (Am.more xs ys r m).length ∧ (Am.more xs ys r m).length ≤ ys.length ^ r
  | 0, m => by simp [Am.more]
  | r + 1, m => by
    have ih := Am.more_len hy r
    have fl : ∀ l : List Nat, (l.flatMap fun q => if Mp.ok xs ys (m ++ [(((xs.length - (r + 1) : Nat) : Int), ((q + 1 : Nat) : Int))]) then Am.more xs ys r (m ++ [(((xs.length - (r + 1) : Nat) : Int), ((q + 1 : Nat) : Int))]) else []).length ≤ l.length * ys.length ^ r := fun l => by
      induction l with
      | nil => simp
      | cons q l il =>
        rw [List.flatMap_cons, List.length_append, List.length_cons, Nat.succ_mul]
        split
        · have := (ih (m ++ [(((xs.length - (r + 1) : Nat) : Int), ((q + 1 : Nat) : Int))])).2
          omega
        · simp only [List.length_nil]; omega
    have f := fl (List.range (ys.length - 1))
    have g := ih m
    rw [List.length_range] at f
    rw [Am.more, List.length_append]
    refine ⟨by omega, ?_⟩
    have e : ys.length ^ (r + 1) = (ys.length - 1) * ys.length ^ r + ys.length ^ r := by
      rw [← Nat.succ_mul, show (ys.length - 1).succ = ys.length by omega, Nat.pow_succ, Nat.mul_comm]
    omega
theorem Am.filter_ok {M : Tr} (h : Mp.ok xs ys M = true) (f : Int × Int → Bool) : Mp.ok xs ys (M.filter f) = true := by
  obtain ⟨h1, h2, h3, h4⟩ := Mp.ok_iff.1 h
  exact Mp.ok_iff.2 ⟨h1, h2, fun e he => h3 e (List.mem_filter.1 he).1, h4.filter _⟩
/-- each one that is valid, root to root, is among them -/
theorem Am.more_has {M : Tr} (h : Mp.ok xs ys M = true) (hp : ∀ e ∈ M, e = (0, 0) ∨ 0 < e.1 ∧ 0 < e.2) : ∀ (r : Nat), r < xs.length → M ∈ Am.more xs ys r (M.filter fun e => decide (e.1 < ((xs.length - r : Nat) : Int)))
  | 0, hr => by
    obtain ⟨_, _, h3, _⟩ := Mp.ok_iff.1 h
    have e : (M.filter fun e => decide (e.1 < ((xs.length - 0 : Nat) : Int))) = M := List.filter_eq_self.2 (fun e he => by
      have := (Tr.has_iff.1 (h3 e he).1).2
      simp only [decide_eq_true_eq]
      omega)
    rw [e]
    exact List.mem_singleton.2 rfl
  | r + 1, hr => by
    have ih := Am.more_has h hp r (by omega)
    obtain ⟨_, _, h3, h4⟩ := Mp.ok_iff.1 h
    have asc : M.Pairwise fun e e' => e.1 < e'.1 := h4.imp fun h => h.1
    have sp := asc_split asc (xs.length - (r + 1))
    rw [show xs.length - (r + 1) + 1 = xs.length - r by omega] at sp
    rw [← sp] at ih
    rw [Am.more]
    rcases one_key asc ((xs.length - (r + 1) : Nat) : Int) with k | ⟨x, k⟩
    · rw [k, List.append_nil] at ih
      exact List.mem_append.2 (.inl ih)
    · rw [k] at ih sp
      have hx : x ∈ M.filter fun e => decide (e.1 = ((xs.length - (r + 1) : Nat) : Int)) := by rw [k]; exact List.mem_singleton.2 rfl
      obtain ⟨hm, hz⟩ := List.mem_filter.1 hx
      have he : x.1 = ((xs.length - (r + 1) : Nat) : Int) := by simpa using hz
      clear hz
      have hd := (Tr.has_iff.1 (h3 x hm).2).2
      have hpos : 0 < x.2 := by
        rcases hp x hm with e | e
        · rw [e] at he
          dsimp only at he
          omega
        · exact e.2
      obtain ⟨x1, x2⟩ := x
      dsimp only at he hd hpos
      obtain ⟨v, rfl⟩ := Int.eq_ofNat_of_zero_le hd.1
      refine List.mem_append.2 (.inr (List.mem_flatMap.2 ⟨v - 1, List.mem_range.2 (by omega), ?_⟩))
      have he' : x1 = ((xs.length - (r + 1) : Nat) : Int) := he
      clear he
      subst he'
      rw [show v - 1 + 1 = v by omega]
      rw [if_pos (by rw [sp]; exact Am.filter_ok h _)]
      exact ih
theorem Am.has {M : Tr} (h : Mp.ok xs ys M = true) (hr : Tr.rooted M = true) : M ∈ Am.more xs ys (xs.length - 1) [(0, 0)] := by
  obtain ⟨hx, hy, h3, h4⟩ := Mp.ok_iff.1 h
  have x1 := (Tr.len24 hx).1
  obtain ⟨M', rfl⟩ : ∃ M', M = (0, 0) :: M' := by
    cases M with
    | nil => simp [Tr.rooted] at hr
    | cons e M' =>
      refine ⟨M', ?_⟩
      obtain ⟨a, b⟩ := e
      simp [Tr.rooted, Tr.l, Tr.d] at hr
      obtain ⟨rfl, rfl⟩ := hr
      rfl
  obtain ⟨p1, p2⟩ := List.pairwise_cons.1 h4
  have g := Am.more_has h (fun e he => by
    rcases List.mem_cons.1 he with e | e
    · exact .inl e
    · exact .inr ⟨(p1 _ e).1, (p1 _ e).2.1⟩) (xs.length - 1) (by omega)
  have e : ((0, 0) :: M').filter (fun e => decide (e.1 < ((xs.length - (xs.length - 1) : Nat) : Int))) = [((0 : Int), (0 : Int))] := by
    rw [show xs.length - (xs.length - 1) = 1 by omega, List.filter_cons_of_pos (by decide)]
    congr 1
    refine List.filter_eq_nil_iff.2 (fun e he => ?_)
    have := (p1 e he).1
    dsimp only at this
    simp only [decide_eq_true_eq]
    omega
  rw [e] at g
  exact g
end

end Go.Proofs.Ytnfjdlocmdgefaa

/- Contracts (Exu). -/
namespace Go.Proofs.Ytnfjdlocmdgefaa
open Go.RowKit
set_option linter.unusedVariables false


section
variable {xs ys ms : Tr} {a b : Int}
theorem Tr.l_snoc {k : Nat} (p : Int × Int) (h : k < ms.length) : Tr.l (ms ++ [p]) k = Tr.l ms k := by
  simp only [Tr.l, List.getD_eq_getElem?_getD, List.getElem?_append_left h]
theorem Tr.d_snoc {k : Nat} (p : Int × Int) (h : k < ms.length) : Tr.d (ms ++ [p]) k = Tr.d ms k := by
  simp only [Tr.d, List.getD_eq_getElem?_getD, List.getElem?_append_left h]
theorem Tr.l_last (p : Int × Int) : Tr.l (ms ++ [p]) ms.length = p.1 := by simp [Tr.l]
theorem Tr.d_last (p : Int × Int) : Tr.d (ms ++ [p]) ms.length = p.2 := by simp [Tr.d]
theorem Mp.at_snoc {k : Nat} (p : Int × Int) (h : k < ms.length) (a b : Int) : Mp.at xs ys (ms ++ [p]) a b k = Mp.at xs ys ms a b k := by
  unfold Mp.at; rw [Tr.l_snoc p h, Tr.d_snoc p h]
theorem all_range_congr {f g : Nat → Bool} {n : Nat} (h : ∀ k, k < n → f k = g k) : (List.range n).all f = (List.range n).all g := by
  rw [Bool.eq_iff_iff]
  simp only [List.all_eq_true, List.mem_range]
  exact ⟨fun q k hk => (h k hk) ▸ q k hk, fun q k hk => (h k hk).symm ▸ q k hk⟩
theorem Mp.after_snoc {n : Nat} (p : Int × Int) (h : n ≤ ms.length) (a b : Int) : Mp.after xs ys (ms ++ [p]) n a b = Mp.after xs ys ms n a b :=
  all_range_congr fun k hk => Mp.at_snoc p (by omega) a b
theorem Mp.okAt_snoc {k : Nat} (p : Int × Int) (h : k < ms.length) : Mp.okAt xs ys (ms ++ [p]) k = Mp.okAt xs ys ms k := by
  unfold Mp.okAt; rw [Tr.l_snoc p h, Tr.d_snoc p h, Mp.after_snoc p (by omega)]
theorem Mp.ok_snoc (h : Mp.ok xs ys ms = true) (ha : Tr.has xs a = true) (hb : Tr.has ys b = true) : Mp.ok xs ys (ms ++ [(a, b)]) = Mp.after xs ys ms ms.length a b := by
  have h' := h
  unfold Mp.ok at h'
  simp only [Bool.and_eq_true] at h'
  unfold Mp.ok
  rw [h'.1.1, h'.1.2, List.length_append, List.length_singleton, List.range_succ, List.all_append, all_range_congr (fun k hk => Mp.okAt_snoc (a, b) hk), h'.2]
  simp only [List.all_cons, List.all_nil, Bool.and_true, Bool.true_and]
  unfold Mp.okAt
  rw [Tr.l_last, Tr.d_last, Mp.after_snoc _ (Nat.le_refl _), ha, hb, Bool.true_and, Bool.true_and]
/-- no node goes with the root of the second tree once the roots are a pair -/
theorem Mp.after_root (h : 1 ≤ ms.length) (h0 : Tr.d ms 0 = 0) : Mp.after xs ys ms ms.length a 0 = false := by
  refine Mp.after_no (k := 0) (by omega) ?_
  unfold Mp.at
  rw [h0]
  simp
end
/-- what the nodes 1 .. y - 1 of the second tree give for one node of the first -/
def Am.upto (xs ys : Tr) (r : Nat) (m : Tr) (y : Nat) : List Tr :=
  (List.range (y - 1)).flatMap fun q => if Mp.ok xs ys (m ++ [(((xs.length - (r + 1) : Nat) : Int), ((q + 1 : Nat) : Int))]) then Am.more xs ys r (m ++ [(((xs.length - (r + 1) : Nat) : Int), ((q + 1 : Nat) : Int))]) else []
section
variable {xs ys m : Tr} {r : Nat}
theorem Am.upto_zero : Am.upto xs ys r m 0 = [] := rfl
theorem Am.upto_one : Am.upto xs ys r m 1 = [] := rfl
theorem Am.upto_succ {y : Nat} (h : 1 ≤ y) : Am.upto xs ys r m (y + 1) = Am.upto xs ys r m y ++ if Mp.ok xs ys (m ++ [(((xs.length - (r + 1) : Nat) : Int), (y : Int))]) then Am.more xs ys r (m ++ [(((xs.length - (r + 1) : Nat) : Int), (y : Int))]) else [] := by
  obtain ⟨q, rfl⟩ : ∃ q, y = q + 1 := ⟨y - 1, by omega⟩
  unfold Am.upto
  rw [show q + 1 + 1 - 1 = q + 1 by omega, show q + 1 - 1 = q by omega, List.range_succ, List.flatMap_append]
  simp
theorem Am.more_upto : Am.more xs ys (r + 1) m = Am.more xs ys r m ++ Am.upto xs ys r m ys.length := rfl
theorem Am.upto_pre : ∀ (y d : Nat), Am.upto xs ys r m y <+: Am.upto xs ys r m (y + d)
  | y, 0 => List.prefix_refl _
  | y, d + 1 => by
    refine (Am.upto_pre y d).trans ?_
    rcases Nat.eq_zero_or_pos (y + d) with h | h
    · rw [show y + (d + 1) = 1 by omega, h, Am.upto_zero]; exact List.nil_prefix
    · rw [show y + (d + 1) = (y + d) + 1 by omega, Am.upto_succ h]; exact List.prefix_append _ _
end

end Go.Proofs.Ytnfjdlocmdgefaa

/- Contracts (UndS). -/
namespace Go.Proofs.Ytnfjdlocmdgefaa
open Go.RowKit
set_option linter.unusedVariables false

set_option maxHeartbeats 1600000 in
set_option maxRecDepth 100000 in
theorem specUnder_any (A : Option Addr) (n c : Nat) (xs : Tr) (i j : Int) (w : World) (h : NdIn w w.heap.size A n xs) (hn : n ≤ 1048576) :
    Calls Try.prog 43 #[.slice A n c, .int .i64 i, .int .i64 j] w fun e w' => e = .returned (.bool (Tr.under xs i j)) ∧ Drawn w w' := by
  have H := Lib.hid h
  clear h
  have H0 := Lib.hid H.out
  have HD := Lib.hid (Drawn.refl w)
  rcases h1 : Tr.has xs i with _ | _
  · have Hf := Lib.hid (show Tr.under xs i j = false by unfold Tr.under; rw [h1]; rfl)
    have Hh := Lib.hid h1
    clear h1
    go_enter Try.func43, Try.ntmps43
    go_wp2_with fail
    refine (l3At_any _ _ _ xs _ _ H0.out hn).mono ?_
    rintro e w1 ⟨rfl, hd⟩
    have HD := Lib.hid (HD.out.trans hd)
    have Hw1 := Lib.hid (H0.out.to_drawn hd)
    clear hd
    rw [Hh.out]
    go_wp2
    go_ret
    exact ⟨Kit.ret_bool Hf.out.symm, HD.out⟩
  · rcases h2 : Tr.has xs j with _ | _
    · have Hf := Lib.hid (show Tr.under xs i j = false by unfold Tr.under; rw [h2, Bool.and_false]; rfl)
      have Hh := Lib.hid h1
      have Hh2 := Lib.hid h2
      clear h1 h2
      go_enter Try.func43, Try.ntmps43
      go_wp2_with fail
      refine (l3At_any _ _ _ xs _ _ H0.out hn).mono ?_
      rintro e w1 ⟨rfl, hd⟩
      have HD := Lib.hid (HD.out.trans hd)
      have Hw1 := Lib.hid (H0.out.to_drawn hd)
      clear hd
      rw [Hh.out]
      go_wp2_with fail
      refine (l3At_any _ _ _ xs _ _ Hw1.out hn).mono ?_
      rintro e w2 ⟨rfl, hd⟩
      have HD := Lib.hid (HD.out.trans hd)
      have Hw2 := Lib.hid (Hw1.out.to_drawn hd)
      clear hd
      rw [Hh2.out]
      go_wp2
      go_ret
      exact ⟨Kit.ret_bool Hf.out.symm, HD.out⟩
    · have Hf := Lib.hid (show Tr.under xs i j = (decide (i < j) && decide (j < Tr.endOf xs i)) by unfold Tr.under; rw [h1, h2]; rfl)
      have Hh := Lib.hid h1
      have Hh2 := Lib.hid h2
      clear h1 h2
      obtain ⟨E, hE⟩ : ∃ E, E = Tr.endOf xs i := ⟨_, rfl⟩
      have HE := Lib.hid hE
      rw [← hE] at Hf
      clear hE
      by_cases h3 : i < j
      · have e3 : decide (i < j) = true := by simpa using h3
        rw [e3] at Hf
        go_enter Try.func43, Try.ntmps43
        go_wp2_with fail
        refine (l3At_any _ _ _ xs _ _ H0.out hn).mono ?_
        rintro e w1 ⟨rfl, hd⟩
        have HD := Lib.hid (HD.out.trans hd)
        have Hw1 := Lib.hid (H0.out.to_drawn hd)
        clear hd
        rw [Hh.out]
        go_wp2_with fail
        refine (l3At_any _ _ _ xs _ _ Hw1.out hn).mono ?_
        rintro e w2 ⟨rfl, hd⟩
        have HD := Lib.hid (HD.out.trans hd)
        have Hw2 := Lib.hid (Hw1.out.to_drawn hd)
        clear hd
        rw [Hh2.out]
        go_wp2_with fail
        refine (specEndOf_any _ _ _ xs _ _ Hw2.out hn).mono ?_
        rintro e w3 ⟨rfl, hd⟩
        have HD := Lib.hid (HD.out.trans hd)
        clear hd
        rw [← HE.out]
        go_wp2
        go_ret
        exact ⟨Kit.ret_bool (by rw [Hf.out]; simp), HD.out⟩
      · have e3 : decide (i < j) = false := by simpa using h3
        rw [e3] at Hf
        go_enter Try.func43, Try.ntmps43
        go_wp2_with fail
        refine (l3At_any _ _ _ xs _ _ H0.out hn).mono ?_
        rintro e w1 ⟨rfl, hd⟩
        have HD := Lib.hid (HD.out.trans hd)
        have Hw1 := Lib.hid (H0.out.to_drawn hd)
        clear hd
        rw [Hh.out]
        go_wp2_with fail
        refine (l3At_any _ _ _ xs _ _ Hw1.out hn).mono ?_
        rintro e w2 ⟨rfl, hd⟩
        have HD := Lib.hid (HD.out.trans hd)
        have Hw2 := Lib.hid (Hw1.out.to_drawn hd)
        clear hd
        rw [Hh2.out]
        go_wp2
        go_ret
        exact ⟨Kit.ret_bool (by rw [Hf.out]; simp), HD.out⟩


end Go.Proofs.Ytnfjdlocmdgefaa

/- Contracts (MapS). -/
namespace Go.Proofs.Ytnfjdlocmdgefaa
open Go.RowKit
set_option linter.unusedVariables false

set_option maxHeartbeats 3200000 in
set_option maxRecDepth 100000 in
theorem specMapOk_any (A A' A'' : Option Addr) (n n' n'' c c' c'' : Nat) (xs ys ms : Tr) (w : World) (h : NdIn w w.heap.size A n xs) (h' : NdIn w w.heap.size A' n' ys) (h'' : NdIn w w.heap.size A'' n'' ms) (hn : n ≤ 1048576) (hn' : n' ≤ 1048576) (hn'' : n'' ≤ 1048576) :
    Calls Try.prog 14 #[.slice A n c, .slice A' n' c', .slice A'' n'' c''] w fun e w' => e = .returned (.bool (Mp.ok xs ys ms)) ∧ Drawn w w' := by
  have H := Lib.hid h
  have H' := Lib.hid h'
  have H2 := Lib.hid h''
  clear h h' h''
  have HL := Lib.hid H2.out.1
  go_enter Try.func14, Try.ntmps14
  go_wp2
  go_loopw [7] (fun iv wr => ∃ k : Nat, k ≤ n'' ∧ iv = .int .i64 k ∧ (∀ q, q < k → Mp.okAt xs ys ms q = true) ∧ Drawn w wr) (fun i _ => n'' - (intOf i).toNat)
  case atStart => exact ⟨0, by omega, rfl, fun q hq => absurd hq (by omega), Drawn.refl _⟩
  case round =>
    obtain ⟨k, hk, rfl, hgood, hD⟩ := hrel
    have HG := Lib.hid hgood
    have HD := Lib.hid hD
    clear hgood hD
    by_cases hlt : k < n''
    · obtain ⟨ad, rfl, hb, hl, hd⟩ := (H2.out.to_drawn HD.out).at_ (k := k) hlt
      have hk0 : (0 : Int) ≤ (k : Int) := by omega
      have hklt : (k : Int) < (n'' : Int) := by omega
      have HK := Lib.hid (show k < ms.length by rw [HL.out]; exact hlt)
      obtain ⟨b1, hb1⟩ : ∃ b, b = Tr.has xs (Tr.l ms k) := ⟨_, rfl⟩
      obtain ⟨b2, hb2⟩ : ∃ b, b = Tr.has ys (Tr.d ms k) := ⟨_, rfl⟩
      have QA := Lib.hid (fun (wq : World) (hd : Drawn wr wq) => show Calls Try.prog 42 #[.slice A n c, .int .i64 (Tr.l ms k)] wq fun e w' => e = .returned (.bool b1) ∧ Drawn wq w' from by rw [hb1]; exact l3At_any _ _ _ xs _ _ ((H.out.to_drawn HD.out).to_drawn hd) hn)
      have QB := Lib.hid (fun (wq : World) (hd : Drawn wr wq) => show Calls Try.prog 42 #[.slice A' n' c', .int .i64 (Tr.d ms k)] wq fun e w' => e = .returned (.bool b2) ∧ Drawn wq w' from by rw [hb2]; exact l3At_any _ _ _ ys _ _ ((H'.out.to_drawn HD.out).to_drawn hd) hn')
      have HB1 := Lib.hid hb1
      have HB2 := Lib.hid hb2
      clear hb1 hb2
      cases b1 with
      | false =>
        have hf := Lib.hid (Mp.ok_no HK.out (Mp.no_a HB1.out.symm) : Mp.ok xs ys ms = false)
        as_aux_lemma =>
          go_wp2_with fail
          go_quiet (first | (go_at_call 42; with_reducible exact quiet_drawn (QA.out _ ((Drawn.refl _).drewN _))) | (go_at_call 42; with_reducible exact quiet_drawn (QB.out _ ((Drawn.refl _).drewN _))))
          go_wp2
          go_ret
          exact ⟨Kit.ret_bool hf.out.symm, HD.out.trans ((Drawn.refl _).drewN _)⟩
      | true =>
        cases b2 with
        | false =>
          have hf := Lib.hid (Mp.ok_no HK.out (Mp.no_b HB2.out.symm) : Mp.ok xs ys ms = false)
          as_aux_lemma =>
            go_wp2_with fail
            go_quiet (first | (go_at_call 42; with_reducible exact quiet_drawn (QA.out _ ((Drawn.refl _).drewN _))) | (go_at_call 42; with_reducible exact quiet_drawn (QB.out _ ((Drawn.refl _).drewN _))))
            go_wp2
            go_ret
            exact ⟨Kit.ret_bool hf.out.symm, HD.out.trans ((Drawn.refl _).drewN _)⟩
        | true =>
          rcases (show (0 < k ∧ Tr.l ms k ≤ Tr.l ms (k - 1)) ∨ (0 < k ∧ Tr.l ms (k - 1) < Tr.l ms k) ∨ k = 0 by omega) with ⟨h0, h1⟩ | ⟨h0, h1⟩ | h0
          · have hf := Lib.hid (Mp.ok_no HK.out (Mp.no_c (k := k - 1) (by omega) (Mp.at_l (by omega))) : Mp.ok xs ys ms = false)
            obtain ⟨hl1, hd1⟩ := (H2.out.to_drawn HD.out).here (k := k - 1) (by omega)
            obtain ⟨k1, hk1⟩ : ∃ k1, k1 = k - 1 := ⟨_, rfl⟩
            rw [← hk1] at h1 hl1
            clear hd1
            have a1 : IntKind.i64.wrap ((k : Int) - 1) = (k1 : Int) := by rw [Kit.w64 (by omega) (by omega)]; omega
            have g0 : decide (0 < k) = true := decide_eq_true h0
            have g1 : decide (Tr.l ms k ≤ Tr.l ms k1) = true := decide_eq_true h1
            have g2 : (0 : Int) ≤ (k1 : Int) := by omega
            have g3 : (k1 : Int) < (n'' : Int) := by omega
            clear hk1
            as_aux_lemma =>
              go_wp2_with fail
              go_quiet (first | (go_at_call 42; with_reducible exact quiet_drawn (QA.out _ ((Drawn.refl _).drewN _))) | (go_at_call 42; with_reducible exact quiet_drawn (QB.out _ ((Drawn.refl _).drewN _))))
              go_wp2
              go_ret
              exact ⟨Kit.ret_bool hf.out.symm, HD.out.trans ((Drawn.refl _).drewN _)⟩
          · obtain ⟨hl1, hd1⟩ := (H2.out.to_drawn HD.out).here (k := k - 1) (by omega)
            have HC := Lib.hid (fun q (hq : q < k) => (Mp.chain HG.out (fun _ => h1) hq : Tr.l ms q < Tr.l ms k))
            obtain ⟨k1, hk1⟩ : ∃ k1, k1 = k - 1 := ⟨_, rfl⟩
            rw [← hk1] at h1 hl1
            clear hd1
            have a1 : IntKind.i64.wrap ((k : Int) - 1) = (k1 : Int) := by rw [Kit.w64 (by omega) (by omega)]; omega
            have g0 : decide (0 < k) = true := decide_eq_true h0
            have g1 : decide (Tr.l ms k ≤ Tr.l ms k1) = false := decide_eq_false (by omega)
            have g2 : (0 : Int) ≤ (k1 : Int) := by omega
            have g3 : (k1 : Int) < (n'' : Int) := by omega
            clear hk1 h1
            as_aux_lemma =>
              go_wp2_with fail
              go_quiet (first | (go_at_call 42; with_reducible exact quiet_drawn (QA.out _ ((Drawn.refl _).drewN _))) | (go_at_call 42; with_reducible exact quiet_drawn (QB.out _ ((Drawn.refl _).drewN _))))
              clear a1 g0 g1 g2 g3 hl1
              have HD := Lib.hid (HD.out.trans ((Drawn.refl wr).drewN nq))
              go_wp2_with fail
              clear hl hd
              go_loopw [8] (fun jv wr => ∃ j : Nat, j ≤ k ∧ jv = .int .i64 j ∧ (∀ q, q < j → Mp.at xs ys ms (Tr.l ms k) (Tr.d ms k) q = true) ∧ Drawn w wr) (fun j _ => k - (intOf j).toNat)
              case atStart => exact ⟨0, by omega, rfl, fun q hq => absurd hq (by omega), HD.out⟩
              case round =>
                obtain ⟨j, hj, rfl, hgj, hDj⟩ := hrel
                have HJ := Lib.hid hgj
                have HDj := Lib.hid hDj
                clear hgj hDj
                by_cases hjk : j < k
                · obtain ⟨hl, hd⟩ := (H2.out.to_drawn HDj.out).here (k := k) hlt
                  obtain ⟨hl2, hd2⟩ := (H2.out.to_drawn HDj.out).here (k := j) (by omega)
                  have hj0 : (0 : Int) ≤ (j : Int) := by omega
                  have hj1 : (j : Int) < (n'' : Int) := by omega
                  by_cases hge : Tr.d ms k ≤ Tr.d ms j
                  · have hf := Lib.hid (Mp.ok_no HK.out (Mp.no_c hjk (Mp.at_d (by omega))) : Mp.ok xs ys ms = false)
                    have g1 : decide (Tr.d ms k ≤ Tr.d ms j) = true := decide_eq_true hge
                    clear hge
                    go_wp2_with fail
                    go_quiet (fail)
                    go_wp2
                    go_ret
                    exact ⟨Kit.ret_bool hf.out.symm, HDj.out.trans ((Drawn.refl _).drewN _)⟩
                  · have g1 : decide (Tr.d ms k ≤ Tr.d ms j) = false := decide_eq_false hge
                    obtain ⟨u1, hu1⟩ : ∃ u, u = Tr.under xs (Tr.l ms j) (Tr.l ms k) := ⟨_, rfl⟩
                    obtain ⟨u2, hu2⟩ : ∃ u, u = Tr.under ys (Tr.d ms j) (Tr.d ms k) := ⟨_, rfl⟩
                    have QU := Lib.hid (fun (wq : World) (hq : Drawn wr wq) => show Calls Try.prog 43 #[.slice A n c, .int .i64 (Tr.l ms j), .int .i64 (Tr.l ms k)] wq fun e w' => e = .returned (.bool u1) ∧ Drawn wq w' from by rw [hu1]; exact specUnder_any _ _ _ xs _ _ _ ((H.out.to_drawn HDj.out).to_drawn hq) hn)
                    have QV := Lib.hid (fun (wq : World) (hq : Drawn wr wq) => show Calls Try.prog 43 #[.slice A' n' c', .int .i64 (Tr.d ms j), .int .i64 (Tr.d ms k)] wq fun e w' => e = .returned (.bool u2) ∧ Drawn wq w' from by rw [hu2]; exact specUnder_any _ _ _ ys _ _ _ ((H'.out.to_drawn HDj.out).to_drawn hq) hn')
                    have HLT := Lib.hid hge
                    have HU1 := Lib.hid hu1
                    have HU2 := Lib.hid hu2
                    clear hge hu1 hu2
                    cases u1 with
                    | false =>
                      cases u2 with
                      | false =>
                        have HA := Lib.hid (Mp.at_yes (HC.out j hjk) (by have := HLT.out; omega) (by rw [← HU1.out, ← HU2.out]) : Mp.at xs ys ms (Tr.l ms k) (Tr.d ms k) j = true)
                        go_wp2_with fail
                        go_quiet (first | (go_at_call 43; with_reducible exact quiet_drawn (QU.out _ ((Drawn.refl _).drewN _))) | (go_at_call 43; with_reducible exact quiet_drawn (QV.out _ ((Drawn.refl _).drewN _))))
                        go_wp2
                        go_roundw
                        case rel => exact ⟨j + 1, by omega, by go_num, fun q hq => by
                          rcases Nat.lt_succ_iff_lt_or_eq.1 hq with h' | rfl
                          · exact HJ.out q h'
                          · exact HA.out, HDj.out.trans ((Drawn.refl _).drewN _)⟩
                        case measure => simp [intOf]; omega
                      | true =>
                        have hf := Lib.hid (Mp.ok_no HK.out (Mp.no_c hjk (Mp.at_u (by rw [← HU1.out, ← HU2.out]; decide))) : Mp.ok xs ys ms = false)
                        go_wp2_with fail
                        go_quiet (first | (go_at_call 43; with_reducible exact quiet_drawn (QU.out _ ((Drawn.refl _).drewN _))) | (go_at_call 43; with_reducible exact quiet_drawn (QV.out _ ((Drawn.refl _).drewN _))))
                        go_wp2
                        go_ret
                        exact ⟨Kit.ret_bool hf.out.symm, HDj.out.trans ((Drawn.refl _).drewN _)⟩
                    | true =>
                      cases u2 with
                      | false =>
                        have hf := Lib.hid (Mp.ok_no HK.out (Mp.no_c hjk (Mp.at_u (by rw [← HU1.out, ← HU2.out]; decide))) : Mp.ok xs ys ms = false)
                        go_wp2_with fail
                        go_quiet (first | (go_at_call 43; with_reducible exact quiet_drawn (QU.out _ ((Drawn.refl _).drewN _))) | (go_at_call 43; with_reducible exact quiet_drawn (QV.out _ ((Drawn.refl _).drewN _))))
                        go_wp2
                        go_ret
                        exact ⟨Kit.ret_bool hf.out.symm, HDj.out.trans ((Drawn.refl _).drewN _)⟩
                      | true =>
                        have HA := Lib.hid (Mp.at_yes (HC.out j hjk) (by have := HLT.out; omega) (by rw [← HU1.out, ← HU2.out]) : Mp.at xs ys ms (Tr.l ms k) (Tr.d ms k) j = true)
                        go_wp2_with fail
                        go_quiet (first | (go_at_call 43; with_reducible exact quiet_drawn (QU.out _ ((Drawn.refl _).drewN _))) | (go_at_call 43; with_reducible exact quiet_drawn (QV.out _ ((Drawn.refl _).drewN _))))
                        go_wp2
                        go_roundw
                        case rel => exact ⟨j + 1, by omega, by go_num, fun q hq => by
                          rcases Nat.lt_succ_iff_lt_or_eq.1 hq with h' | rfl
                          · exact HJ.out q h'
                          · exact HA.out, HDj.out.trans ((Drawn.refl _).drewN _)⟩
                        case measure => simp [intOf]; omega
                · obtain rfl : k = j := by omega
                  have HOK := Lib.hid (Mp.okAt_yes HB1.out.symm HB2.out.symm (fun q hq => HJ.out q hq) : Mp.okAt xs ys ms k = true)
                  go_wp2
                  go_roundw
                  case rel => exact ⟨k + 1, by omega, by go_num, fun q hq => by
                    rcases Nat.lt_succ_iff_lt_or_eq.1 hq with h' | rfl
                    · exact HG.out q h'
                    · exact HOK.out, HDj.out⟩
                  case measure => simp [intOf]; omega
          · have HC := Lib.hid (fun q (hq : q < k) => (absurd hq (by omega) : Tr.l ms q < Tr.l ms k))
            have g0 : decide (0 < k) = false := decide_eq_false (by omega)
            clear h0
            as_aux_lemma =>
              go_wp2_with fail
              go_quiet (first | (go_at_call 42; with_reducible exact quiet_drawn (QA.out _ ((Drawn.refl _).drewN _))) | (go_at_call 42; with_reducible exact quiet_drawn (QB.out _ ((Drawn.refl _).drewN _))))
              clear g0
              have HD := Lib.hid (HD.out.trans ((Drawn.refl wr).drewN nq))
              go_wp2_with fail
              clear hl hd
              go_loopw [8] (fun jv wr => ∃ j : Nat, j ≤ k ∧ jv = .int .i64 j ∧ (∀ q, q < j → Mp.at xs ys ms (Tr.l ms k) (Tr.d ms k) q = true) ∧ Drawn w wr) (fun j _ => k - (intOf j).toNat)
              case atStart => exact ⟨0, by omega, rfl, fun q hq => absurd hq (by omega), HD.out⟩
              case round =>
                obtain ⟨j, hj, rfl, hgj, hDj⟩ := hrel
                have HJ := Lib.hid hgj
                have HDj := Lib.hid hDj
                clear hgj hDj
                by_cases hjk : j < k
                · obtain ⟨hl, hd⟩ := (H2.out.to_drawn HDj.out).here (k := k) hlt
                  obtain ⟨hl2, hd2⟩ := (H2.out.to_drawn HDj.out).here (k := j) (by omega)
                  have hj0 : (0 : Int) ≤ (j : Int) := by omega
                  have hj1 : (j : Int) < (n'' : Int) := by omega
                  by_cases hge : Tr.d ms k ≤ Tr.d ms j
                  · have hf := Lib.hid (Mp.ok_no HK.out (Mp.no_c hjk (Mp.at_d (by omega))) : Mp.ok xs ys ms = false)
                    have g1 : decide (Tr.d ms k ≤ Tr.d ms j) = true := decide_eq_true hge
                    clear hge
                    go_wp2_with fail
                    go_quiet (fail)
                    go_wp2
                    go_ret
                    exact ⟨Kit.ret_bool hf.out.symm, HDj.out.trans ((Drawn.refl _).drewN _)⟩
                  · have g1 : decide (Tr.d ms k ≤ Tr.d ms j) = false := decide_eq_false hge
                    obtain ⟨u1, hu1⟩ : ∃ u, u = Tr.under xs (Tr.l ms j) (Tr.l ms k) := ⟨_, rfl⟩
                    obtain ⟨u2, hu2⟩ : ∃ u, u = Tr.under ys (Tr.d ms j) (Tr.d ms k) := ⟨_, rfl⟩
                    have QU := Lib.hid (fun (wq : World) (hq : Drawn wr wq) => show Calls Try.prog 43 #[.slice A n c, .int .i64 (Tr.l ms j), .int .i64 (Tr.l ms k)] wq fun e w' => e = .returned (.bool u1) ∧ Drawn wq w' from by rw [hu1]; exact specUnder_any _ _ _ xs _ _ _ ((H.out.to_drawn HDj.out).to_drawn hq) hn)
                    have QV := Lib.hid (fun (wq : World) (hq : Drawn wr wq) => show Calls Try.prog 43 #[.slice A' n' c', .int .i64 (Tr.d ms j), .int .i64 (Tr.d ms k)] wq fun e w' => e = .returned (.bool u2) ∧ Drawn wq w' from by rw [hu2]; exact specUnder_any _ _ _ ys _ _ _ ((H'.out.to_drawn HDj.out).to_drawn hq) hn')
                    have HLT := Lib.hid hge
                    have HU1 := Lib.hid hu1
                    have HU2 := Lib.hid hu2
                    clear hge hu1 hu2
                    cases u1 with
                    | false =>
                      cases u2 with
                      | false =>
                        have HA := Lib.hid (Mp.at_yes (HC.out j hjk) (by have := HLT.out; omega) (by rw [← HU1.out, ← HU2.out]) : Mp.at xs ys ms (Tr.l ms k) (Tr.d ms k) j = true)
                        go_wp2_with fail
                        go_quiet (first | (go_at_call 43; with_reducible exact quiet_drawn (QU.out _ ((Drawn.refl _).drewN _))) | (go_at_call 43; with_reducible exact quiet_drawn (QV.out _ ((Drawn.refl _).drewN _))))
                        go_wp2
                        go_roundw
                        case rel => exact ⟨j + 1, by omega, by go_num, fun q hq => by
                          rcases Nat.lt_succ_iff_lt_or_eq.1 hq with h' | rfl
                          · exact HJ.out q h'
                          · exact HA.out, HDj.out.trans ((Drawn.refl _).drewN _)⟩
                        case measure => simp [intOf]; omega
                      | true =>
                        have hf := Lib.hid (Mp.ok_no HK.out (Mp.no_c hjk (Mp.at_u (by rw [← HU1.out, ← HU2.out]; decide))) : Mp.ok xs ys ms = false)
                        go_wp2_with fail
                        go_quiet (first | (go_at_call 43; with_reducible exact quiet_drawn (QU.out _ ((Drawn.refl _).drewN _))) | (go_at_call 43; with_reducible exact quiet_drawn (QV.out _ ((Drawn.refl _).drewN _))))
                        go_wp2
                        go_ret
                        exact ⟨Kit.ret_bool hf.out.symm, HDj.out.trans ((Drawn.refl _).drewN _)⟩
                    | true =>
                      cases u2 with
                      | false =>
                        have hf := Lib.hid (Mp.ok_no HK.out (Mp.no_c hjk (Mp.at_u (by rw [← HU1.out, ← HU2.out]; decide))) : Mp.ok xs ys ms = false)
                        go_wp2_with fail
                        go_quiet (first | (go_at_call 43; with_reducible exact quiet_drawn (QU.out _ ((Drawn.refl _).drewN _))) | (go_at_call 43; with_reducible exact quiet_drawn (QV.out _ ((Drawn.refl _).drewN _))))
                        go_wp2
                        go_ret
                        exact ⟨Kit.ret_bool hf.out.symm, HDj.out.trans ((Drawn.refl _).drewN _)⟩
                      | true =>
                        have HA := Lib.hid (Mp.at_yes (HC.out j hjk) (by have := HLT.out; omega) (by rw [← HU1.out, ← HU2.out]) : Mp.at xs ys ms (Tr.l ms k) (Tr.d ms k) j = true)
                        go_wp2_with fail
                        go_quiet (first | (go_at_call 43; with_reducible exact quiet_drawn (QU.out _ ((Drawn.refl _).drewN _))) | (go_at_call 43; with_reducible exact quiet_drawn (QV.out _ ((Drawn.refl _).drewN _))))
                        go_wp2
                        go_roundw
                        case rel => exact ⟨j + 1, by omega, by go_num, fun q hq => by
                          rcases Nat.lt_succ_iff_lt_or_eq.1 hq with h' | rfl
                          · exact HJ.out q h'
                          · exact HA.out, HDj.out.trans ((Drawn.refl _).drewN _)⟩
                        case measure => simp [intOf]; omega
                · obtain rfl : k = j := by omega
                  have HOK := Lib.hid (Mp.okAt_yes HB1.out.symm HB2.out.symm (fun q hq => HJ.out q hq) : Mp.okAt xs ys ms k = true)
                  go_wp2
                  go_roundw
                  case rel => exact ⟨k + 1, by omega, by go_num, fun q hq => by
                    rcases Nat.lt_succ_iff_lt_or_eq.1 hq with h' | rfl
                    · exact HG.out q h'
                    · exact HOK.out, HDj.out⟩
                  case measure => simp [intOf]; omega
    · obtain rfl : k = n'' := by omega
      have HE := Lib.hid (Mp.ok_yes (fun q hq => HG.out q (by rw [← HL.out]; exact hq)) : Mp.ok xs ys ms = (Tr.ok xs && Tr.ok ys))
      obtain ⟨b1, hb1⟩ : ∃ b, b = Tr.ok xs := ⟨_, rfl⟩
      obtain ⟨b2, hb2⟩ : ∃ b, b = Tr.ok ys := ⟨_, rfl⟩
      rw [← hb1, ← hb2] at HE
      have C1 := Lib.hid (fun (wq : World) (hd : Drawn w wq) => show Calls Try.prog 10 #[.slice A n c] wq fun e w' => e = .returned (.bool b1) ∧ Drawn wq w' from by rw [hb1]; exact specTreeOk_any _ _ _ xs _ (H.out.to_drawn hd) hn)
      have C2 := Lib.hid (fun (wq : World) (hd : Drawn w wq) => show Calls Try.prog 10 #[.slice A' n' c'] wq fun e w' => e = .returned (.bool b2) ∧ Drawn wq w' from by rw [hb2]; exact specTreeOk_any _ _ _ ys _ (H'.out.to_drawn hd) hn')
      clear hb1 hb2
      cases b1 with
      | false =>
        as_aux_lemma =>
          go_wp2_with fail
          refine (C1.out _ HD.out).mono ?_
          rintro e w1 ⟨rfl, hd1⟩
          go_wp2
          go_ret
          exact ⟨Kit.ret_bool HE.out.symm, HD.out.trans hd1⟩
      | true =>
        as_aux_lemma =>
          go_wp2_with fail
          refine (C1.out _ HD.out).mono ?_
          rintro e w1 ⟨rfl, hd1⟩
          have HD := Lib.hid (HD.out.trans hd1)
          clear hd1
          go_wp2_with fail
          refine (C2.out _ HD.out).mono ?_
          rintro e w2 ⟨rfl, hd2⟩
          go_wp2
          go_ret
          exact ⟨Kit.ret_bool (by rw [HE.out]; rfl), HD.out.trans hd2⟩

end Go.Proofs.Ytnfjdlocmdgefaa
