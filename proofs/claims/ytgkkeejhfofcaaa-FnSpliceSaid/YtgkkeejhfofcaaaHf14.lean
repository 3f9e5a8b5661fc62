/- Texts of one claim laid into one file, in build order: Mc, Tur, Un, Bm4, UniM, SwpM, BthM. -/
import Derived.Test.YtgkkeejhfofcaaaHf1
import Derived.Test.YtgkkeejhfofcaaaHf12
import Derived.Test.YtgkkeejhfofcaaaHf13
import Derived.Test.YtgkkeejhfofcaaaHf2
import Derived.Test.YtgkkeejhfofcaaaHf9
/- Contracts (Mc). -/
namespace Go.Proofs.Ytgkkeejhfofcaaa
open Go.RowKit
set_option linter.unusedVariables false

def Mp.sum (f : Nat → Int) : Nat → Int
  | 0 => 0
  | n + 1 => Mp.sum f n + f n
theorem Mp.sum_congr {f g : Nat → Int} : ∀ {n : Nat}, (∀ i, i < n → f i = g i) → Mp.sum f n = Mp.sum g n
  | 0, _ => rfl
  | n + 1, h => by
    show Mp.sum f n + f n = Mp.sum g n + g n
    rw [Mp.sum_congr (fun i hi => h i (by omega)), h n (by omega)]
theorem Mp.sum_change {f g : Nat → Int} {p : Nat} (h : ∀ i, i ≠ p → g i = f i) : ∀ {n : Nat}, p < n → Mp.sum g n = Mp.sum f n + (g p - f p)
  | 0, hp => absurd hp (Nat.not_lt_zero p)
  | n + 1, hp => by
    show Mp.sum g n + g n = Mp.sum f n + f n + (g p - f p)
    by_cases e : p = n
    · subst e
      rw [Mp.sum_congr (f := g) (g := f) (fun i hi => h i (by omega))]
      omega
    · rw [Mp.sum_change h (show p < n by omega), h n (by omega)]
      omega
theorem Mp.l_take {ms : Tr} {m q : Nat} (h : q < m) : Tr.l (ms.take m) q = Tr.l ms q := by
  unfold Tr.l
  rw [show (ms.take m).getD q (0, 0) = ms.getD q (0, 0) by simp [List.getD_eq_getElem?_getD, h]]
theorem Mp.d_take {ms : Tr} {m q : Nat} (h : q < m) : Tr.d (ms.take m) q = Tr.d ms q := by
  unfold Tr.d
  rw [show (ms.take m).getD q (0, 0) = ms.getD q (0, 0) by simp [List.getD_eq_getElem?_getD, h]]
def Mp.of : Tr → Int → Int
  | [], _ => -1
  | p :: r, i => if p.1 = i then p.2 else Mp.of r i
theorem Mp.of_cases : ∀ (ms : Tr) (i : Int), (Mp.of ms i = -1 ∧ ∀ q, q < ms.length → Tr.l ms q ≠ i) ∨ ∃ q, q < ms.length ∧ Tr.l ms q = i ∧ Mp.of ms i = Tr.d ms q ∧ ∀ r, r < q → Tr.l ms r ≠ i
  | [], i => Or.inl ⟨rfl, fun q hq => absurd hq (Nat.not_lt_zero q)⟩
  | p :: t, i => by
    by_cases e : p.1 = i
    · exact Or.inr ⟨0, Nat.zero_lt_succ _, e, by unfold Mp.of; rw [if_pos e]; rfl, fun r hr => absurd hr (Nat.not_lt_zero r)⟩
    · have hs : Mp.of (p :: t) i = Mp.of t i := by rw [Mp.of, if_neg e]
      rcases Mp.of_cases t i with ⟨h1, h2⟩ | ⟨q, h1, h2, h3, h4⟩
      · refine Or.inl ⟨hs.trans h1, fun q hq => ?_⟩
        cases q with
        | zero => exact e
        | succ q => exact h2 q (by simpa using hq)
      · refine Or.inr ⟨q + 1, by simpa using h1, h2, hs.trans h3, fun r hr => ?_⟩
        cases r with
        | zero => exact e
        | succ r => exact h4 r (by omega)
theorem Mp.of_hit {ms : Tr} {i : Int} {k : Nat} (hk : k < ms.length) (he : Tr.l ms k = i) (h : ∀ q, q < k → Tr.l ms q ≠ i) : Mp.of ms i = Tr.d ms k := by
  rcases Mp.of_cases ms i with ⟨_, h2⟩ | ⟨q, h1, h2, h3, h4⟩
  · exact absurd he (h2 k hk)
  · have : q = k := by
      rcases Nat.lt_trichotomy q k with c | c | c
      · exact absurd h2 (h q c)
      · exact c
      · exact absurd he (h4 k c)
    rw [h3, this]
theorem Mp.of_none {ms : Tr} {i : Int} (h : ∀ q, q < ms.length → Tr.l ms q ≠ i) : Mp.of ms i = -1 := by
  rcases Mp.of_cases ms i with ⟨h1, _⟩ | ⟨q, h1, h2, _⟩
  · exact h1
  · exact absurd h2 (h q h1)
theorem Mp.of_skip {ms : Tr} {i : Int} {m : Nat} (hm : m < ms.length) (he : Tr.l ms m ≠ i) : Mp.of (ms.take (m + 1)) i = Mp.of (ms.take m) i := by
  have l1 : (ms.take m).length = m := by rw [List.length_take]; omega
  have l2 : (ms.take (m + 1)).length = m + 1 := by rw [List.length_take]; omega
  rcases Mp.of_cases (ms.take m) i with ⟨h1, h2⟩ | ⟨q, h1, h2, h3, h4⟩
  · rw [h1]
    refine Mp.of_none (fun q hq => ?_)
    rw [l2] at hq
    rw [Mp.l_take hq] at *
    rcases Nat.lt_succ_iff_lt_or_eq.1 hq with c | rfl
    · have := h2 q (by omega); rw [Mp.l_take c] at this; exact this
    · exact he
  · rw [l1] at h1
    rw [h3]
    rw [Mp.l_take h1] at h2
    rw [Mp.d_take h1, Mp.of_hit (k := q) (by omega) (by rw [Mp.l_take (show q < m + 1 by omega)]; exact h2) (fun r hr => by
      have := h4 r hr; rw [Mp.l_take (show r < m by omega)] at this; rw [Mp.l_take (show r < m + 1 by omega)]; exact this), Mp.d_take (show q < m + 1 by omega)]
theorem Mp.of_new {ms : Tr} {m : Nat} (hm : m < ms.length) (h : ∀ q, q < m → Tr.l ms q ≠ Tr.l ms m) : Mp.of (ms.take m) (Tr.l ms m) = -1 ∧ Mp.of (ms.take (m + 1)) (Tr.l ms m) = Tr.d ms m := by
  have l1 : (ms.take m).length = m := by rw [List.length_take]; omega
  have l2 : (ms.take (m + 1)).length = m + 1 := by rw [List.length_take]; omega
  refine ⟨Mp.of_none (fun q hq => ?_), ?_⟩
  · rw [l1] at hq; rw [Mp.l_take hq]; exact h q hq
  · rw [Mp.of_hit (k := m) (by rw [l2]; omega) (Mp.l_take (Nat.lt_add_one m)) (fun r hr => by rw [Mp.l_take (show r < m + 1 by omega)]; exact h r hr), Mp.d_take (Nat.lt_add_one m)]
def Mp.back : Tr → Int → Int
  | [], _ => -1
  | p :: r, i => if p.2 = i then p.1 else Mp.back r i
theorem Mp.back_cases : ∀ (ms : Tr) (i : Int), (Mp.back ms i = -1 ∧ ∀ q, q < ms.length → Tr.d ms q ≠ i) ∨ ∃ q, q < ms.length ∧ Tr.d ms q = i ∧ Mp.back ms i = Tr.l ms q ∧ ∀ r, r < q → Tr.d ms r ≠ i
  | [], i => Or.inl ⟨rfl, fun q hq => absurd hq (Nat.not_lt_zero q)⟩
  | p :: t, i => by
    by_cases e : p.2 = i
    · exact Or.inr ⟨0, Nat.zero_lt_succ _, e, by unfold Mp.back; rw [if_pos e]; rfl, fun r hr => absurd hr (Nat.not_lt_zero r)⟩
    · have hs : Mp.back (p :: t) i = Mp.back t i := by rw [Mp.back, if_neg e]
      rcases Mp.back_cases t i with ⟨h1, h2⟩ | ⟨q, h1, h2, h3, h4⟩
      · refine Or.inl ⟨hs.trans h1, fun q hq => ?_⟩
        cases q with
        | zero => exact e
        | succ q => exact h2 q (by simpa using hq)
      · refine Or.inr ⟨q + 1, by simpa using h1, h2, hs.trans h3, fun r hr => ?_⟩
        cases r with
        | zero => exact e
        | succ r => exact h4 r (by omega)
theorem Mp.back_hit {ms : Tr} {i : Int} {k : Nat} (hk : k < ms.length) (he : Tr.d ms k = i) (h : ∀ q, q < k → Tr.d ms q ≠ i) : Mp.back ms i = Tr.l ms k := by
  rcases Mp.back_cases ms i with ⟨_, h2⟩ | ⟨q, h1, h2, h3, h4⟩
  · exact absurd he (h2 k hk)
  · have : q = k := by
      rcases Nat.lt_trichotomy q k with c | c | c
      · exact absurd h2 (h q c)
      · exact c
      · exact absurd he (h4 k c)
    rw [h3, this]
theorem Mp.back_none {ms : Tr} {i : Int} (h : ∀ q, q < ms.length → Tr.d ms q ≠ i) : Mp.back ms i = -1 := by
  rcases Mp.back_cases ms i with ⟨h1, _⟩ | ⟨q, h1, h2, _⟩
  · exact h1
  · exact absurd h2 (h q h1)
theorem Mp.back_skip {ms : Tr} {i : Int} {m : Nat} (hm : m < ms.length) (he : Tr.d ms m ≠ i) : Mp.back (ms.take (m + 1)) i = Mp.back (ms.take m) i := by
  have l1 : (ms.take m).length = m := by rw [List.length_take]; omega
  have l2 : (ms.take (m + 1)).length = m + 1 := by rw [List.length_take]; omega
  rcases Mp.back_cases (ms.take m) i with ⟨h1, h2⟩ | ⟨q, h1, h2, h3, h4⟩
  · rw [h1]
    refine Mp.back_none (fun q hq => ?_)
    rw [l2] at hq
    rw [Mp.d_take hq] at *
    rcases Nat.lt_succ_iff_lt_or_eq.1 hq with c | rfl
    · have := h2 q (by omega); rw [Mp.d_take c] at this; exact this
    · exact he
  · rw [l1] at h1
    rw [h3]
    rw [Mp.d_take h1] at h2
    rw [Mp.l_take h1, Mp.back_hit (k := q) (by omega) (by rw [Mp.d_take (show q < m + 1 by omega)]; exact h2) (fun r hr => by
      have := h4 r hr; rw [Mp.d_take (show r < m by omega)] at this; rw [Mp.d_take (show r < m + 1 by omega)]; exact this), Mp.l_take (show q < m + 1 by omega)]
theorem Mp.back_new {ms : Tr} {m : Nat} (hm : m < ms.length) (h : ∀ q, q < m → Tr.d ms q ≠ Tr.d ms m) : Mp.back (ms.take m) (Tr.d ms m) = -1 ∧ Mp.back (ms.take (m + 1)) (Tr.d ms m) = Tr.l ms m := by
  have l1 : (ms.take m).length = m := by rw [List.length_take]; omega
  have l2 : (ms.take (m + 1)).length = m + 1 := by rw [List.length_take]; omega
  refine ⟨Mp.back_none (fun q hq => ?_), ?_⟩
  · rw [l1] at hq; rw [Mp.d_take hq]; exact h q hq
  · rw [Mp.back_hit (k := m) (by rw [l2]; omega) (Mp.d_take (Nat.lt_add_one m)) (fun r hr => by rw [Mp.d_take (show r < m + 1 by omega)]; exact h r hr), Mp.l_take (Nat.lt_add_one m)]
def Mp.gx (xs ys : Tr) (k : Co) (ms : Tr) (i : Nat) : Int := if Mp.of ms i < 0 then Co.del k (Tr.l xs i) else Co.rel k (Tr.l xs i) (Tr.l ys (Mp.of ms i).toNat)
def Mp.gy (ys : Tr) (k : Co) (ms : Tr) (j : Nat) : Int := if Mp.back ms j < 0 then Co.ins k (Tr.l ys j) else 0
/-- the cost of a mapping's first m pairs -/
def Mp.part (xs ys : Tr) (k : Co) (ms : Tr) (m : Nat) : Int := Mp.sum (Mp.gx xs ys k (ms.take m)) xs.length + Mp.sum (Mp.gy ys k (ms.take m)) ys.length
def Mp.cost (xs ys : Tr) (k : Co) (ms : Tr) : Int := if Mp.ok xs ys ms && Co.ok k then Mp.part xs ys k ms ms.length else -1
section
variable {xs ys ms : Tr} {k : Co}
theorem Mp.part_zero : Mp.part xs ys k ms 0 = Mp.sum (fun i => Co.del k (Tr.l xs i)) xs.length + Mp.sum (fun j => Co.ins k (Tr.l ys j)) ys.length := by
  unfold Mp.part
  rfl
theorem Mp.part_succ {m a b : Nat} (hm : m < ms.length) (h : Mp.okAt xs ys ms m = true) (ha : Tr.l ms m = (a : Int)) (hb : Tr.d ms m = (b : Int)) :
    Mp.part xs ys k ms (m + 1) = Mp.part xs ys k ms m + (Co.rel k (Tr.l xs a) (Tr.l ys b) - Co.del k (Tr.l xs a) - Co.ins k (Tr.l ys b)) := by
  obtain ⟨h1, h2, h3⟩ := Mp.okAt_parts h
  simp only [Tr.has, Bool.and_eq_true, decide_eq_true_eq] at h1 h2
  have n1 := Mp.of_new hm (fun q hq => by have := (h3 q hq).1; omega)
  have n2 := Mp.back_new hm (fun q hq => by have := (h3 q hq).2.1; omega)
  have e1 : Mp.sum (Mp.gx xs ys k (ms.take (m + 1))) xs.length = Mp.sum (Mp.gx xs ys k (ms.take m)) xs.length + (Mp.gx xs ys k (ms.take (m + 1)) a - Mp.gx xs ys k (ms.take m) a) := by
    refine Mp.sum_change (fun i hi => ?_) (by omega)
    unfold Mp.gx
    rw [Mp.of_skip hm (by omega)]
  have e2 : Mp.sum (Mp.gy ys k (ms.take (m + 1))) ys.length = Mp.sum (Mp.gy ys k (ms.take m)) ys.length + (Mp.gy ys k (ms.take (m + 1)) b - Mp.gy ys k (ms.take m) b) := by
    refine Mp.sum_change (fun i hi => ?_) (by omega)
    unfold Mp.gy
    rw [Mp.back_skip hm (by omega)]
  rw [ha, hb] at n1
  rw [hb, ha] at n2
  have g1 : Mp.gx xs ys k (ms.take m) a = Co.del k (Tr.l xs a) := by unfold Mp.gx; rw [n1.1, if_pos (by omega)]
  have g2 : Mp.gx xs ys k (ms.take (m + 1)) a = Co.rel k (Tr.l xs a) (Tr.l ys b) := by unfold Mp.gx; rw [n1.2, if_neg (by omega)]; rfl
  have g3 : Mp.gy ys k (ms.take m) b = Co.ins k (Tr.l ys b) := by unfold Mp.gy; rw [n2.1, if_pos (by omega)]
  have g4 : Mp.gy ys k (ms.take (m + 1)) b = 0 := by unfold Mp.gy; rw [n2.2, if_neg (by omega)]
  unfold Mp.part
  rw [e1, e2, g1, g2, g3, g4]
  omega
theorem Mp.ok_all (h : Mp.ok xs ys ms = true) : Tr.ok xs = true ∧ Tr.ok ys = true ∧ ∀ q, q < ms.length → Mp.okAt xs ys ms q = true := by
  simp only [Mp.ok, Bool.and_eq_true] at h
  exact ⟨h.1.1, h.1.2, Mp.all_iff.1 h.2⟩
theorem Mp.pair_at {q : Nat} (h : Mp.okAt xs ys ms q = true) : ∃ a b : Nat, a < xs.length ∧ b < ys.length ∧ Tr.l ms q = (a : Int) ∧ Tr.d ms q = (b : Int) := by
  obtain ⟨h1, h2, _⟩ := Mp.okAt_parts h
  simp only [Tr.has, Bool.and_eq_true, decide_eq_true_eq] at h1 h2
  exact ⟨(Tr.l ms q).toNat, (Tr.d ms q).toNat, by omega, by omega, by omega, by omega⟩
end

end Go.Proofs.Ytgkkeejhfofcaaa

/- Contracts (Tur). -/
namespace Go.Proofs.Ytgkkeejhfofcaaa
open Go.RowKit
set_option linter.unusedVariables false

/-- the first pair is that of the roots -/
def Tr.rooted (xs : Tr) : Bool := decide (0 < xs.length) && (decide (Tr.l xs 0 = 0) && decide (Tr.d xs 0 = 0))
/-- each pair the other way round -/
def Tr.turn (xs : Tr) : Tr := xs.map (fun q => (q.2, q.1))
theorem Tr.turn_length (xs : Tr) : (Tr.turn xs).length = xs.length := by simp [Tr.turn]
theorem Tr.turn_l (xs : Tr) {k : Nat} (hk : k < xs.length) : Tr.l (Tr.turn xs) k = Tr.d xs k := by simp [Tr.turn, Tr.l, Tr.d, List.getD_eq_getElem?_getD, hk]
theorem Tr.turn_d (xs : Tr) {k : Nat} (hk : k < xs.length) : Tr.d (Tr.turn xs) k = Tr.l xs k := by simp [Tr.turn, Tr.l, Tr.d, List.getD_eq_getElem?_getD, hk]
end Go.Proofs.Ytgkkeejhfofcaaa

/- Contracts (Un). -/
namespace Go.Proofs.Ytgkkeejhfofcaaa
open Go.RowKit
set_option linter.unusedVariables false

/-- is a the first of one of the first k pairs? -/
def Un.has (ms : Tr) (a : Int) : Nat → Bool
  | 0 => false
  | k + 1 => Un.has ms a k || decide (Tr.l ms k = a)
/-- the places below i that are first of no pair -/
def Un.to (ms : Tr) : Nat → List Int
  | 0 => []
  | i + 1 => if Un.has ms (i : Int) ms.length = true then Un.to ms i else Un.to ms i ++ [(i : Int)]
theorem Un.has_up {ms : Tr} {a : Int} {k : Nat} (h : Un.has ms a k = true) : ∀ m, k ≤ m → Un.has ms a m = true := by
  intro m
  induction m with
  | zero => intro hk; obtain rfl : k = 0 := by omega
            exact h
  | succ m ih =>
    intro hk
    by_cases e : k = m + 1
    · rw [← e]; exact h
    · rw [Un.has, ih (by omega)]; rfl
theorem Un.has_hit {ms : Tr} {a : Int} {k m : Nat} (h : Tr.l ms k = a) (hk : k < m) : Un.has ms a m = true := Un.has_up (k := k + 1) (by rw [Un.has, decide_eq_true h, Bool.or_true]) m (by omega)
theorem Un.has_iff {ms : Tr} {a : Int} : ∀ k, Un.has ms a k = true ↔ ∃ q, q < k ∧ Tr.l ms q = a := by
  intro k
  constructor
  · induction k with
    | zero => intro h; exact absurd h (by simp [Un.has])
    | succ k ih =>
      intro h
      rw [Un.has, Bool.or_eq_true] at h
      rcases h with h | h
      · obtain ⟨q, h1, h2⟩ := ih h; exact ⟨q, by omega, h2⟩
      · exact ⟨k, by omega, of_decide_eq_true h⟩
  · rintro ⟨q, h1, h2⟩; exact Un.has_hit h2 h1
theorem Un.to_yes {ms : Tr} {i : Nat} (h : Un.has ms (i : Int) ms.length = true) : Un.to ms (i + 1) = Un.to ms i := by rw [Un.to, if_pos h]
theorem Un.to_no {ms : Tr} {i : Nat} (h : Un.has ms (i : Int) ms.length = false) : Un.to ms (i + 1) = Un.to ms i ++ [(i : Int)] := by rw [Un.to, if_neg (by rw [h]; decide)]
end Go.Proofs.Ytgkkeejhfofcaaa

/- Contracts (Bm4). -/
namespace Go.Proofs.Ytgkkeejhfofcaaa
open Go.RowKit
set_option linter.unusedVariables false

section
variable {xs ys : Tr} {k : Co}
theorem pr_at (L : Tr) {i : Nat} (h : i < L.length) : L[i] = (Tr.l L i, Tr.d L i) := by simp [Tr.l, Tr.d, List.getD_eq_getElem?_getD, h]
/-- pairs in order are a valid mapping -/
theorem Bm.ok_of {L : Tr} (hx : Tr.ok xs = true) (hy : Tr.ok ys = true) (h : L.Pairwise (Bm.R xs ys)) (hin : ∀ e ∈ L, Bm.inn xs ys 0 xs.length 0 ys.length e) : Mp.ok xs ys L = true := by
  rw [Mp.ok_yes, hx, hy]
  · rfl
  · intro i hi
    have e1 := pr_at L hi
    obtain ⟨u, v, e2, _, hu, _, hv⟩ := hin L[i] (List.getElem_mem hi)
    rw [e1] at e2
    injection e2 with e3 e4
    refine Mp.okAt_yes (by rw [e3]; exact Tr.has_nd hx hu) (by rw [e4]; exact Tr.has_nd hy hv) (fun m hm => ?_)
    have r := List.pairwise_iff_getElem.1 h m i (by omega) hi hm
    rw [e1, pr_at L (show m < L.length by omega)] at r
    exact Mp.at_yes r.1 r.2.1 r.2.2
/-- what a pair takes off -/
def Bm.w (xs ys : Tr) (k : Co) (e : Int × Int) : Int := Co.rel k (Tr.l xs e.1.toNat) (Tr.l ys e.2.toNat) - Co.del k (Tr.l xs e.1.toNat) - Co.ins k (Tr.l ys e.2.toNat)
def Bm.ws (xs ys : Tr) (k : Co) : Tr → Int
  | [] => 0
  | e :: L => Bm.w xs ys k e + Bm.ws xs ys k L
theorem Bm.ws_app (A B : Tr) : Bm.ws xs ys k (A ++ B) = Bm.ws xs ys k A + Bm.ws xs ys k B := by
  induction A with
  | nil => simp [Bm.ws]
  | cons e A ih => rw [List.cons_append, Bm.ws, ih, Bm.ws]; omega
theorem Bm.part_ws {L : Tr} (h : Mp.ok xs ys L = true) : ∀ m, m ≤ L.length → Mp.part xs ys k L m = Mp.part xs ys k L 0 + Bm.ws xs ys k (L.take m)
  | 0, _ => by simp [Bm.ws]
  | m + 1, hm => by
    have ih := Bm.part_ws h m (by omega)
    have hk := (Mp.ok_all h).2.2 m (by omega)
    obtain ⟨a, b, _, _, ha, hb⟩ := Mp.pair_at hk
    rw [Mp.part_succ (by omega) hk ha hb, ih, List.take_add_one, List.getElem?_eq_getElem (show m < L.length by omega), pr_at L (show m < L.length by omega), ha, hb, Bm.ws_app]
    simp only [Option.toList_some, Bm.ws, Bm.w, Int.toNat_natCast]
    omega
/-- sums over an interval of places -/
def Bm.sx (xs : Tr) (f : Int → Int) (i j : Nat) : Int := Mp.sum (fun u => f (Tr.xa xs u)) j - Mp.sum (fun u => f (Tr.xa xs u)) i
theorem Bm.sx_self (f : Int → Int) (i : Nat) : Bm.sx xs f i i = 0 := by unfold Bm.sx; omega
theorem Bm.sx_succ (f : Int → Int) (i j : Nat) (h : 0 < j) : Bm.sx xs f i j = Bm.sx xs f i (j - 1) + f (Tr.xa xs (j - 1)) := by
  obtain ⟨m, rfl⟩ : ∃ m, j = m + 1 := ⟨j - 1, by omega⟩
  unfold Bm.sx
  simp only [Mp.sum, Nat.add_sub_cancel]
  omega
theorem Bm.sx_cat (f : Int → Int) (i m j : Nat) : Bm.sx xs f i j = Bm.sx xs f i m + Bm.sx xs f m j := by unfold Bm.sx; omega
theorem Bm.rr_del (hx : Tr.ok xs = true) {i p : Nat} : ∀ j, i ≤ j → j ≤ xs.length → RR xs ys k i j p p = Bm.sx xs (Co.del k) i j := by
  intro j
  induction j with
  | zero => intro h _; obtain rfl : i = 0 := by omega
            rw [Bm.sx_self]; exact RD_none (Nat.le_refl _) (Nat.le_refl _)
  | succ j ih =>
    intro h hj
    by_cases e : i = j + 1
    · subst e; rw [Bm.sx_self]; exact RD_none (Nat.le_refl _) (Nat.le_refl _)
    · have := RD_left (K := Co.cs k) (lb := Tr.la ys) (x := Tr.xa xs) (y := Tr.xa ys) (Tr.la_nest hx) (i := i) (j := j) (k := p) (l := p) (by omega) (by omega) (Nat.le_refl _)
      rw [Bm.sx_succ _ _ _ (by omega), Nat.add_sub_cancel, ← ih (by omega) (by omega)]
      exact this
theorem Bm.rr_ins (hy : Tr.ok ys = true) {i p : Nat} : ∀ q, p ≤ q → q ≤ ys.length → RR xs ys k i i p q = Bm.sx ys (Co.ins k) p q := by
  intro q
  induction q with
  | zero => intro h _; obtain rfl : p = 0 := by omega
            rw [Bm.sx_self]; exact RD_none (Nat.le_refl _) (Nat.le_refl _)
  | succ q ih =>
    intro h hj
    by_cases e : p = q + 1
    · subst e; rw [Bm.sx_self]; exact RD_none (Nat.le_refl _) (Nat.le_refl _)
    · have := RD_right (K := Co.cs k) (la := Tr.la xs) (x := Tr.xa xs) (y := Tr.xa ys) (Tr.la_nest hy) (i := i) (j := i) (k := p) (l := q) (Nat.le_refl _) (by omega) (by omega)
      rw [Bm.sx_succ _ _ _ (by omega), Nat.add_sub_cancel, ← ih (by omega) (by omega)]
      exact this
/-- sums over all nodes, by nodes and by places -/
theorem sum_add (f g : Nat → Int) : ∀ n, Mp.sum (fun i => f i + g i) n = Mp.sum f n + Mp.sum g n
  | 0 => rfl
  | n + 1 => by
    have := sum_add f g n
    simp only [Mp.sum]
    omega
theorem sum_zero : ∀ n, Mp.sum (fun _ => 0) n = 0
  | 0 => rfl
  | n + 1 => by have := sum_zero n; simp only [Mp.sum]; omega
theorem sum_swap (f : Nat → Nat → Int) (n : Nat) : ∀ m, Mp.sum (fun i => Mp.sum (fun j => f i j) m) n = Mp.sum (fun j => Mp.sum (fun i => f i j) n) m
  | 0 => by simp only [Mp.sum]; exact sum_zero n
  | m + 1 => by
    have := sum_swap f n m
    simp only [Mp.sum]
    rw [sum_add, this]
theorem sum_one (g : Nat → Int) (a : Nat) : ∀ n, Mp.sum (fun i => if i = a then g i else 0) n = if a < n then g a else 0
  | 0 => by simp [Mp.sum]
  | n + 1 => by
    have := sum_one g a n
    simp only [Mp.sum]
    rw [this]
    by_cases e : n = a
    · subst e; simp
    · rw [if_neg e]
      by_cases c : a < n
      · rw [if_pos c, if_pos (by omega)]; omega
      · rw [if_neg c, if_neg (by omega)]; omega
theorem sum_post (hx : Tr.ok xs = true) (f : Int → Int) : Mp.sum (fun i => f (Tr.l xs i)) xs.length = Mp.sum (fun u => f (Tr.xa xs u)) xs.length := by
  have e1 : Mp.sum (fun u => f (Tr.xa xs u)) xs.length = Mp.sum (fun u => Mp.sum (fun i => if i = Tr.nd xs u then f (Tr.l xs i) else 0) xs.length) xs.length := by
    refine Mp.sum_congr fun u hu => ?_
    obtain ⟨a, _, _, b⟩ := Tr.nd_at hx hu
    rw [sum_one (fun i => f (Tr.l xs i)), if_pos a, b]
  have e2 : Mp.sum (fun i => f (Tr.l xs i)) xs.length = Mp.sum (fun i => Mp.sum (fun u => if i = Tr.nd xs u then f (Tr.l xs i) else 0) xs.length) xs.length := by
    refine Mp.sum_congr fun i hi => ?_
    have hr := Tr.rk_lt hx hi
    have : ∀ u, u < xs.length → (if i = Tr.nd xs u then f (Tr.l xs i) else 0) = (if u = Tr.rk xs i then f (Tr.l xs i) else 0) := fun u hu => by
      by_cases e : i = Tr.nd xs u
      · rw [if_pos e, if_pos (by rw [e, (Tr.nd_at hx hu).2.1])]
      · rw [if_neg e, if_neg (fun h => e (by rw [h, Tr.nd_rk hx hi]))]
    rw [Mp.sum_congr this, sum_one (fun _ => f (Tr.l xs i)), if_pos hr]
  rw [e1, e2, sum_swap]
/-- nodes that belong to none, and those that do, are all -/
theorem Un.count {L : Tr} (h : L.Pairwise fun e e' => e.1 < e'.1) (h0 : ∀ e ∈ L, 0 ≤ e.1) : ∀ i, (Un.to L i).length + (L.filter fun e => decide (e.1 < (i : Int))).length = i
  | 0 => by
    rw [List.filter_eq_nil_iff.2 fun e he => by have := h0 e he; simp; omega]
    rfl
  | i + 1 => by
    have ih := Un.count h h0 i
    rw [← asc_split h i, List.length_append]
    cases hh : Un.has L (i : Int) L.length with
    | true =>
      rw [Un.to_yes hh]
      obtain ⟨q, hq, hl⟩ := (Un.has_iff _).1 hh
      have hm : L[q] ∈ (L.filter fun e => decide (e.1 = (i : Int))) := List.mem_filter.2 ⟨List.getElem_mem hq, by rw [pr_at L hq]; simpa using hl⟩
      rcases one_key h (i : Int) with hn | ⟨x, hx⟩
      · rw [hn] at hm; cases hm
      · rw [hx, List.length_singleton]; omega
    | false =>
      rw [Un.to_no hh, List.length_append, List.length_singleton]
      have : (L.filter fun e => decide (e.1 = (i : Int))) = [] := List.filter_eq_nil_iff.2 fun e he => by
        intro h2
        obtain ⟨q, hq, rfl⟩ := List.getElem_of_mem he
        rw [pr_at L hq] at h2
        have h3 := (Un.has_iff (ms := L) (a := (i : Int)) L.length).2 ⟨q, hq, by simpa using h2⟩
        rw [hh] at h3; cases h3
      rw [this]
      simp only [List.length_nil]
      omega
end

end Go.Proofs.Ytgkkeejhfofcaaa

/- The distances of trees whose labels are valid, under costs that agree on those. -/
namespace Go.Proofs.Ytgkkeejhfofcaaa
open Go.RowKit
set_option linter.unusedVariables false

def Fst.all (P : Int → Prop) : Fst → Prop
  | .nil => True
  | .snoc l a s => l.all P ∧ P a ∧ s.all P
/-! unit costs -/
theorem Co.unit_ok : Co.ok Co.unit = true := by decide
theorem Co.unit_dels : ∀ u : Nat, u < 6 → Co.del Co.unit u = 1 ∧ Co.ins Co.unit u = 1 := by decide
theorem Co.unit_rels : ∀ u : Nat, u < 6 → ∀ v : Nat, v < 6 → Co.rel Co.unit u v = if u = v then 0 else 1 := by decide
end Go.Proofs.Ytgkkeejhfofcaaa

/- Contracts (SwpM). -/
namespace Go.Proofs.Ytgkkeejhfofcaaa
open Go.RowKit
set_option linter.unusedVariables false

/-- costs with what goes and what comes exchanged -/
def Co.turn (k : Co) : Co := ⟨k.i, k.d, (List.range 36).map fun i => Zs.at k.r (i % 6 * 6 + i / 6)⟩
end Go.Proofs.Ytgkkeejhfofcaaa

/- Contracts (BthM). -/
namespace Go.Proofs.Ytgkkeejhfofcaaa
open Go.RowKit
set_option linter.unusedVariables false

def Tr.whole (xs : Tr) : Fst := fr (Tr.la xs) (Tr.xa xs) (Tr.la xs (xs.length - 1)) (xs.length - 1 + 1)
end Go.Proofs.Ytgkkeejhfofcaaa
