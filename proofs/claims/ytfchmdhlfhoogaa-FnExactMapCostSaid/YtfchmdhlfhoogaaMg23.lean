/- Texts of one claim laid into one file, in build order: Mp, Mc, OfS, UndS, MapS, DelS, InsS, McS, UndI, Px, FitI, MapI, McI, PrTo, PrEq, ExMapCost. -/
import Derived.Test.YtfchmdhlfhoogaaMg22
import Derived.BigQuiet
import Derived.Deep.RegionHeld3
import Derived.Laws.Entries
import Derived.Laws.MakeOwn
import Derived.Outline
import Derived.StillTailTactics
import Derived.Test.YtfchmdhlfhoogaaRows
/- Contracts (Mp). -/
namespace Go.Proofs.Ytfchmdhlfhoogaa
open Go.RowKit
set_option linter.unusedVariables false

/-- pair k can stand ahead of (a, b) -/
def Mp.at (xs ys ms : Tr) (a b : Int) (k : Nat) : Bool := decide (Tr.l ms k < a) && decide (Tr.d ms k < b) && (Tr.under xs (Tr.l ms k) a == Tr.under ys (Tr.d ms k) b)
def Mp.after (xs ys ms : Tr) (n : Nat) (a b : Int) : Bool := (List.range n).all (Mp.at xs ys ms a b)
def Mp.okAt (xs ys ms : Tr) (i : Nat) : Bool := Tr.has xs (Tr.l ms i) && Tr.has ys (Tr.d ms i) && Mp.after xs ys ms i (Tr.l ms i) (Tr.d ms i)
/-- a valid mapping -/
def Mp.ok (xs ys ms : Tr) : Bool := Tr.ok xs && Tr.ok ys && (List.range ms.length).all (Mp.okAt xs ys ms)
section
variable {xs ys ms : Tr} {a b : Int} {n i k : Nat}
theorem Mp.after_iff : Mp.after xs ys ms n a b = true ↔ ∀ k, k < n → Mp.at xs ys ms a b k = true := by
  unfold Mp.after
  rw [List.all_eq_true]
  exact ⟨fun h k hk => h k (List.mem_range.2 hk), fun h k hk => h k (List.mem_range.1 hk)⟩
theorem Mp.after_no (hk : k < n) (h : Mp.at xs ys ms a b k = false) : Mp.after xs ys ms n a b = false := by
  cases e : Mp.after xs ys ms n a b with
  | false => rfl
  | true => rw [Mp.after_iff.1 e k hk] at h; cases h
theorem Mp.all_iff : (List.range ms.length).all (Mp.okAt xs ys ms) = true ↔ ∀ k, k < ms.length → Mp.okAt xs ys ms k = true := by
  rw [List.all_eq_true]
  exact ⟨fun h k hk => h k (List.mem_range.2 hk), fun h k hk => h k (List.mem_range.1 hk)⟩
theorem Mp.ok_no (hk : k < ms.length) (h : Mp.okAt xs ys ms k = false) : Mp.ok xs ys ms = false := by
  cases e : Mp.ok xs ys ms with
  | false => rfl
  | true =>
    simp only [Mp.ok, Bool.and_eq_true] at e
    rw [Mp.all_iff.1 e.2 k hk] at h; cases h
theorem Mp.ok_yes (h : ∀ k, k < ms.length → Mp.okAt xs ys ms k = true) : Mp.ok xs ys ms = (Tr.ok xs && Tr.ok ys) := by
  unfold Mp.ok
  rw [Mp.all_iff.2 h, Bool.and_true]
theorem Mp.no_a (h : Tr.has xs (Tr.l ms i) = false) : Mp.okAt xs ys ms i = false := by unfold Mp.okAt; rw [h]; rfl
theorem Mp.no_b (h : Tr.has ys (Tr.d ms i) = false) : Mp.okAt xs ys ms i = false := by unfold Mp.okAt; rw [h, Bool.and_false]; rfl
theorem Mp.no_c (hk : k < i) (h : Mp.at xs ys ms (Tr.l ms i) (Tr.d ms i) k = false) : Mp.okAt xs ys ms i = false := by unfold Mp.okAt; rw [Mp.after_no hk h, Bool.and_false]
theorem Mp.at_l (h : ¬ Tr.l ms k < a) : Mp.at xs ys ms a b k = false := by unfold Mp.at; rw [decide_eq_false h]; rfl
theorem Mp.at_d (h : ¬ Tr.d ms k < b) : Mp.at xs ys ms a b k = false := by unfold Mp.at; rw [decide_eq_false h, Bool.and_false]; rfl
theorem Mp.at_u (h : Tr.under xs (Tr.l ms k) a ≠ Tr.under ys (Tr.d ms k) b) : Mp.at xs ys ms a b k = false := by
  unfold Mp.at
  rw [show (Tr.under xs (Tr.l ms k) a == Tr.under ys (Tr.d ms k) b) = false by simpa using h, Bool.and_false]
theorem Mp.at_yes (h1 : Tr.l ms k < a) (h2 : Tr.d ms k < b) (h3 : Tr.under xs (Tr.l ms k) a = Tr.under ys (Tr.d ms k) b) : Mp.at xs ys ms a b k = true := by
  unfold Mp.at
  rw [decide_eq_true h1, decide_eq_true h2, h3]
  simp
theorem Mp.okAt_yes (h1 : Tr.has xs (Tr.l ms i) = true) (h2 : Tr.has ys (Tr.d ms i) = true) (h : ∀ k, k < i → Mp.at xs ys ms (Tr.l ms i) (Tr.d ms i) k = true) : Mp.okAt xs ys ms i = true := by
  unfold Mp.okAt
  rw [h1, h2, Mp.after_iff.2 h]
  rfl
theorem Mp.okAt_parts (h : Mp.okAt xs ys ms i = true) : Tr.has xs (Tr.l ms i) = true ∧ Tr.has ys (Tr.d ms i) = true ∧ ∀ k, k < i → Tr.l ms k < Tr.l ms i ∧ Tr.d ms k < Tr.d ms i ∧ Tr.under xs (Tr.l ms k) (Tr.l ms i) = Tr.under ys (Tr.d ms k) (Tr.d ms i) := by
  simp only [Mp.okAt, Bool.and_eq_true] at h
  refine ⟨h.1.1, h.1.2, fun k hk => ?_⟩
  have := Mp.after_iff.1 h.2 k hk
  simp only [Mp.at, Bool.and_eq_true, decide_eq_true_eq, beq_iff_eq] at this
  exact ⟨this.1.1, this.1.2, this.2⟩
/-- all earlier ones lie below, if the last one does -/
theorem Mp.chain (h : ∀ q, q < i → Mp.okAt xs ys ms q = true) (hi : 0 < i → Tr.l ms (i - 1) < Tr.l ms i) (hk : k < i) : Tr.l ms k < Tr.l ms i := by
  have h0 := hi (by omega)
  by_cases e : k = i - 1
  · rw [e]; exact h0
  · have := ((Mp.okAt_parts (h (i - 1) (by omega))).2.2 k (by omega)).1
    omega
theorem Mp.at_take (hk : k < i) : Mp.at xs ys (ms.take i) a b k = Mp.at xs ys ms a b k := by
  have e : (ms.take i).getD k (0, 0) = ms.getD k (0, 0) := by simp [List.getD_eq_getElem?_getD, hk]
  unfold Mp.at Tr.l Tr.d
  rw [e]
theorem Mp.after_take : Mp.after xs ys (ms.take i) i a b = Mp.after xs ys ms i a b := by
  rw [Bool.eq_iff_iff, Mp.after_iff, Mp.after_iff]
  exact ⟨fun h k hk => (Mp.at_take hk).symm.trans (h k hk), fun h k hk => (Mp.at_take hk).trans (h k hk)⟩
end

end Go.Proofs.Ytfchmdhlfhoogaa

/- Contracts (Mc). -/
namespace Go.Proofs.Ytfchmdhlfhoogaa
open Go.RowKit
set_option linter.unusedVariables false

def Mp.sum (f : Nat → Int) : Nat → Int
  | 0 => 0
  | n + 1 => Mp.sum f n + f n
theorem Mp.sum_congr {f g : Nat → Int} : ∀ {n : Nat}, (∀ i, i < n → f i = g i) → Mp.sum f n = Mp.sum g n
  | 0, _ => rfl
  | n + 1, h => by
    show Mp.sum f n + f n = Mp.sum g n + g n
    rw [Mp.sum_congr (fun i hi => h i (by omega)), h n (by omega)]
theorem Mp.sum_bound {f : Nat → Int} (h : ∀ i, 0 ≤ f i ∧ f i ≤ 1000) : ∀ n : Nat, 0 ≤ Mp.sum f n ∧ Mp.sum f n ≤ 1000 * n
  | 0 => by simp [Mp.sum]
  | n + 1 => by
    have h1 := Mp.sum_bound h n
    have h2 := h n
    show 0 ≤ Mp.sum f n + f n ∧ Mp.sum f n + f n ≤ 1000 * ((n + 1 : Nat) : Int)
    omega
theorem Mp.sum_change {f g : Nat → Int} {p : Nat} (h : ∀ i, i ≠ p → g i = f i) : ∀ {n : Nat}, p < n → Mp.sum g n = Mp.sum f n + (g p - f p)
  | 0, hp => absurd hp (Nat.not_lt_zero p)
  | n + 1, hp => by
    show Mp.sum g n + g n = Mp.sum f n + f n + (g p - f p)
    by_cases e : p = n
    · subst e
      rw [Mp.sum_congr (f := g) (g := f) (fun i hi => h i (by omega))]
      omega
    · rw [Mp.sum_change h (show p < n by omega), h n (by omega)]
      omega
theorem Mp.l_take {ms : Tr} {m q : Nat} (h : q < m) : Tr.l (ms.take m) q = Tr.l ms q := by
  unfold Tr.l
  rw [show (ms.take m).getD q (0, 0) = ms.getD q (0, 0) by simp [List.getD_eq_getElem?_getD, h]]
theorem Mp.d_take {ms : Tr} {m q : Nat} (h : q < m) : Tr.d (ms.take m) q = Tr.d ms q := by
  unfold Tr.d
  rw [show (ms.take m).getD q (0, 0) = ms.getD q (0, 0) by simp [List.getD_eq_getElem?_getD, h]]
def Mp.of : Tr → Int → Int
  | [], _ => -1
  | p :: r, i => if p.1 = i then p.2 else Mp.of r i
theorem Mp.of_cases : ∀ (ms : Tr) (i : Int), (Mp.of ms i = -1 ∧ ∀ q, q < ms.length → Tr.l ms q ≠ i) ∨ ∃ q, q < ms.length ∧ Tr.l ms q = i ∧ Mp.of ms i = Tr.d ms q ∧ ∀ r, r < q → Tr.l ms r ≠ i
  | [], i => Or.inl ⟨rfl, fun q hq => absurd hq (Nat.not_lt_zero q)⟩
  | p :: t, i => by
    by_cases e : p.1 = i
    · exact Or.inr ⟨0, Nat.zero_lt_succ _, e, by unfold Mp.of; rw [if_pos e]; rfl, fun r hr => absurd hr (Nat.not_lt_zero r)⟩
    · have hs : Mp.of (p :: t) i = Mp.of t i := by rw [Mp.of, if_neg e]
      rcases Mp.of_cases t i with ⟨h1, h2⟩ | ⟨q, h1, h2, h3, h4⟩
      · refine Or.inl ⟨hs.trans h1, fun q hq => ?_⟩
        cases q with
        | zero => exact e
        | succ q => exact h2 q (by simpa using hq)
      · refine Or.inr ⟨q + 1, by simpa using h1, h2, hs.trans h3, fun r hr => ?_⟩
        cases r with
        | zero => exact e
        | succ r => exact h4 r (by omega)
theorem Mp.of_hit {ms : Tr} {i : Int} {k : Nat} (hk : k < ms.length) (he : Tr.l ms k = i) (h : ∀ q, q < k → Tr.l ms q ≠ i) : Mp.of ms i = Tr.d ms k := by
  rcases Mp.of_cases ms i with ⟨_, h2⟩ | ⟨q, h1, h2, h3, h4⟩
  · exact absurd he (h2 k hk)
  · have : q = k := by
      rcases Nat.lt_trichotomy q k with c | c | c
      · exact absurd h2 (h q c)
      · exact c
      · exact absurd he (h4 k c)
    rw [h3, this]
theorem Mp.of_none {ms : Tr} {i : Int} (h : ∀ q, q < ms.length → Tr.l ms q ≠ i) : Mp.of ms i = -1 := by
  rcases Mp.of_cases ms i with ⟨h1, _⟩ | ⟨q, h1, h2, _⟩
  · exact h1
  · exact absurd h2 (h q h1)
theorem Mp.of_skip {ms : Tr} {i : Int} {m : Nat} (hm : m < ms.length) (he : Tr.l ms m ≠ i) : Mp.of (ms.take (m + 1)) i = Mp.of (ms.take m) i := by
  have l1 : (ms.take m).length = m := by rw [List.length_take]; omega
  have l2 : (ms.take (m + 1)).length = m + 1 := by rw [List.length_take]; omega
  rcases Mp.of_cases (ms.take m) i with ⟨h1, h2⟩ | ⟨q, h1, h2, h3, h4⟩
  · rw [h1]
    refine Mp.of_none (fun q hq => ?_)
    rw [l2] at hq
    rw [Mp.l_take hq] at *
    rcases Nat.lt_succ_iff_lt_or_eq.1 hq with c | rfl
    · have := h2 q (by omega); rw [Mp.l_take c] at this; exact this
    · exact he
  · rw [l1] at h1
    rw [h3]
    rw [Mp.l_take h1] at h2
    rw [Mp.d_take h1, Mp.of_hit (k := q) (by omega) (by rw [Mp.l_take (show q < m + 1 by omega)]; exact h2) (fun r hr => by
      have := h4 r hr; rw [Mp.l_take (show r < m by omega)] at this; rw [Mp.l_take (show r < m + 1 by omega)]; exact this), Mp.d_take (show q < m + 1 by omega)]
theorem Mp.of_new {ms : Tr} {m : Nat} (hm : m < ms.length) (h : ∀ q, q < m → Tr.l ms q ≠ Tr.l ms m) : Mp.of (ms.take m) (Tr.l ms m) = -1 ∧ Mp.of (ms.take (m + 1)) (Tr.l ms m) = Tr.d ms m := by
  have l1 : (ms.take m).length = m := by rw [List.length_take]; omega
  have l2 : (ms.take (m + 1)).length = m + 1 := by rw [List.length_take]; omega
  refine ⟨Mp.of_none (fun q hq => ?_), ?_⟩
  · rw [l1] at hq; rw [Mp.l_take hq]; exact h q hq
  · rw [Mp.of_hit (k := m) (by rw [l2]; omega) (Mp.l_take (Nat.lt_add_one m)) (fun r hr => by rw [Mp.l_take (show r < m + 1 by omega)]; exact h r hr), Mp.d_take (Nat.lt_add_one m)]
def Mp.back : Tr → Int → Int
  | [], _ => -1
  | p :: r, i => if p.2 = i then p.1 else Mp.back r i
theorem Mp.back_cases : ∀ (ms : Tr) (i : Int), (Mp.back ms i = -1 ∧ ∀ q, q < ms.length → Tr.d ms q ≠ i) ∨ ∃ q, q < ms.length ∧ Tr.d ms q = i ∧ Mp.back ms i = Tr.l ms q ∧ ∀ r, r < q → Tr.d ms r ≠ i
  | [], i => Or.inl ⟨rfl, fun q hq => absurd hq (Nat.not_lt_zero q)⟩
  | p :: t, i => by
    by_cases e : p.2 = i
    · exact Or.inr ⟨0, Nat.zero_lt_succ _, e, by unfold Mp.back; rw [if_pos e]; rfl, fun r hr => absurd hr (Nat.not_lt_zero r)⟩
    · have hs : Mp.back (p :: t) i = Mp.back t i := by rw [Mp.back, if_neg e]
      rcases Mp.back_cases t i with ⟨h1, h2⟩ | ⟨q, h1, h2, h3, h4⟩
      · refine Or.inl ⟨hs.trans h1, fun q hq => ?_⟩
        cases q with
        | zero => exact e
        | succ q => exact h2 q (by simpa using hq)
      · refine Or.inr ⟨q + 1, by simpa using h1, h2, hs.trans h3, fun r hr => ?_⟩
        cases r with
        | zero => exact e
        | succ r => exact h4 r (by omega)
theorem Mp.back_hit {ms : Tr} {i : Int} {k : Nat} (hk : k < ms.length) (he : Tr.d ms k = i) (h : ∀ q, q < k → Tr.d ms q ≠ i) : Mp.back ms i = Tr.l ms k := by
  rcases Mp.back_cases ms i with ⟨_, h2⟩ | ⟨q, h1, h2, h3, h4⟩
  · exact absurd he (h2 k hk)
  · have : q = k := by
      rcases Nat.lt_trichotomy q k with c | c | c
      · exact absurd h2 (h q c)
      · exact c
      · exact absurd he (h4 k c)
    rw [h3, this]
theorem Mp.back_none {ms : Tr} {i : Int} (h : ∀ q, q < ms.length → Tr.d ms q ≠ i) : Mp.back ms i = -1 := by
  rcases Mp.back_cases ms i with ⟨h1, _⟩ | ⟨q, h1, h2, _⟩
  · exact h1
  · exact absurd h2 (h q h1)
theorem Mp.back_skip {ms : Tr} {i : Int} {m : Nat} (hm : m < ms.length) (he : Tr.d ms m ≠ i) : Mp.back (ms.take (m + 1)) i = Mp.back (ms.take m) i := by
  have l1 : (ms.take m).length = m := by rw [List.length_take]; omega
  have l2 : (ms.take (m + 1)).length = m + 1 := by rw [List.length_take]; omega
  rcases Mp.back_cases (ms.take m) i with ⟨h1, h2⟩ | ⟨q, h1, h2, h3, h4⟩
  · rw [h1]
    refine Mp.back_none (fun q hq => ?_)
    rw [l2] at hq
    rw [Mp.d_take hq] at *
    rcases Nat.lt_succ_iff_lt_or_eq.1 hq with c | rfl
    · have := h2 q (by omega); rw [Mp.d_take c] at this; exact this
    · exact he
  · rw [l1] at h1
    rw [h3]
    rw [Mp.d_take h1] at h2
    rw [Mp.l_take h1, Mp.back_hit (k := q) (by omega) (by rw [Mp.d_take (show q < m + 1 by omega)]; exact h2) (fun r hr => by
      have := h4 r hr; rw [Mp.d_take (show r < m by omega)] at this; rw [Mp.d_take (show r < m + 1 by omega)]; exact this), Mp.l_take (show q < m + 1 by omega)]
theorem Mp.back_new {ms : Tr} {m : Nat} (hm : m < ms.length) (h : ∀ q, q < m → Tr.d ms q ≠ Tr.d ms m) : Mp.back (ms.take m) (Tr.d ms m) = -1 ∧ Mp.back (ms.take (m + 1)) (Tr.d ms m) = Tr.l ms m := by
  have l1 : (ms.take m).length = m := by rw [List.length_take]; omega
  have l2 : (ms.take (m + 1)).length = m + 1 := by rw [List.length_take]; omega
  refine ⟨Mp.back_none (fun q hq => ?_), ?_⟩
  · rw [l1] at hq; rw [Mp.d_take hq]; exact h q hq
  · rw [Mp.back_hit (k := m) (by rw [l2]; omega) (Mp.d_take (Nat.lt_add_one m)) (fun r hr => by rw [Mp.d_take (show r < m + 1 by omega)]; exact h r hr), Mp.l_take (Nat.lt_add_one m)]
def Mp.gx (xs ys : Tr) (k : Co) (ms : Tr) (i : Nat) : Int := if Mp.of ms i < 0 then Co.del k (Tr.l xs i) else Co.rel k (Tr.l xs i) (Tr.l ys (Mp.of ms i).toNat)
def Mp.gy (ys : Tr) (k : Co) (ms : Tr) (j : Nat) : Int := if Mp.back ms j < 0 then Co.ins k (Tr.l ys j) else 0
/-- the cost of a mapping's first m pairs -/
def Mp.part (xs ys : Tr) (k : Co) (ms : Tr) (m : Nat) : Int := Mp.sum (Mp.gx xs ys k (ms.take m)) xs.length + Mp.sum (Mp.gy ys k (ms.take m)) ys.length
def Mp.cost (xs ys : Tr) (k : Co) (ms : Tr) : Int := if Mp.ok xs ys ms && Co.ok k then Mp.part xs ys k ms ms.length else -1
section
variable {xs ys ms : Tr} {k : Co}
theorem Mp.gx_bound (i : Nat) : 0 ≤ Mp.gx xs ys k ms i ∧ Mp.gx xs ys k ms i ≤ 1000 := by
  unfold Mp.gx
  split
  · exact (Co.nonneg' k).1 _
  · exact (Co.nonneg' k).2.2 _ _
theorem Mp.gy_bound (i : Nat) : 0 ≤ Mp.gy ys k ms i ∧ Mp.gy ys k ms i ≤ 1000 := by
  unfold Mp.gy
  split
  · exact (Co.nonneg' k).2.1 _
  · omega
theorem Mp.part_bound (hx : xs.length ≤ 24) (hy : ys.length ≤ 24) (m : Nat) : 0 ≤ Mp.part xs ys k ms m ∧ Mp.part xs ys k ms m ≤ 48000 := by
  have h1 := Mp.sum_bound (f := Mp.gx xs ys k (ms.take m)) Mp.gx_bound xs.length
  have h2 := Mp.sum_bound (f := Mp.gy ys k (ms.take m)) Mp.gy_bound ys.length
  unfold Mp.part
  omega
theorem Mp.part_zero : Mp.part xs ys k ms 0 = Mp.sum (fun i => Co.del k (Tr.l xs i)) xs.length + Mp.sum (fun j => Co.ins k (Tr.l ys j)) ys.length := by
  unfold Mp.part
  rfl
theorem Mp.part_succ {m a b : Nat} (hm : m < ms.length) (h : Mp.okAt xs ys ms m = true) (ha : Tr.l ms m = (a : Int)) (hb : Tr.d ms m = (b : Int)) :
    Mp.part xs ys k ms (m + 1) = Mp.part xs ys k ms m + (Co.rel k (Tr.l xs a) (Tr.l ys b) - Co.del k (Tr.l xs a) - Co.ins k (Tr.l ys b)) := by
  obtain ⟨h1, h2, h3⟩ := Mp.okAt_parts h
  simp only [Tr.has, Bool.and_eq_true, decide_eq_true_eq] at h1 h2
  have n1 := Mp.of_new hm (fun q hq => by have := (h3 q hq).1; omega)
  have n2 := Mp.back_new hm (fun q hq => by have := (h3 q hq).2.1; omega)
  have e1 : Mp.sum (Mp.gx xs ys k (ms.take (m + 1))) xs.length = Mp.sum (Mp.gx xs ys k (ms.take m)) xs.length + (Mp.gx xs ys k (ms.take (m + 1)) a - Mp.gx xs ys k (ms.take m) a) := by
    refine Mp.sum_change (fun i hi => ?_) (by omega)
    unfold Mp.gx
    rw [Mp.of_skip hm (by omega)]
  have e2 : Mp.sum (Mp.gy ys k (ms.take (m + 1))) ys.length = Mp.sum (Mp.gy ys k (ms.take m)) ys.length + (Mp.gy ys k (ms.take (m + 1)) b - Mp.gy ys k (ms.take m) b) := by
    refine Mp.sum_change (fun i hi => ?_) (by omega)
    unfold Mp.gy
    rw [Mp.back_skip hm (by omega)]
  rw [ha, hb] at n1
  rw [hb, ha] at n2
  have g1 : Mp.gx xs ys k (ms.take m) a = Co.del k (Tr.l xs a) := by unfold Mp.gx; rw [n1.1, if_pos (by omega)]
  have g2 : Mp.gx xs ys k (ms.take (m + 1)) a = Co.rel k (Tr.l xs a) (Tr.l ys b) := by unfold Mp.gx; rw [n1.2, if_neg (by omega)]; rfl
  have g3 : Mp.gy ys k (ms.take m) b = Co.ins k (Tr.l ys b) := by unfold Mp.gy; rw [n2.1, if_pos (by omega)]
  have g4 : Mp.gy ys k (ms.take (m + 1)) b = 0 := by unfold Mp.gy; rw [n2.2, if_neg (by omega)]
  unfold Mp.part
  rw [e1, e2, g1, g2, g3, g4]
  omega
theorem Mp.ok_all (h : Mp.ok xs ys ms = true) : Tr.ok xs = true ∧ Tr.ok ys = true ∧ ∀ q, q < ms.length → Mp.okAt xs ys ms q = true := by
  simp only [Mp.ok, Bool.and_eq_true] at h
  exact ⟨h.1.1, h.1.2, Mp.all_iff.1 h.2⟩
theorem Mp.pair_at {q : Nat} (h : Mp.okAt xs ys ms q = true) : ∃ a b : Nat, a < xs.length ∧ b < ys.length ∧ Tr.l ms q = (a : Int) ∧ Tr.d ms q = (b : Int) := by
  obtain ⟨h1, h2, _⟩ := Mp.okAt_parts h
  simp only [Tr.has, Bool.and_eq_true, decide_eq_true_eq] at h1 h2
  exact ⟨(Tr.l ms q).toNat, (Tr.d ms q).toNat, by omega, by omega, by omega, by omega⟩
/-- a node's partner -/
theorem Mp.of_at (h : Mp.ok xs ys ms = true) (i : Nat) : (Mp.of ms i = -1 ∧ Mp.gx xs ys k ms i = Co.del k (Tr.l xs i)) ∨ ∃ b : Nat, b < ys.length ∧ Mp.of ms i = (b : Int) ∧ Mp.gx xs ys k ms i = Co.rel k (Tr.l xs i) (Tr.l ys b) := by
  rcases Mp.of_cases ms i with ⟨h1, _⟩ | ⟨q, h1, h2, h3, _⟩
  · exact Or.inl ⟨h1, by unfold Mp.gx; rw [h1, if_pos (by omega)]⟩
  · obtain ⟨a, b, _, hb, _, hd⟩ := Mp.pair_at ((Mp.ok_all h).2.2 q h1)
    refine Or.inr ⟨b, hb, h3.trans hd, ?_⟩
    unfold Mp.gx
    rw [h3, hd, if_neg (by omega)]
    rfl
theorem Mp.back_at (h : Mp.ok xs ys ms = true) (j : Nat) : (Mp.back ms j = -1 ∧ Mp.gy ys k ms j = Co.ins k (Tr.l ys j)) ∨ ∃ a : Nat, Mp.back ms j = (a : Int) ∧ Mp.gy ys k ms j = 0 := by
  rcases Mp.back_cases ms j with ⟨h1, _⟩ | ⟨q, h1, h2, h3, _⟩
  · exact Or.inl ⟨h1, by unfold Mp.gy; rw [h1, if_pos (by omega)]⟩
  · obtain ⟨a, b, _, _, ha, _⟩ := Mp.pair_at ((Mp.ok_all h).2.2 q h1)
    exact Or.inr ⟨a, h3.trans ha, by unfold Mp.gy; rw [h3, ha, if_neg (by omega)]⟩
theorem Mp.part_all : Mp.part xs ys k ms ms.length = Mp.sum (Mp.gx xs ys k ms) xs.length + Mp.sum (Mp.gy ys k ms) ys.length := by
  unfold Mp.part
  rw [List.take_length]
end

end Go.Proofs.Ytfchmdhlfhoogaa

/- Contracts (OfS). -/
namespace Go.Proofs.Ytfchmdhlfhoogaa
open Go.RowKit
set_option linter.unusedVariables false

set_option maxHeartbeats 800000 in
set_option maxRecDepth 100000 in
theorem l10Of_any (A : Option Addr) (n c : Nat) (ms : Tr) (i : Int) (w : World) (h : NdIn w w.heap.size A n ms) (hn : n ≤ 1048576) :
    Calls Try.prog 105 #[.slice A n c, .int .i64 i] w fun e w' => e = .returned (.int .i64 (Mp.of ms i)) ∧ Drawn w w' := by
  have H := Lib.hid h
  have HL := Lib.hid h.1
  clear h
  go_enter Try.func105, Try.ntmps105
  go_wp2
  go_loopw [5] (fun iv wr => ∃ k : Nat, k ≤ n ∧ iv = .int .i64 k ∧ (∀ q, q < k → Tr.l ms q ≠ i) ∧ Drawn w wr) (fun v _ => n - (intOf v).toNat)
  case atStart => exact ⟨0, by omega, rfl, fun q hq => absurd hq (by omega), Drawn.refl _⟩
  case round =>
    obtain ⟨k, hk, rfl, hg, hD⟩ := hrel
    have HG := Lib.hid hg
    have HD := Lib.hid hD
    clear hg hD
    by_cases hlt : k < n
    · obtain ⟨ad, rfl, hb, hl, hd⟩ := (H.out.to_drawn HD.out).at_ (k := k) hlt
      have hk0 : (0 : Int) ≤ (k : Int) := by omega
      have hklt : (k : Int) < (n : Int) := by omega
      have HKL := Lib.hid (show k < ms.length by rw [HL.out]; exact hlt)
      by_cases e : Tr.l ms k = i
      · have hf := Lib.hid (Mp.of_hit HKL.out e HG.out)
        as_aux_lemma =>
          go_wp2
          go_ret
          exact ⟨Kit.ret_int hf.out.symm, HD.out⟩
      · have HE := Lib.hid e
        as_aux_lemma =>
          go_wp2
          go_roundw
          case rel => exact ⟨k + 1, by omega, by go_num, fun q hq => by
            rcases Nat.lt_succ_iff_lt_or_eq.1 hq with h' | rfl
            · exact HG.out q h'
            · exact HE.out, HD.out⟩
          case measure => simp [intOf]; omega
    · obtain rfl : k = n := by omega
      have hf := Lib.hid (Mp.of_none (fun q hq => HG.out q (by rw [← HL.out]; exact hq)) : Mp.of ms i = -1)
      go_wp2
      go_ret
      exact ⟨Kit.ret_int hf.out.symm, HD.out⟩
set_option maxHeartbeats 800000 in
set_option maxRecDepth 100000 in
theorem l10Back_any (A : Option Addr) (n c : Nat) (ms : Tr) (i : Int) (w : World) (h : NdIn w w.heap.size A n ms) (hn : n ≤ 1048576) :
    Calls Try.prog 107 #[.slice A n c, .int .i64 i] w fun e w' => e = .returned (.int .i64 (Mp.back ms i)) ∧ Drawn w w' := by
  have H := Lib.hid h
  have HL := Lib.hid h.1
  clear h
  go_enter Try.func107, Try.ntmps107
  go_wp2
  go_loopw [5] (fun iv wr => ∃ k : Nat, k ≤ n ∧ iv = .int .i64 k ∧ (∀ q, q < k → Tr.d ms q ≠ i) ∧ Drawn w wr) (fun v _ => n - (intOf v).toNat)
  case atStart => exact ⟨0, by omega, rfl, fun q hq => absurd hq (by omega), Drawn.refl _⟩
  case round =>
    obtain ⟨k, hk, rfl, hg, hD⟩ := hrel
    have HG := Lib.hid hg
    have HD := Lib.hid hD
    clear hg hD
    by_cases hlt : k < n
    · obtain ⟨ad, rfl, hb, hl, hd⟩ := (H.out.to_drawn HD.out).at_ (k := k) hlt
      have hk0 : (0 : Int) ≤ (k : Int) := by omega
      have hklt : (k : Int) < (n : Int) := by omega
      have HKL := Lib.hid (show k < ms.length by rw [HL.out]; exact hlt)
      by_cases e : Tr.d ms k = i
      · have hf := Lib.hid (Mp.back_hit HKL.out e HG.out)
        as_aux_lemma =>
          go_wp2
          go_ret
          exact ⟨Kit.ret_int hf.out.symm, HD.out⟩
      · have HE := Lib.hid e
        as_aux_lemma =>
          go_wp2
          go_roundw
          case rel => exact ⟨k + 1, by omega, by go_num, fun q hq => by
            rcases Nat.lt_succ_iff_lt_or_eq.1 hq with h' | rfl
            · exact HG.out q h'
            · exact HE.out, HD.out⟩
          case measure => simp [intOf]; omega
    · obtain rfl : k = n := by omega
      have hf := Lib.hid (Mp.back_none (fun q hq => HG.out q (by rw [← HL.out]; exact hq)) : Mp.back ms i = -1)
      go_wp2
      go_ret
      exact ⟨Kit.ret_int hf.out.symm, HD.out⟩

end Go.Proofs.Ytfchmdhlfhoogaa

/- Contracts (UndS). -/
namespace Go.Proofs.Ytfchmdhlfhoogaa
open Go.RowKit
set_option linter.unusedVariables false

set_option maxHeartbeats 1600000 in
set_option maxRecDepth 100000 in
theorem specUnder_any (A : Option Addr) (n c : Nat) (xs : Tr) (i j : Int) (w : World) (h : NdIn w w.heap.size A n xs) (hn : n ≤ 1048576) :
    Calls Try.prog 99 #[.slice A n c, .int .i64 i, .int .i64 j] w fun e w' => e = .returned (.bool (Tr.under xs i j)) ∧ Drawn w w' := by
  have H := Lib.hid h
  clear h
  have H0 := Lib.hid H.out
  have HD := Lib.hid (Drawn.refl w)
  rcases h1 : Tr.has xs i with _ | _
  · have Hf := Lib.hid (show Tr.under xs i j = false by unfold Tr.under; rw [h1]; rfl)
    have Hh := Lib.hid h1
    clear h1
    go_enter Try.func99, Try.ntmps99
    go_wp2_with fail
    refine (l3At_any _ _ _ xs _ _ H0.out hn).mono ?_
    rintro e w1 ⟨rfl, hd⟩
    have HD := Lib.hid (HD.out.trans hd)
    have Hw1 := Lib.hid (H0.out.to_drawn hd)
    clear hd
    rw [Hh.out]
    go_wp2
    go_ret
    exact ⟨Kit.ret_bool Hf.out.symm, HD.out⟩
  · rcases h2 : Tr.has xs j with _ | _
    · have Hf := Lib.hid (show Tr.under xs i j = false by unfold Tr.under; rw [h2, Bool.and_false]; rfl)
      have Hh := Lib.hid h1
      have Hh2 := Lib.hid h2
      clear h1 h2
      go_enter Try.func99, Try.ntmps99
      go_wp2_with fail
      refine (l3At_any _ _ _ xs _ _ H0.out hn).mono ?_
      rintro e w1 ⟨rfl, hd⟩
      have HD := Lib.hid (HD.out.trans hd)
      have Hw1 := Lib.hid (H0.out.to_drawn hd)
      clear hd
      rw [Hh.out]
      go_wp2_with fail
      refine (l3At_any _ _ _ xs _ _ Hw1.out hn).mono ?_
      rintro e w2 ⟨rfl, hd⟩
      have HD := Lib.hid (HD.out.trans hd)
      have Hw2 := Lib.hid (Hw1.out.to_drawn hd)
      clear hd
      rw [Hh2.out]
      go_wp2
      go_ret
      exact ⟨Kit.ret_bool Hf.out.symm, HD.out⟩
    · have Hf := Lib.hid (show Tr.under xs i j = (decide (i < j) && decide (j < Tr.endOf xs i)) by unfold Tr.under; rw [h1, h2]; rfl)
      have Hh := Lib.hid h1
      have Hh2 := Lib.hid h2
      clear h1 h2
      obtain ⟨E, hE⟩ : ∃ E, E = Tr.endOf xs i := ⟨_, rfl⟩
      have HE := Lib.hid hE
      rw [← hE] at Hf
      clear hE
      by_cases h3 : i < j
      · have e3 : decide (i < j) = true := by simpa using h3
        rw [e3] at Hf
        go_enter Try.func99, Try.ntmps99
        go_wp2_with fail
        refine (l3At_any _ _ _ xs _ _ H0.out hn).mono ?_
        rintro e w1 ⟨rfl, hd⟩
        have HD := Lib.hid (HD.out.trans hd)
        have Hw1 := Lib.hid (H0.out.to_drawn hd)
        clear hd
        rw [Hh.out]
        go_wp2_with fail
        refine (l3At_any _ _ _ xs _ _ Hw1.out hn).mono ?_
        rintro e w2 ⟨rfl, hd⟩
        have HD := Lib.hid (HD.out.trans hd)
        have Hw2 := Lib.hid (Hw1.out.to_drawn hd)
        clear hd
        rw [Hh2.out]
        go_wp2_with fail
        refine (specEndOf_any _ _ _ xs _ _ Hw2.out hn).mono ?_
        rintro e w3 ⟨rfl, hd⟩
        have HD := Lib.hid (HD.out.trans hd)
        clear hd
        rw [← HE.out]
        go_wp2
        go_ret
        exact ⟨Kit.ret_bool (by rw [Hf.out]; simp), HD.out⟩
      · have e3 : decide (i < j) = false := by simpa using h3
        rw [e3] at Hf
        go_enter Try.func99, Try.ntmps99
        go_wp2_with fail
        refine (l3At_any _ _ _ xs _ _ H0.out hn).mono ?_
        rintro e w1 ⟨rfl, hd⟩
        have HD := Lib.hid (HD.out.trans hd)
        have Hw1 := Lib.hid (H0.out.to_drawn hd)
        clear hd
        rw [Hh.out]
        go_wp2_with fail
        refine (l3At_any _ _ _ xs _ _ Hw1.out hn).mono ?_
        rintro e w2 ⟨rfl, hd⟩
        have HD := Lib.hid (HD.out.trans hd)
        have Hw2 := Lib.hid (Hw1.out.to_drawn hd)
        clear hd
        rw [Hh2.out]
        go_wp2
        go_ret
        exact ⟨Kit.ret_bool (by rw [Hf.out]; simp), HD.out⟩


end Go.Proofs.Ytfchmdhlfhoogaa

/- Contracts (MapS). -/
namespace Go.Proofs.Ytfchmdhlfhoogaa
open Go.RowKit
set_option linter.unusedVariables false

set_option maxHeartbeats 3200000 in
set_option maxRecDepth 100000 in
theorem specMapOk_any (A A' A'' : Option Addr) (n n' n'' c c' c'' : Nat) (xs ys ms : Tr) (w : World) (h : NdIn w w.heap.size A n xs) (h' : NdIn w w.heap.size A' n' ys) (h'' : NdIn w w.heap.size A'' n'' ms) (hn : n ≤ 1048576) (hn' : n' ≤ 1048576) (hn'' : n'' ≤ 1048576) :
    Calls Try.prog 49 #[.slice A n c, .slice A' n' c', .slice A'' n'' c''] w fun e w' => e = .returned (.bool (Mp.ok xs ys ms)) ∧ Drawn w w' := by
  have H := Lib.hid h
  have H' := Lib.hid h'
  have H2 := Lib.hid h''
  clear h h' h''
  have HL := Lib.hid H2.out.1
  go_enter Try.func49, Try.ntmps49
  go_wp2
  go_loopw [7] (fun iv wr => ∃ k : Nat, k ≤ n'' ∧ iv = .int .i64 k ∧ (∀ q, q < k → Mp.okAt xs ys ms q = true) ∧ Drawn w wr) (fun i _ => n'' - (intOf i).toNat)
  case atStart => exact ⟨0, by omega, rfl, fun q hq => absurd hq (by omega), Drawn.refl _⟩
  case round =>
    obtain ⟨k, hk, rfl, hgood, hD⟩ := hrel
    have HG := Lib.hid hgood
    have HD := Lib.hid hD
    clear hgood hD
    by_cases hlt : k < n''
    · obtain ⟨ad, rfl, hb, hl, hd⟩ := (H2.out.to_drawn HD.out).at_ (k := k) hlt
      have hk0 : (0 : Int) ≤ (k : Int) := by omega
      have hklt : (k : Int) < (n'' : Int) := by omega
      have HK := Lib.hid (show k < ms.length by rw [HL.out]; exact hlt)
      obtain ⟨b1, hb1⟩ : ∃ b, b = Tr.has xs (Tr.l ms k) := ⟨_, rfl⟩
      obtain ⟨b2, hb2⟩ : ∃ b, b = Tr.has ys (Tr.d ms k) := ⟨_, rfl⟩
      have QA := Lib.hid (fun (wq : World) (hd : Drawn wr wq) => show Calls Try.prog 83 #[.slice A n c, .int .i64 (Tr.l ms k)] wq fun e w' => e = .returned (.bool b1) ∧ Drawn wq w' from by rw [hb1]; exact l3At_any _ _ _ xs _ _ ((H.out.to_drawn HD.out).to_drawn hd) hn)
      have QB := Lib.hid (fun (wq : World) (hd : Drawn wr wq) => show Calls Try.prog 83 #[.slice A' n' c', .int .i64 (Tr.d ms k)] wq fun e w' => e = .returned (.bool b2) ∧ Drawn wq w' from by rw [hb2]; exact l3At_any _ _ _ ys _ _ ((H'.out.to_drawn HD.out).to_drawn hd) hn')
      have HB1 := Lib.hid hb1
      have HB2 := Lib.hid hb2
      clear hb1 hb2
      cases b1 with
      | false =>
        have hf := Lib.hid (Mp.ok_no HK.out (Mp.no_a HB1.out.symm) : Mp.ok xs ys ms = false)
        as_aux_lemma =>
          go_wp2_with fail
          go_quiet (first | (go_at_call 83; with_reducible exact quiet_drawn (QA.out _ ((Drawn.refl _).drewN _))) | (go_at_call 83; with_reducible exact quiet_drawn (QB.out _ ((Drawn.refl _).drewN _))))
          go_wp2
          go_ret
          exact ⟨Kit.ret_bool hf.out.symm, HD.out.trans ((Drawn.refl _).drewN _)⟩
      | true =>
        cases b2 with
        | false =>
          have hf := Lib.hid (Mp.ok_no HK.out (Mp.no_b HB2.out.symm) : Mp.ok xs ys ms = false)
          as_aux_lemma =>
            go_wp2_with fail
            go_quiet (first | (go_at_call 83; with_reducible exact quiet_drawn (QA.out _ ((Drawn.refl _).drewN _))) | (go_at_call 83; with_reducible exact quiet_drawn (QB.out _ ((Drawn.refl _).drewN _))))
            go_wp2
            go_ret
            exact ⟨Kit.ret_bool hf.out.symm, HD.out.trans ((Drawn.refl _).drewN _)⟩
        | true =>
          rcases (show (0 < k ∧ Tr.l ms k ≤ Tr.l ms (k - 1)) ∨ (0 < k ∧ Tr.l ms (k - 1) < Tr.l ms k) ∨ k = 0 by omega) with ⟨h0, h1⟩ | ⟨h0, h1⟩ | h0
          · have hf := Lib.hid (Mp.ok_no HK.out (Mp.no_c (k := k - 1) (by omega) (Mp.at_l (by omega))) : Mp.ok xs ys ms = false)
            obtain ⟨hl1, hd1⟩ := (H2.out.to_drawn HD.out).here (k := k - 1) (by omega)
            obtain ⟨k1, hk1⟩ : ∃ k1, k1 = k - 1 := ⟨_, rfl⟩
            rw [← hk1] at h1 hl1
            clear hd1
            have a1 : IntKind.i64.wrap ((k : Int) - 1) = (k1 : Int) := by rw [Kit.w64 (by omega) (by omega)]; omega
            have g0 : decide (0 < k) = true := decide_eq_true h0
            have g1 : decide (Tr.l ms k ≤ Tr.l ms k1) = true := decide_eq_true h1
            have g2 : (0 : Int) ≤ (k1 : Int) := by omega
            have g3 : (k1 : Int) < (n'' : Int) := by omega
            clear hk1
            as_aux_lemma =>
              go_wp2_with fail
              go_quiet (first | (go_at_call 83; with_reducible exact quiet_drawn (QA.out _ ((Drawn.refl _).drewN _))) | (go_at_call 83; with_reducible exact quiet_drawn (QB.out _ ((Drawn.refl _).drewN _))))
              go_wp2
              go_ret
              exact ⟨Kit.ret_bool hf.out.symm, HD.out.trans ((Drawn.refl _).drewN _)⟩
          · obtain ⟨hl1, hd1⟩ := (H2.out.to_drawn HD.out).here (k := k - 1) (by omega)
            have HC := Lib.hid (fun q (hq : q < k) => (Mp.chain HG.out (fun _ => h1) hq : Tr.l ms q < Tr.l ms k))
            obtain ⟨k1, hk1⟩ : ∃ k1, k1 = k - 1 := ⟨_, rfl⟩
            rw [← hk1] at h1 hl1
            clear hd1
            have a1 : IntKind.i64.wrap ((k : Int) - 1) = (k1 : Int) := by rw [Kit.w64 (by omega) (by omega)]; omega
            have g0 : decide (0 < k) = true := decide_eq_true h0
            have g1 : decide (Tr.l ms k ≤ Tr.l ms k1) = false := decide_eq_false (by omega)
            have g2 : (0 : Int) ≤ (k1 : Int) := by omega
            have g3 : (k1 : Int) < (n'' : Int) := by omega
            clear hk1 h1
            as_aux_lemma =>
              go_wp2_with fail
              go_quiet (first | (go_at_call 83; with_reducible exact quiet_drawn (QA.out _ ((Drawn.refl _).drewN _))) | (go_at_call 83; with_reducible exact quiet_drawn (QB.out _ ((Drawn.refl _).drewN _))))
              clear a1 g0 g1 g2 g3 hl1
              have HD := Lib.hid (HD.out.trans ((Drawn.refl wr).drewN nq))
              go_wp2_with fail
              clear hl hd
              go_loopw [8] (fun jv wr => ∃ j : Nat, j ≤ k ∧ jv = .int .i64 j ∧ (∀ q, q < j → Mp.at xs ys ms (Tr.l ms k) (Tr.d ms k) q = true) ∧ Drawn w wr) (fun j _ => k - (intOf j).toNat)
              case atStart => exact ⟨0, by omega, rfl, fun q hq => absurd hq (by omega), HD.out⟩
              case round =>
                obtain ⟨j, hj, rfl, hgj, hDj⟩ := hrel
                have HJ := Lib.hid hgj
                have HDj := Lib.hid hDj
                clear hgj hDj
                by_cases hjk : j < k
                · obtain ⟨hl, hd⟩ := (H2.out.to_drawn HDj.out).here (k := k) hlt
                  obtain ⟨hl2, hd2⟩ := (H2.out.to_drawn HDj.out).here (k := j) (by omega)
                  have hj0 : (0 : Int) ≤ (j : Int) := by omega
                  have hj1 : (j : Int) < (n'' : Int) := by omega
                  by_cases hge : Tr.d ms k ≤ Tr.d ms j
                  · have hf := Lib.hid (Mp.ok_no HK.out (Mp.no_c hjk (Mp.at_d (by omega))) : Mp.ok xs ys ms = false)
                    have g1 : decide (Tr.d ms k ≤ Tr.d ms j) = true := decide_eq_true hge
                    clear hge
                    go_wp2_with fail
                    go_quiet (fail)
                    go_wp2
                    go_ret
                    exact ⟨Kit.ret_bool hf.out.symm, HDj.out.trans ((Drawn.refl _).drewN _)⟩
                  · have g1 : decide (Tr.d ms k ≤ Tr.d ms j) = false := decide_eq_false hge
                    obtain ⟨u1, hu1⟩ : ∃ u, u = Tr.under xs (Tr.l ms j) (Tr.l ms k) := ⟨_, rfl⟩
                    obtain ⟨u2, hu2⟩ : ∃ u, u = Tr.under ys (Tr.d ms j) (Tr.d ms k) := ⟨_, rfl⟩
                    have QU := Lib.hid (fun (wq : World) (hq : Drawn wr wq) => show Calls Try.prog 99 #[.slice A n c, .int .i64 (Tr.l ms j), .int .i64 (Tr.l ms k)] wq fun e w' => e = .returned (.bool u1) ∧ Drawn wq w' from by rw [hu1]; exact specUnder_any _ _ _ xs _ _ _ ((H.out.to_drawn HDj.out).to_drawn hq) hn)
                    have QV := Lib.hid (fun (wq : World) (hq : Drawn wr wq) => show Calls Try.prog 99 #[.slice A' n' c', .int .i64 (Tr.d ms j), .int .i64 (Tr.d ms k)] wq fun e w' => e = .returned (.bool u2) ∧ Drawn wq w' from by rw [hu2]; exact specUnder_any _ _ _ ys _ _ _ ((H'.out.to_drawn HDj.out).to_drawn hq) hn')
                    have HLT := Lib.hid hge
                    have HU1 := Lib.hid hu1
                    have HU2 := Lib.hid hu2
                    clear hge hu1 hu2
                    cases u1 with
                    | false =>
                      cases u2 with
                      | false =>
                        have HA := Lib.hid (Mp.at_yes (HC.out j hjk) (by have := HLT.out; omega) (by rw [← HU1.out, ← HU2.out]) : Mp.at xs ys ms (Tr.l ms k) (Tr.d ms k) j = true)
                        go_wp2_with fail
                        go_quiet (first | (go_at_call 99; with_reducible exact quiet_drawn (QU.out _ ((Drawn.refl _).drewN _))) | (go_at_call 99; with_reducible exact quiet_drawn (QV.out _ ((Drawn.refl _).drewN _))))
                        go_wp2
                        go_roundw
                        case rel => exact ⟨j + 1, by omega, by go_num, fun q hq => by
                          rcases Nat.lt_succ_iff_lt_or_eq.1 hq with h' | rfl
                          · exact HJ.out q h'
                          · exact HA.out, HDj.out.trans ((Drawn.refl _).drewN _)⟩
                        case measure => simp [intOf]; omega
                      | true =>
                        have hf := Lib.hid (Mp.ok_no HK.out (Mp.no_c hjk (Mp.at_u (by rw [← HU1.out, ← HU2.out]; decide))) : Mp.ok xs ys ms = false)
                        go_wp2_with fail
                        go_quiet (first | (go_at_call 99; with_reducible exact quiet_drawn (QU.out _ ((Drawn.refl _).drewN _))) | (go_at_call 99; with_reducible exact quiet_drawn (QV.out _ ((Drawn.refl _).drewN _))))
                        go_wp2
                        go_ret
                        exact ⟨Kit.ret_bool hf.out.symm, HDj.out.trans ((Drawn.refl _).drewN _)⟩
                    | true =>
                      cases u2 with
                      | false =>
                        have hf := Lib.hid (Mp.ok_no HK.out (Mp.no_c hjk (Mp.at_u (by rw [← HU1.out, ← HU2.out]; decide))) : Mp.ok xs ys ms = false)
                        go_wp2_with fail
                        go_quiet (first | (go_at_call 99; with_reducible exact quiet_drawn (QU.out _ ((Drawn.refl _).drewN _))) | (go_at_call 99; with_reducible exact quiet_drawn (QV.out _ ((Drawn.refl _).drewN _))))
                        go_wp2
                        go_ret
                        exact ⟨Kit.ret_bool hf.out.symm, HDj.out.trans ((Drawn.refl _).drewN _)⟩
                      | true =>
                        have HA := Lib.hid (Mp.at_yes (HC.out j hjk) (by have := HLT.out; omega) (by rw [← HU1.out, ← HU2.out]) : Mp.at xs ys ms (Tr.l ms k) (Tr.d ms k) j = true)
                        go_wp2_with fail
                        go_quiet (first | (go_at_call 99; with_reducible exact quiet_drawn (QU.out _ ((Drawn.refl _).drewN _))) | (go_at_call 99; with_reducible exact quiet_drawn (QV.out _ ((Drawn.refl _).drewN _))))
                        go_wp2
                        go_roundw
                        case rel => exact ⟨j + 1, by omega, by go_num, fun q hq => by
                          rcases Nat.lt_succ_iff_lt_or_eq.1 hq with h' | rfl
                          · exact HJ.out q h'
                          · exact HA.out, HDj.out.trans ((Drawn.refl _).drewN _)⟩
                        case measure => simp [intOf]; omega
                · obtain rfl : k = j := by omega
                  have HOK := Lib.hid (Mp.okAt_yes HB1.out.symm HB2.out.symm (fun q hq => HJ.out q hq) : Mp.okAt xs ys ms k = true)
                  go_wp2
                  go_roundw
                  case rel => exact ⟨k + 1, by omega, by go_num, fun q hq => by
                    rcases Nat.lt_succ_iff_lt_or_eq.1 hq with h' | rfl
                    · exact HG.out q h'
                    · exact HOK.out, HDj.out⟩
                  case measure => simp [intOf]; omega
          · have HC := Lib.hid (fun q (hq : q < k) => (absurd hq (by omega) : Tr.l ms q < Tr.l ms k))
            have g0 : decide (0 < k) = false := decide_eq_false (by omega)
            clear h0
            as_aux_lemma =>
              go_wp2_with fail
              go_quiet (first | (go_at_call 83; with_reducible exact quiet_drawn (QA.out _ ((Drawn.refl _).drewN _))) | (go_at_call 83; with_reducible exact quiet_drawn (QB.out _ ((Drawn.refl _).drewN _))))
              clear g0
              have HD := Lib.hid (HD.out.trans ((Drawn.refl wr).drewN nq))
              go_wp2_with fail
              clear hl hd
              go_loopw [8] (fun jv wr => ∃ j : Nat, j ≤ k ∧ jv = .int .i64 j ∧ (∀ q, q < j → Mp.at xs ys ms (Tr.l ms k) (Tr.d ms k) q = true) ∧ Drawn w wr) (fun j _ => k - (intOf j).toNat)
              case atStart => exact ⟨0, by omega, rfl, fun q hq => absurd hq (by omega), HD.out⟩
              case round =>
                obtain ⟨j, hj, rfl, hgj, hDj⟩ := hrel
                have HJ := Lib.hid hgj
                have HDj := Lib.hid hDj
                clear hgj hDj
                by_cases hjk : j < k
                · obtain ⟨hl, hd⟩ := (H2.out.to_drawn HDj.out).here (k := k) hlt
                  obtain ⟨hl2, hd2⟩ := (H2.out.to_drawn HDj.out).here (k := j) (by omega)
                  have hj0 : (0 : Int) ≤ (j : Int) := by omega
                  have hj1 : (j : Int) < (n'' : Int) := by omega
                  by_cases hge : Tr.d ms k ≤ Tr.d ms j
                  · have hf := Lib.hid (Mp.ok_no HK.out (Mp.no_c hjk (Mp.at_d (by omega))) : Mp.ok xs ys ms = false)
                    have g1 : decide (Tr.d ms k ≤ Tr.d ms j) = true := decide_eq_true hge
                    clear hge
                    go_wp2_with fail
                    go_quiet (fail)
                    go_wp2
                    go_ret
                    exact ⟨Kit.ret_bool hf.out.symm, HDj.out.trans ((Drawn.refl _).drewN _)⟩
                  · have g1 : decide (Tr.d ms k ≤ Tr.d ms j) = false := decide_eq_false hge
                    obtain ⟨u1, hu1⟩ : ∃ u, u = Tr.under xs (Tr.l ms j) (Tr.l ms k) := ⟨_, rfl⟩
                    obtain ⟨u2, hu2⟩ : ∃ u, u = Tr.under ys (Tr.d ms j) (Tr.d ms k) := ⟨_, rfl⟩
                    have QU := Lib.hid (fun (wq : World) (hq : Drawn wr wq) => show Calls Try.prog 99 #[.slice A n c, .int .i64 (Tr.l ms j), .int .i64 (Tr.l ms k)] wq fun e w' => e = .returned (.bool u1) ∧ Drawn wq w' from by rw [hu1]; exact specUnder_any _ _ _ xs _ _ _ ((H.out.to_drawn HDj.out).to_drawn hq) hn)
                    have QV := Lib.hid (fun (wq : World) (hq : Drawn wr wq) => show Calls Try.prog 99 #[.slice A' n' c', .int .i64 (Tr.d ms j), .int .i64 (Tr.d ms k)] wq fun e w' => e = .returned (.bool u2) ∧ Drawn wq w' from by rw [hu2]; exact specUnder_any _ _ _ ys _ _ _ ((H'.out.to_drawn HDj.out).to_drawn hq) hn')
                    have HLT := Lib.hid hge
                    have HU1 := Lib.hid hu1
                    have HU2 := Lib.hid hu2
                    clear hge hu1 hu2
                    cases u1 with
                    | false =>
                      cases u2 with
                      | false =>
                        have HA := Lib.hid (Mp.at_yes (HC.out j hjk) (by have := HLT.out; omega) (by rw [← HU1.out, ← HU2.out]) : Mp.at xs ys ms (Tr.l ms k) (Tr.d ms k) j = true)
                        go_wp2_with fail
                        go_quiet (first | (go_at_call 99; with_reducible exact quiet_drawn (QU.out _ ((Drawn.refl _).drewN _))) | (go_at_call 99; with_reducible exact quiet_drawn (QV.out _ ((Drawn.refl _).drewN _))))
                        go_wp2
                        go_roundw
                        case rel => exact ⟨j + 1, by omega, by go_num, fun q hq => by
                          rcases Nat.lt_succ_iff_lt_or_eq.1 hq with h' | rfl
                          · exact HJ.out q h'
                          · exact HA.out, HDj.out.trans ((Drawn.refl _).drewN _)⟩
                        case measure => simp [intOf]; omega
                      | true =>
                        have hf := Lib.hid (Mp.ok_no HK.out (Mp.no_c hjk (Mp.at_u (by rw [← HU1.out, ← HU2.out]; decide))) : Mp.ok xs ys ms = false)
                        go_wp2_with fail
                        go_quiet (first | (go_at_call 99; with_reducible exact quiet_drawn (QU.out _ ((Drawn.refl _).drewN _))) | (go_at_call 99; with_reducible exact quiet_drawn (QV.out _ ((Drawn.refl _).drewN _))))
                        go_wp2
                        go_ret
                        exact ⟨Kit.ret_bool hf.out.symm, HDj.out.trans ((Drawn.refl _).drewN _)⟩
                    | true =>
                      cases u2 with
                      | false =>
                        have hf := Lib.hid (Mp.ok_no HK.out (Mp.no_c hjk (Mp.at_u (by rw [← HU1.out, ← HU2.out]; decide))) : Mp.ok xs ys ms = false)
                        go_wp2_with fail
                        go_quiet (first | (go_at_call 99; with_reducible exact quiet_drawn (QU.out _ ((Drawn.refl _).drewN _))) | (go_at_call 99; with_reducible exact quiet_drawn (QV.out _ ((Drawn.refl _).drewN _))))
                        go_wp2
                        go_ret
                        exact ⟨Kit.ret_bool hf.out.symm, HDj.out.trans ((Drawn.refl _).drewN _)⟩
                      | true =>
                        have HA := Lib.hid (Mp.at_yes (HC.out j hjk) (by have := HLT.out; omega) (by rw [← HU1.out, ← HU2.out]) : Mp.at xs ys ms (Tr.l ms k) (Tr.d ms k) j = true)
                        go_wp2_with fail
                        go_quiet (first | (go_at_call 99; with_reducible exact quiet_drawn (QU.out _ ((Drawn.refl _).drewN _))) | (go_at_call 99; with_reducible exact quiet_drawn (QV.out _ ((Drawn.refl _).drewN _))))
                        go_wp2
                        go_roundw
                        case rel => exact ⟨j + 1, by omega, by go_num, fun q hq => by
                          rcases Nat.lt_succ_iff_lt_or_eq.1 hq with h' | rfl
                          · exact HJ.out q h'
                          · exact HA.out, HDj.out.trans ((Drawn.refl _).drewN _)⟩
                        case measure => simp [intOf]; omega
                · obtain rfl : k = j := by omega
                  have HOK := Lib.hid (Mp.okAt_yes HB1.out.symm HB2.out.symm (fun q hq => HJ.out q hq) : Mp.okAt xs ys ms k = true)
                  go_wp2
                  go_roundw
                  case rel => exact ⟨k + 1, by omega, by go_num, fun q hq => by
                    rcases Nat.lt_succ_iff_lt_or_eq.1 hq with h' | rfl
                    · exact HG.out q h'
                    · exact HOK.out, HDj.out⟩
                  case measure => simp [intOf]; omega
    · obtain rfl : k = n'' := by omega
      have HE := Lib.hid (Mp.ok_yes (fun q hq => HG.out q (by rw [← HL.out]; exact hq)) : Mp.ok xs ys ms = (Tr.ok xs && Tr.ok ys))
      obtain ⟨b1, hb1⟩ : ∃ b, b = Tr.ok xs := ⟨_, rfl⟩
      obtain ⟨b2, hb2⟩ : ∃ b, b = Tr.ok ys := ⟨_, rfl⟩
      rw [← hb1, ← hb2] at HE
      have C1 := Lib.hid (fun (wq : World) (hd : Drawn w wq) => show Calls Try.prog 24 #[.slice A n c] wq fun e w' => e = .returned (.bool b1) ∧ Drawn wq w' from by rw [hb1]; exact specTreeOk_any _ _ _ xs _ (H.out.to_drawn hd) hn)
      have C2 := Lib.hid (fun (wq : World) (hd : Drawn w wq) => show Calls Try.prog 24 #[.slice A' n' c'] wq fun e w' => e = .returned (.bool b2) ∧ Drawn wq w' from by rw [hb2]; exact specTreeOk_any _ _ _ ys _ (H'.out.to_drawn hd) hn')
      clear hb1 hb2
      cases b1 with
      | false =>
        as_aux_lemma =>
          go_wp2_with fail
          refine (C1.out _ HD.out).mono ?_
          rintro e w1 ⟨rfl, hd1⟩
          go_wp2
          go_ret
          exact ⟨Kit.ret_bool HE.out.symm, HD.out.trans hd1⟩
      | true =>
        as_aux_lemma =>
          go_wp2_with fail
          refine (C1.out _ HD.out).mono ?_
          rintro e w1 ⟨rfl, hd1⟩
          have HD := Lib.hid (HD.out.trans hd1)
          clear hd1
          go_wp2_with fail
          refine (C2.out _ HD.out).mono ?_
          rintro e w2 ⟨rfl, hd2⟩
          go_wp2
          go_ret
          exact ⟨Kit.ret_bool (by rw [HE.out]; rfl), HD.out.trans hd2⟩

end Go.Proofs.Ytfchmdhlfhoogaa

/- Contracts (DelS). -/
namespace Go.Proofs.Ytfchmdhlfhoogaa
open Go.RowKit
set_option linter.unusedVariables false

set_option maxHeartbeats 1600000 in
set_option maxRecDepth 100000 in
theorem specDelCost_any (A0 A1 A2 : Option Addr) (n0 n1 n2 c0 c1 c2 : Nat) (k : Co) (a : Int) (w : World) (h : CoIn w w.heap.size A0 A1 A2 n0 n1 n2 k) (h0 : n0 ≤ 1048576) (h1 : n1 ≤ 1048576) (h2 : n2 ≤ 1048576) :
    Calls Try.prog 106 #[.agg #[.slice A0 n0 c0, .slice A1 n1 c1, .slice A2 n2 c2], .int .i64 a] w fun e w' => e = .returned (.int .i64 (Co.del k a)) ∧ Below w.heap.size w w' := by
  have H := Lib.hid h
  have HL := Lib.hid h.len
  clear h
  have HB := Lib.hid ((Below.refl w.heap.size w).alloc (Nat.le_refl _) (.cells #[.slice A0 n0 c0, .slice A1 n1 c1, .slice A2 n2 c2] 27))
  have H1 := Lib.hid (H.out.to_below HB.out)
  cases e0 : Co.ok k with
  | false =>
    have Hf := Lib.hid (show Co.del k a = 0 by unfold Co.del; rw [e0]; rfl)
    have E0 := Lib.hid e0
    clear e0
    go_enter Try.func106, Try.ntmps106
    go_wp2_with fail
    refine (specCostOk_any _ _ _ _ _ _ _ _ _ k _ H1.out h0 h1 h2).mono ?_
    rintro e w1 ⟨rfl, hb⟩
    have HB := Lib.hid (HB.out.trans (hb.mono HB.out.size))
    clear hb
    rw [E0.out]
    go_wp2
    go_ret
    exact ⟨Kit.ret_int Hf.out.symm, HB.out⟩
  | true =>
    cases e1 : Lab.ok a with
    | false =>
      have Hf := Lib.hid (show Co.del k a = 0 by unfold Co.del; rw [e0, e1]; rfl)
      have E0 := Lib.hid e0
      have E1 := Lib.hid e1
      clear e0 e1
      go_enter Try.func106, Try.ntmps106
      go_wp2_with fail
      refine (specCostOk_any _ _ _ _ _ _ _ _ _ k _ H1.out h0 h1 h2).mono ?_
      rintro e w1 ⟨rfl, hb⟩
      have HB := Lib.hid (HB.out.trans (hb.mono HB.out.size))
      clear hb
      rw [E0.out]
      go_wp2_with fail
      refine (specLabelOk_any _ _).mono ?_
      rintro e w2 ⟨rfl, rfl⟩
      rw [E1.out]
      go_wp2
      go_ret
      exact ⟨Kit.ret_int Hf.out.symm, HB.out⟩
    | true =>
      have hl := (Co.ok_iff.1 e0)
      have hd := (Zs.fit_iff.1 hl.1).1
      have ha : 0 ≤ a ∧ a ≤ 5 := by simpa [Lab.ok] using e1
      obtain ⟨j, rfl⟩ := Int.eq_ofNat_of_zero_le ha.1
      have Hf := Lib.hid (show Co.del k (j : Int) = Zs.at k.d j by unfold Co.del; rw [e0, e1]; rfl)
      have E0 := Lib.hid e0
      have E1 := Lib.hid e1
      have hn6 : n0 = 6 := by rw [← hd]; exact HL.out.1.symm
      clear e0 e1 hl hd
      subst hn6
      obtain ⟨ad, rfl, _⟩ := H1.out.1.2.1 (by omega)
      have hj : j < 6 := by omega
      have j0 : (0 : Int) ≤ (j : Int) := by omega
      have j1 : (j : Int) < 6 := by omega
      have g0 : (w.alloc (.cells #[.slice (some ad) 6 c0, .slice A1 n1 c1, .slice A2 n2 c2] 27)).cell? ⟨w.heap.size, 0, none⟩ = some (.slice (some ad) 6 c0) := by simp
      have f0 := HB.out
      go_enter Try.func106, Try.ntmps106
      go_wp2_with fail
      refine (specCostOk_any _ _ _ _ _ _ _ _ _ k _ H1.out h0 h1 h2).mono ?_
      rintro e w1 ⟨rfl, hb⟩
      have HB := Lib.hid (HB.out.trans (hb.mono HB.out.size))
      have H1 := Lib.hid (H1.out.to_below hb)
      have g1 := (hb.cell (p := ⟨w.heap.size, 0, none⟩) (by simp)).trans g0
      have c1' := H1.out.1.here (k := j) hj
      clear hb g0 f0
      rw [E0.out]
      go_wp2_with fail
      refine (specLabelOk_any _ _).mono ?_
      rintro e w2 ⟨rfl, rfl⟩
      rw [E1.out]
      go_wp2
      go_ret
      exact ⟨Kit.ret_int Hf.out.symm, HB.out⟩

end Go.Proofs.Ytfchmdhlfhoogaa

/- Contracts (InsS). -/
namespace Go.Proofs.Ytfchmdhlfhoogaa
open Go.RowKit
set_option linter.unusedVariables false

set_option maxHeartbeats 1600000 in
set_option maxRecDepth 100000 in
theorem specInsCost_any (A0 A1 A2 : Option Addr) (n0 n1 n2 c0 c1 c2 : Nat) (k : Co) (a : Int) (w : World) (h : CoIn w w.heap.size A0 A1 A2 n0 n1 n2 k) (h0 : n0 ≤ 1048576) (h1 : n1 ≤ 1048576) (h2 : n2 ≤ 1048576) :
    Calls Try.prog 108 #[.agg #[.slice A0 n0 c0, .slice A1 n1 c1, .slice A2 n2 c2], .int .i64 a] w fun e w' => e = .returned (.int .i64 (Co.ins k a)) ∧ Below w.heap.size w w' := by
  have H := Lib.hid h
  have HL := Lib.hid h.len
  clear h
  have HB := Lib.hid ((Below.refl w.heap.size w).alloc (Nat.le_refl _) (.cells #[.slice A0 n0 c0, .slice A1 n1 c1, .slice A2 n2 c2] 27))
  have H1 := Lib.hid (H.out.to_below HB.out)
  cases e0 : Co.ok k with
  | false =>
    have Hf := Lib.hid (show Co.ins k a = 0 by unfold Co.ins; rw [e0]; rfl)
    have E0 := Lib.hid e0
    clear e0
    go_enter Try.func108, Try.ntmps108
    go_wp2_with fail
    refine (specCostOk_any _ _ _ _ _ _ _ _ _ k _ H1.out h0 h1 h2).mono ?_
    rintro e w1 ⟨rfl, hb⟩
    have HB := Lib.hid (HB.out.trans (hb.mono HB.out.size))
    clear hb
    rw [E0.out]
    go_wp2
    go_ret
    exact ⟨Kit.ret_int Hf.out.symm, HB.out⟩
  | true =>
    cases e1 : Lab.ok a with
    | false =>
      have Hf := Lib.hid (show Co.ins k a = 0 by unfold Co.ins; rw [e0, e1]; rfl)
      have E0 := Lib.hid e0
      have E1 := Lib.hid e1
      clear e0 e1
      go_enter Try.func108, Try.ntmps108
      go_wp2_with fail
      refine (specCostOk_any _ _ _ _ _ _ _ _ _ k _ H1.out h0 h1 h2).mono ?_
      rintro e w1 ⟨rfl, hb⟩
      have HB := Lib.hid (HB.out.trans (hb.mono HB.out.size))
      clear hb
      rw [E0.out]
      go_wp2_with fail
      refine (specLabelOk_any _ _).mono ?_
      rintro e w2 ⟨rfl, rfl⟩
      rw [E1.out]
      go_wp2
      go_ret
      exact ⟨Kit.ret_int Hf.out.symm, HB.out⟩
    | true =>
      have hl := (Co.ok_iff.1 e0)
      have hd := (Zs.fit_iff.1 hl.2.1).1
      have ha : 0 ≤ a ∧ a ≤ 5 := by simpa [Lab.ok] using e1
      obtain ⟨j, rfl⟩ := Int.eq_ofNat_of_zero_le ha.1
      have Hf := Lib.hid (show Co.ins k (j : Int) = Zs.at k.i j by unfold Co.ins; rw [e0, e1]; rfl)
      have E0 := Lib.hid e0
      have E1 := Lib.hid e1
      have hn6 : n1 = 6 := by rw [← hd]; exact HL.out.2.1.symm
      clear e0 e1 hl hd
      subst hn6
      obtain ⟨ad, rfl, _⟩ := H1.out.2.1.2.1 (by omega)
      have hj : j < 6 := by omega
      have j0 : (0 : Int) ≤ (j : Int) := by omega
      have j1 : (j : Int) < 6 := by omega
      have g0 : (w.alloc (.cells #[.slice A0 n0 c0, .slice (some ad) 6 c1, .slice A2 n2 c2] 27)).cell? ⟨w.heap.size, 1, none⟩ = some (.slice (some ad) 6 c1) := by simp
      have f0 := HB.out
      go_enter Try.func108, Try.ntmps108
      go_wp2_with fail
      refine (specCostOk_any _ _ _ _ _ _ _ _ _ k _ H1.out h0 h1 h2).mono ?_
      rintro e w1 ⟨rfl, hb⟩
      have HB := Lib.hid (HB.out.trans (hb.mono HB.out.size))
      have H1 := Lib.hid (H1.out.to_below hb)
      have g1 := (hb.cell (p := ⟨w.heap.size, 1, none⟩) (by simp)).trans g0
      have c1' := H1.out.2.1.here (k := j) hj
      clear hb g0 f0
      rw [E0.out]
      go_wp2_with fail
      refine (specLabelOk_any _ _).mono ?_
      rintro e w2 ⟨rfl, rfl⟩
      rw [E1.out]
      go_wp2
      go_ret
      exact ⟨Kit.ret_int Hf.out.symm, HB.out⟩

end Go.Proofs.Ytfchmdhlfhoogaa

/- Contracts (McS). -/
namespace Go.Proofs.Ytfchmdhlfhoogaa
open Go.RowKit
set_option linter.unusedVariables false

set_option maxHeartbeats 3200000 in
set_option maxRecDepth 100000 in
theorem specMapCost_any (A A' A'' K0 K1 K2 : Option Addr) (n n' n'' n0 n1 n2 c c' c'' c0 c1 c2 : Nat) (xs ys ms : Tr) (k : Co) (w : World) (ha : NdIn w w.heap.size A n xs) (hb : NdIn w w.heap.size A' n' ys) (hk : CoIn w w.heap.size K0 K1 K2 n0 n1 n2 k) (hm : NdIn w w.heap.size A'' n'' ms) (hn : n ≤ 1048576) (hn' : n' ≤ 1048576) (hn'' : n'' ≤ 1048576) (h0 : n0 ≤ 1048576) (h1 : n1 ≤ 1048576) (h2 : n2 ≤ 1048576) :
    Calls Try.prog 55 #[.slice A n c, .slice A' n' c', .agg #[.slice K0 n0 c0, .slice K1 n1 c1, .slice K2 n2 c2], .slice A'' n'' c''] w fun e w' => e = .returned (.int .i64 (Mp.cost xs ys k ms)) ∧ Below w.heap.size w w' := by
  obtain ⟨wc, hwc⟩ : ∃ wc, wc = w.alloc (.cells #[.slice K0 n0 c0, .slice K1 n1 c1, .slice K2 n2 c2] 27) := ⟨_, rfl⟩
  have hbc : Below w.heap.size w wc := by rw [hwc]; exact (Below.refl _ _).alloc (Nat.le_refl _) _
  have HQ := Lib.hid (show Box3 wc w.heap.size (.slice K0 n0 c0) (.slice K1 n1 c1) (.slice K2 n2 c2) by rw [hwc]; exact Box3.made _ _ _ _ _)
  have HWC := Lib.hid hwc
  have HA := Lib.hid (ha.to_below hbc)
  have HB := Lib.hid (hb.to_below hbc)
  have HM := Lib.hid (hm.to_below hbc)
  have HK := Lib.hid (hk.to_below hbc)
  have HBC := Lib.hid hbc
  have HN := Lib.hid ha.1
  have HN' := Lib.hid hb.1
  have HN2 := Lib.hid hm.1
  have HBX := Lib.hid (fun (wq : World) (hq : Below wc.heap.size wc wq) => (⟨(hq.cell (World.block_lt_of_cell? _ _ HQ.out.1)).trans HQ.out.1, (hq.cell (World.block_lt_of_cell? _ _ HQ.out.2.1)).trans HQ.out.2.1, (hq.cell (World.block_lt_of_cell? _ _ HQ.out.2.2)).trans HQ.out.2.2⟩ : wq.cell? ⟨w.heap.size, 0, none⟩ = some (.slice K0 n0 c0) ∧ wq.cell? ⟨w.heap.size, 1, none⟩ = some (.slice K1 n1 c1) ∧ wq.cell? ⟨w.heap.size, 2, none⟩ = some (.slice K2 n2 c2)))
  obtain ⟨b1, hb1⟩ : ∃ b, b = Mp.ok xs ys ms := ⟨_, rfl⟩
  obtain ⟨b2, hb2⟩ : ∃ b, b = Co.ok k := ⟨_, rfl⟩
  have CM := Lib.hid (show Calls Try.prog 49 #[.slice A n c, .slice A' n' c', .slice A'' n'' c''] wc fun e w' => e = .returned (.bool b1) ∧ Below wc.heap.size wc w' from by
    rw [hb1]
    refine (specMapOk_any A A' A'' n n' n'' c c' c'' xs ys ms wc HA.out HB.out HM.out hn hn' hn'').mono ?_
    rintro e wq ⟨he, hh⟩
    exact ⟨he, hh.toBelow⟩)
  have CO := Lib.hid (fun (wq : World) (hq : Below wc.heap.size wc wq) => show Calls Try.prog 25 #[.agg #[.slice K0 n0 c0, .slice K1 n1 c1, .slice K2 n2 c2]] wq fun e w' => e = .returned (.bool b2) ∧ Below wq.heap.size wq w' from by rw [hb2]; exact specCostOk_any K0 K1 K2 n0 n1 n2 c0 c1 c2 k wq (HK.out.to_below hq) h0 h1 h2)
  have CD := Lib.hid (fun (l : Int) (wq : World) (hq : Below wc.heap.size wc wq) => ((specDelCost_any K0 K1 K2 n0 n1 n2 c0 c1 c2 k l wq (HK.out.to_below hq) h0 h1 h2) : Calls Try.prog 106 #[.agg #[.slice K0 n0 c0, .slice K1 n1 c1, .slice K2 n2 c2], .int .i64 l] wq fun e w' => e = .returned (.int .i64 (Co.del k l)) ∧ Below wq.heap.size wq w'))
  have CI := Lib.hid (fun (l : Int) (wq : World) (hq : Below wc.heap.size wc wq) => ((specInsCost_any K0 K1 K2 n0 n1 n2 c0 c1 c2 k l wq (HK.out.to_below hq) h0 h1 h2) : Calls Try.prog 108 #[.agg #[.slice K0 n0 c0, .slice K1 n1 c1, .slice K2 n2 c2], .int .i64 l] wq fun e w' => e = .returned (.int .i64 (Co.ins k l)) ∧ Below wq.heap.size wq w'))
  have CR := Lib.hid (fun (l m : Int) (wq : World) (hq : Below wc.heap.size wc wq) => ((specRelCost_any K0 K1 K2 n0 n1 n2 c0 c1 c2 k l m wq (HK.out.to_below hq) h0 h1 h2) : Calls Try.prog 72 #[.agg #[.slice K0 n0 c0, .slice K1 n1 c1, .slice K2 n2 c2], .int .i64 l, .int .i64 m] wq fun e w' => e = .returned (.int .i64 (Co.rel k l m)) ∧ Below wq.heap.size wq w'))
  have HB1 := Lib.hid hb1
  have HB2 := Lib.hid hb2
  clear ha hb hk hm hwc hbc hb1 hb2
  cases b1 with
  | false =>
    have Hf := Lib.hid (show Mp.cost xs ys k ms = -1 by unfold Mp.cost; rw [← HB1.out]; rfl)
    as_aux_lemma =>
      go_enter Try.func55, Try.ntmps55
      go_wp2_with fail
      rw [← HWC.out]
      (try go_wp2_with fail)
      refine CM.out.mono ?_
      rintro e w1 ⟨rfl, b1⟩
      have B1 := Lib.hid b1
      clear b1
      go_wp2
      go_ret
      exact ⟨Kit.ret_int Hf.out.symm, HBC.out.trans (B1.out.mono HBC.out.size)⟩
  | true =>
    cases b2 with
    | false =>
      have Hf := Lib.hid (show Mp.cost xs ys k ms = -1 by unfold Mp.cost; rw [← HB1.out, ← HB2.out]; rfl)
      as_aux_lemma =>
        go_enter Try.func55, Try.ntmps55
        go_wp2_with fail
        rw [← HWC.out]
        (try go_wp2_with fail)
        refine CM.out.mono ?_
        rintro e w1 ⟨rfl, b1⟩
        have B1 := Lib.hid b1
        clear b1
        obtain ⟨q0, q1, q2⟩ := HBX.out w1 B1.out
        go_wp2_with fail
        clear q0 q1 q2
        refine (CO.out w1 B1.out).mono ?_
        rintro e w2 ⟨rfl, b2⟩
        have B2 := Lib.hid (B1.out.trans (b2.mono B1.out.size))
        clear b2
        go_wp2
        go_ret
        exact ⟨Kit.ret_int Hf.out.symm, HBC.out.trans (B2.out.mono HBC.out.size)⟩
    | true =>
      obtain ⟨ox, oy, oall⟩ := Mp.ok_all HB1.out.symm
      have x24 := Tr.len24 ox
      have y24 := Tr.len24 oy
      have HOA := Lib.hid oall
      have hln := HN.out
      have hln' := HN'.out
      obtain ⟨ad, rfl, _⟩ := HA.out.at_ (k := 0) (by omega)
      obtain ⟨bd, rfl, _⟩ := HB.out.at_ (k := 0) (by omega)
      have Hf := Lib.hid (show Mp.cost xs ys k ms = Mp.part xs ys k ms ms.length by unfold Mp.cost; rw [← HB1.out, ← HB2.out]; rfl)
      have HL := Lib.hid hln
      have HL' := Lib.hid hln'
      have X := Lib.hid x24
      have Y := Lib.hid y24
      clear ox oy oall x24 y24 hln hln'
      go_enter Try.func55, Try.ntmps55
      go_wp2_with fail
      rw [← HWC.out]
      (try go_wp2_with fail)
      refine CM.out.mono ?_
      rintro e w1 ⟨rfl, b1⟩
      have B1 := Lib.hid b1
      clear b1
      obtain ⟨q0, q1, q2⟩ := HBX.out w1 B1.out
      go_wp2_with fail
      clear q0 q1 q2
      refine (CO.out w1 B1.out).mono ?_
      rintro e w2 ⟨rfl, b2⟩
      have B2 := Lib.hid (B1.out.trans (b2.mono B1.out.size))
      clear b2
      go_wp2
      go_loopw [9, 10] (fun sv iv wr => ∃ i : Nat, i ≤ n ∧ iv = .int .i64 i ∧ sv = .int .i64 (Mp.sum (Mp.gx xs ys k ms) i) ∧ Below wc.heap.size wc wr) (fun _ iv _ => n - (intOf iv).toNat)
      case atStart => exact ⟨0, by omega, rfl, rfl, B2.out⟩
      case round =>
        obtain ⟨i, hi, rfl, rfl, hR⟩ := hrel
        have HR := Lib.hid hR
        clear hR
        by_cases hlt : i < n
        · have bd1 := Mp.sum_bound (f := Mp.gx xs ys k ms) Mp.gx_bound i
          have bd2 := Mp.gx_bound (xs := xs) (ys := ys) (ms := ms) (k := k) i
          have hst : Mp.sum (Mp.gx xs ys k ms) (i + 1) = Mp.sum (Mp.gx xs ys k ms) i + Mp.gx xs ys k ms i := rfl
          have hof := Mp.of_at (k := k) HB1.out.symm i
          obtain ⟨s, hs⟩ : ∃ s, s = Mp.sum (Mp.gx xs ys k ms) i := ⟨_, rfl⟩
          obtain ⟨g, hg⟩ : ∃ g, g = Mp.gx xs ys k ms i := ⟨_, rfl⟩
          have HX := X.out
          have HLX := HL.out
          rw [← hs] at bd1 hst
          rw [← hg] at bd2 hst
          have a1 : IntKind.i64.wrap (s + g) = s + g := Kit.w64 (by omega) (by omega)
          have k0 : (0 : Int) ≤ (i : Int) := by omega
          have k1 : (i : Int) < (n : Int) := by omega
          have HST := Lib.hid hst
          have HG := Lib.hid hg
          rw [← hs]
          clear hst hs bd1 bd2 hg
          rcases hof with ⟨e1, e2⟩ | ⟨b, hb, e1, e2⟩
          · have CF := Lib.hid (show Calls Try.prog 105 #[.slice A'' n'' c'', .int .i64 i] wr fun e w' => e = .returned (.int .i64 (-1)) ∧ Drawn wr w' from by rw [← e1]; exact l10Of_any A'' n'' c'' ms i wr (HM.out.to_below HR.out) hn'')
            have hg2 : g = Co.del k (Tr.l xs i) := HG.out.trans e2
            have CC := Lib.hid (fun (wq : World) (hq : Below wc.heap.size wc wq) => show Calls Try.prog 106 #[.agg #[.slice K0 n0 c0, .slice K1 n1 c1, .slice K2 n2 c2], .int .i64 (Tr.l xs i)] wq fun e w' => e = .returned (.int .i64 g) ∧ Below wq.heap.size wq w' from by rw [hg2]; exact CD.out _ wq hq)
            clear e1 e2 hg2
            as_aux_lemma =>
              go_wp2_with fail
              refine CF.out.mono ?_
              rintro e w3 ⟨rfl, d3⟩
              have H3 := Lib.hid (HR.out.trans (d3.toBelow.mono HR.out.size))
              have CC := Lib.hid (fun (wq : World) (hq : Below w3.heap.size w3 wq) => CC.out wq (H3.out.trans (hq.mono H3.out.size)))
              clear d3
              have lc := ((HA.out.to_below H3.out).here (k := i) hlt).1
              obtain ⟨bx0, bx1, bx2⟩ := HBX.out w3 H3.out
              have S0 := Lib.hid (show ((w3.drew.cell? ⟨w.heap.size, 0, none⟩ = some (.slice K0 n0 c0) ∧ w3.drew.cell? ⟨w.heap.size, 1, none⟩ = some (.slice K1 n1 c1) ∧ w3.drew.cell? ⟨w.heap.size, 2, none⟩ = some (.slice K2 n2 c2)) ∧ (w3.drew.cell? (ad.add (i * 2)) = some (.int .i64 (Tr.l xs i)) ∧ w3.drew.cell? (ad.add (i * 2)) = some (.int .i64 (Tr.l xs i)))) ∧ BelA w3 w3.drew from ⟨⟨⟨bx0, bx1, bx2⟩, lc, lc⟩, (Drawn.refl _).drew.toBelow⟩)
              clear bx0 bx1 bx2
              go_wp2_with fail
              go_region_held3 (fun wq => ((wq.cell? ⟨w.heap.size, 0, none⟩ = some (.slice K0 n0 c0) ∧ wq.cell? ⟨w.heap.size, 1, none⟩ = some (.slice K1 n1 c1) ∧ wq.cell? ⟨w.heap.size, 2, none⟩ = some (.slice K2 n2 c2)) ∧ (wq.cell? (ad.add (i * 2)) = some (.int .i64 (Tr.l xs i)) ∧ wq.cell? (ad.add (i * 2)) = some (.int .i64 (Tr.l xs i)))) ∧ BelA w3 wq) (first | (with_reducible exact SC) | (with_reducible exact S0.out)) (first | ((go_at_call 106; with_reducible refine (CC.out _ (fv_below (by assumption))).mono ?_); rintro e w5 ⟨rfl, hb5⟩; have SC := fv_keep (by assumption) hb5))
              have HR2 := Lib.hid (H3.out.trans ((fv_below SC).mono H3.out.size))
              go_wp2
              go_roundw
              case rel => exact ⟨i + 1, by omega, by go_num, by rw [HST.out], HR2.out⟩
              case measure => simp [intOf]; omega
          · have CF := Lib.hid (show Calls Try.prog 105 #[.slice A'' n'' c'', .int .i64 i] wr fun e w' => e = .returned (.int .i64 b) ∧ Drawn wr w' from by rw [← e1]; exact l10Of_any A'' n'' c'' ms i wr (HM.out.to_below HR.out) hn'')
            have hg2 : g = Co.rel k (Tr.l xs i) (Tr.l ys b) := HG.out.trans e2
            have CC := Lib.hid (fun (wq : World) (hq : Below wc.heap.size wc wq) => show Calls Try.prog 72 #[.agg #[.slice K0 n0 c0, .slice K1 n1 c1, .slice K2 n2 c2], .int .i64 (Tr.l xs i), .int .i64 (Tr.l ys b)] wq fun e w' => e = .returned (.int .i64 g) ∧ Below wq.heap.size wq w' from by rw [hg2]; exact CR.out _ _ wq hq)
            have HLY := HL'.out
            have k2 : (0 : Int) ≤ (b : Int) := by omega
            have k3 : (b : Int) < (n' : Int) := by omega
            have k4 : b < n' := by omega
            have f1 : decide ((b : Int) < 0) = false := decide_eq_false (by omega)
            clear e1 e2 hg2
            as_aux_lemma =>
              go_wp2_with fail
              refine CF.out.mono ?_
              rintro e w3 ⟨rfl, d3⟩
              have H3 := Lib.hid (HR.out.trans (d3.toBelow.mono HR.out.size))
              have CC := Lib.hid (fun (wq : World) (hq : Below w3.heap.size w3 wq) => CC.out wq (H3.out.trans (hq.mono H3.out.size)))
              clear d3
              have lc := ((HA.out.to_below H3.out).here (k := i) hlt).1
              have lc2 := ((HB.out.to_below H3.out).here (k := b) k4).1
              obtain ⟨bx0, bx1, bx2⟩ := HBX.out w3 H3.out
              have S0 := Lib.hid (show ((w3.drew.cell? ⟨w.heap.size, 0, none⟩ = some (.slice K0 n0 c0) ∧ w3.drew.cell? ⟨w.heap.size, 1, none⟩ = some (.slice K1 n1 c1) ∧ w3.drew.cell? ⟨w.heap.size, 2, none⟩ = some (.slice K2 n2 c2)) ∧ (w3.drew.cell? (ad.add (i * 2)) = some (.int .i64 (Tr.l xs i)) ∧ w3.drew.cell? (bd.add (b * 2)) = some (.int .i64 (Tr.l ys b)))) ∧ BelA w3 w3.drew from ⟨⟨⟨bx0, bx1, bx2⟩, lc, lc2⟩, (Drawn.refl _).drew.toBelow⟩)
              clear bx0 bx1 bx2
              go_wp2_with fail
              go_region_held3 (fun wq => ((wq.cell? ⟨w.heap.size, 0, none⟩ = some (.slice K0 n0 c0) ∧ wq.cell? ⟨w.heap.size, 1, none⟩ = some (.slice K1 n1 c1) ∧ wq.cell? ⟨w.heap.size, 2, none⟩ = some (.slice K2 n2 c2)) ∧ (wq.cell? (ad.add (i * 2)) = some (.int .i64 (Tr.l xs i)) ∧ wq.cell? (bd.add (b * 2)) = some (.int .i64 (Tr.l ys b)))) ∧ BelA w3 wq) (first | (with_reducible exact SC) | (with_reducible exact S0.out)) (first | ((go_at_call 72; with_reducible refine (CC.out _ (fv_below (by assumption))).mono ?_); rintro e w5 ⟨rfl, hb5⟩; have SC := fv_keep (by assumption) hb5))
              have HR2 := Lib.hid (H3.out.trans ((fv_below SC).mono H3.out.size))
              go_wp2
              go_roundw
              case rel => exact ⟨i + 1, by omega, by go_num, by rw [HST.out], HR2.out⟩
              case measure => simp [intOf]; omega
        · obtain rfl : i = n := by omega
          obtain ⟨sx, hsx⟩ : ∃ sx, sx = Mp.sum (Mp.gx xs ys k ms) i := ⟨_, rfl⟩
          have bx := Mp.sum_bound (f := Mp.gx xs ys k ms) Mp.gx_bound i
          rw [← hsx] at bx ⊢
          have HX := X.out
          have HLX := HL.out
          have BX := Lib.hid (show 0 ≤ sx ∧ sx ≤ 24000 by omega)
          have HSX := Lib.hid (show Mp.sum (Mp.gx xs ys k ms) xs.length = sx by rw [HL.out]; exact hsx.symm)
          clear hsx bx hlt hi HX HLX
          go_wp2
          go_loopw [9, 12] (fun sv iv wr => ∃ j : Nat, j ≤ n' ∧ iv = .int .i64 j ∧ sv = .int .i64 (sx + Mp.sum (Mp.gy ys k ms) j) ∧ Below wc.heap.size wc wr) (fun _ iv _ => n' - (intOf iv).toNat)
          case atStart => exact ⟨0, by omega, rfl, by simp [Mp.sum], HR.out⟩
          case round =>
            clear HR
            obtain ⟨j, hj, rfl, rfl, hR⟩ := hrel
            have HR := Lib.hid hR
            clear hR
            by_cases hlt : j < n'
            · have bd1 := Mp.sum_bound (f := Mp.gy ys k ms) Mp.gy_bound j
              have bd2 := Mp.gy_bound (ys := ys) (ms := ms) (k := k) j
              have hst : sx + Mp.sum (Mp.gy ys k ms) (j + 1) = sx + Mp.sum (Mp.gy ys k ms) j + Mp.gy ys k ms j := (Int.add_assoc _ _ _).symm
              have hof := Mp.back_at (k := k) HB1.out.symm j
              obtain ⟨s, hs⟩ : ∃ s, s = sx + Mp.sum (Mp.gy ys k ms) j := ⟨_, rfl⟩
              obtain ⟨g, hg⟩ : ∃ g, g = Mp.gy ys k ms j := ⟨_, rfl⟩
              have HX := Y.out
              have HLX := HL'.out
              have HBX0 := BX.out
              have bd3 : 0 ≤ s ∧ s ≤ 48000 := by omega
              rw [← hs] at hst
              rw [← hg] at bd2 hst
              have a1 : IntKind.i64.wrap (s + g) = s + g := Kit.w64 (by omega) (by omega)
              have k0 : (0 : Int) ≤ (j : Int) := by omega
              have k1 : (j : Int) < (n' : Int) := by omega
              have HST := Lib.hid hst
              have HG := Lib.hid hg
              rw [← hs]
              clear hst hs bd1 bd2 bd3 hg HBX0
              rcases hof with ⟨e1, e2⟩ | ⟨b, e1, e2⟩
              · have CF := Lib.hid (show Calls Try.prog 107 #[.slice A'' n'' c'', .int .i64 j] wr fun e w' => e = .returned (.int .i64 (-1)) ∧ Drawn wr w' from by rw [← e1]; exact l10Back_any A'' n'' c'' ms j wr (HM.out.to_below HR.out) hn'')
                have hg2 : g = Co.ins k (Tr.l ys j) := HG.out.trans e2
                have CC := Lib.hid (fun (wq : World) (hq : Below wc.heap.size wc wq) => show Calls Try.prog 108 #[.agg #[.slice K0 n0 c0, .slice K1 n1 c1, .slice K2 n2 c2], .int .i64 (Tr.l ys j)] wq fun e w' => e = .returned (.int .i64 g) ∧ Below wq.heap.size wq w' from by rw [hg2]; exact CI.out _ wq hq)
                clear e1 e2 hg2
                as_aux_lemma =>
                  go_wp2_with fail
                  refine CF.out.mono ?_
                  rintro e w3 ⟨rfl, d3⟩
                  have H3 := Lib.hid (HR.out.trans (d3.toBelow.mono HR.out.size))
                  have CC := Lib.hid (fun (wq : World) (hq : Below w3.heap.size w3 wq) => CC.out wq (H3.out.trans (hq.mono H3.out.size)))
                  clear d3
                  have lc := ((HB.out.to_below H3.out).here (k := j) hlt).1
                  obtain ⟨bx0, bx1, bx2⟩ := HBX.out w3 H3.out
                  have S0 := Lib.hid (show ((w3.drew.cell? ⟨w.heap.size, 0, none⟩ = some (.slice K0 n0 c0) ∧ w3.drew.cell? ⟨w.heap.size, 1, none⟩ = some (.slice K1 n1 c1) ∧ w3.drew.cell? ⟨w.heap.size, 2, none⟩ = some (.slice K2 n2 c2)) ∧ (w3.drew.cell? (bd.add (j * 2)) = some (.int .i64 (Tr.l ys j)) ∧ w3.drew.cell? (bd.add (j * 2)) = some (.int .i64 (Tr.l ys j)))) ∧ BelA w3 w3.drew from ⟨⟨⟨bx0, bx1, bx2⟩, lc, lc⟩, (Drawn.refl _).drew.toBelow⟩)
                  clear bx0 bx1 bx2
                  go_wp2_with fail
                  go_region_held3 (fun wq => ((wq.cell? ⟨w.heap.size, 0, none⟩ = some (.slice K0 n0 c0) ∧ wq.cell? ⟨w.heap.size, 1, none⟩ = some (.slice K1 n1 c1) ∧ wq.cell? ⟨w.heap.size, 2, none⟩ = some (.slice K2 n2 c2)) ∧ (wq.cell? (bd.add (j * 2)) = some (.int .i64 (Tr.l ys j)) ∧ wq.cell? (bd.add (j * 2)) = some (.int .i64 (Tr.l ys j)))) ∧ BelA w3 wq) (first | (with_reducible exact SC) | (with_reducible exact S0.out)) (first | ((go_at_call 108; with_reducible refine (CC.out _ (fv_below (by assumption))).mono ?_); rintro e w5 ⟨rfl, hb5⟩; have SC := fv_keep (by assumption) hb5))
                  have HR2 := Lib.hid (H3.out.trans ((fv_below SC).mono H3.out.size))
                  go_wp2
                  go_roundw
                  case rel => exact ⟨j + 1, by omega, by go_num, by rw [HST.out], HR2.out⟩
                  case measure => simp [intOf]; omega
              · have CF := Lib.hid (show Calls Try.prog 107 #[.slice A'' n'' c'', .int .i64 j] wr fun e w' => e = .returned (.int .i64 b) ∧ Drawn wr w' from by rw [← e1]; exact l10Back_any A'' n'' c'' ms j wr (HM.out.to_below HR.out) hn'')
                have HS2 := Lib.hid (show sx + Mp.sum (Mp.gy ys k ms) (j + 1) = s by rw [HST.out, HG.out, e2, Int.add_zero])
                have f1 : decide ((b : Int) < 0) = false := decide_eq_false (by omega)
                clear e1 e2
                as_aux_lemma =>
                  go_wp2_with fail
                  refine CF.out.mono ?_
                  rintro e w3 ⟨rfl, d3⟩
                  have H3 := Lib.hid (HR.out.trans (d3.toBelow.mono HR.out.size))
                  clear d3
                  go_wp2
                  go_roundw
                  case rel => exact ⟨j + 1, by omega, by go_num, by rw [HS2.out], H3.out⟩
                  case measure => simp [intOf]; omega
            · obtain rfl : j = n' := by omega
              have Hg := Lib.hid (show Mp.cost xs ys k ms = sx + Mp.sum (Mp.gy ys k ms) j by rw [Hf.out, Mp.part_all, HSX.out, HL'.out])
              go_wp2
              go_ret
              exact ⟨Kit.ret_int Hg.out.symm, HBC.out.trans (HR.out.mono HBC.out.size)⟩

end Go.Proofs.Ytfchmdhlfhoogaa

/- Contracts (UndI). -/
namespace Go.Proofs.Ytfchmdhlfhoogaa
open Go.RowKit
set_option linter.unusedVariables false

theorem Tr.under_alt (xs : Tr) (i j : Int) : Tr.under xs i j = (Tr.has xs i && decide (i < j) && decide (j < Tr.endOf xs i)) := by
  unfold Tr.under
  rcases h1 : Tr.has xs i with _ | _
  · rfl
  · rcases h2 : Tr.has xs j with _ | _
    · have hi := Tr.has_iff.1 h1
      obtain ⟨k, rfl⟩ := Int.eq_ofNat_of_zero_le hi.2.1
      have he := (Tr.endN_spec xs k (by omega)).2.1
      rw [Tr.endOf_yes h1]
      by_cases h3 : (k : Int) < j
      · have : ¬ j < (Tr.endN xs k : Nat) := by
          intro h4
          rw [Tr.has_iff.2 ⟨hi.1, by omega, by omega⟩] at h2
          cases h2
        simp [this]
      · simp [h3]
    · simp
set_option maxHeartbeats 1600000 in
set_option maxRecDepth 100000 in
theorem implUnder_any (A : Option Addr) (n c : Nat) (xs : Tr) (i j : Int) (w : World) (h : NdIn w w.heap.size A n xs) (hn : n ≤ 1048576) (hnc : n ≤ c) :
    Calls Try.prog 131 #[.slice A n c, .int .i64 i, .int .i64 j] w fun e w' => e = .returned (.bool (Tr.under xs i j)) ∧ Below w.heap.size w w' := by
  have H := Lib.hid h
  clear h
  have HF := Lib.hid (Tr.under_alt xs i j)
  rcases h1 : Tr.has xs i with _ | _
  · have Hf := Lib.hid (show Tr.under xs i j = false by rw [HF.out, h1]; rfl)
    have Hh := Lib.hid h1
    clear h1
    go_enter Try.func131, Try.ntmps131
    go_wp2_with fail
    refine (hasNode_any _ _ _ xs _ _ H.out hn hnc).mono ?_
    rintro e w1 ⟨rfl, hb⟩
    have HB := Lib.hid hb
    clear hb
    rw [Hh.out]
    go_wp2
    go_ret
    exact ⟨Kit.ret_bool Hf.out.symm, HB.out⟩
  · obtain ⟨E, hE⟩ : ∃ E, E = Tr.endOf xs i := ⟨_, rfl⟩
    have HE := Lib.hid hE
    by_cases h3 : i < j
    · have e3 : decide (i < j) = true := by simpa using h3
      have Hf := Lib.hid (show Tr.under xs i j = decide (j < E) by rw [HF.out, h1, e3, hE]; rfl)
      have Hh := Lib.hid h1
      clear h1 hE h3
      go_enter Try.func131, Try.ntmps131
      go_wp2_with fail
      refine (hasNode_any _ _ _ xs _ _ H.out hn hnc).mono ?_
      rintro e w1 ⟨rfl, hb⟩
      have HB := Lib.hid hb
      have H1 := Lib.hid (H.out.to_below hb)
      clear hb
      rw [Hh.out]
      go_wp2_with fail
      refine (implEndOf_any _ _ _ xs _ _ H1.out hn hnc).mono ?_
      rintro e w2 ⟨rfl, hb⟩
      have HB := Lib.hid (HB.out.trans (hb.mono HB.out.size))
      clear hb
      rw [← HE.out]
      go_wp2
      go_ret
      exact ⟨Kit.ret_bool Hf.out.symm, HB.out⟩
    · have e3 : decide (i < j) = false := by simpa using h3
      have Hf := Lib.hid (show Tr.under xs i j = false by rw [HF.out, h1, e3]; rfl)
      have Hh := Lib.hid h1
      clear h1 hE h3
      go_enter Try.func131, Try.ntmps131
      go_wp2_with fail
      refine (hasNode_any _ _ _ xs _ _ H.out hn hnc).mono ?_
      rintro e w1 ⟨rfl, hb⟩
      have HB := Lib.hid hb
      clear hb
      rw [Hh.out]
      go_wp2
      go_ret
      exact ⟨Kit.ret_bool Hf.out.symm, HB.out⟩

end Go.Proofs.Ytfchmdhlfhoogaa

/- Contracts (Px). -/
namespace Go.Proofs.Ytfchmdhlfhoogaa
open Go.RowKit
set_option linter.unusedVariables false

section
variable {wa wx wy : World} {s t : Nat} {v0 v1 v2 v3 : Int}
theorem px_below (h : (wx.cell? ⟨s, 0, none⟩ = some (.int .i64 v0) ∧ wx.cell? ⟨s, 1, none⟩ = some (.int .i64 v1) ∧ wx.cell? ⟨t, 0, none⟩ = some (.int .i64 v2) ∧ wx.cell? ⟨t, 1, none⟩ = some (.int .i64 v3)) ∧ BelA wa wx) : Below wa.heap.size wa wx := h.2
theorem px_keep (h : (wx.cell? ⟨s, 0, none⟩ = some (.int .i64 v0) ∧ wx.cell? ⟨s, 1, none⟩ = some (.int .i64 v1) ∧ wx.cell? ⟨t, 0, none⟩ = some (.int .i64 v2) ∧ wx.cell? ⟨t, 1, none⟩ = some (.int .i64 v3)) ∧ BelA wa wx) (hb : Below wx.heap.size wx wy) : (wy.cell? ⟨s, 0, none⟩ = some (.int .i64 v0) ∧ wy.cell? ⟨s, 1, none⟩ = some (.int .i64 v1) ∧ wy.cell? ⟨t, 0, none⟩ = some (.int .i64 v2) ∧ wy.cell? ⟨t, 1, none⟩ = some (.int .i64 v3)) ∧ BelA wa wy :=
  have c : ∀ {p : Addr} {v : Value}, wx.cell? p = some v → wy.cell? p = some v := fun hc => (hb.cell (World.block_lt_of_cell? _ _ hc)).trans hc
  ⟨⟨c h.1.1, c h.1.2.1, c h.1.2.2.1, c h.1.2.2.2⟩, h.2.trans (hb.mono h.2.size)⟩
theorem p2_below (h : (wx.cell? ⟨s, 0, none⟩ = some (.int .i64 v0) ∧ wx.cell? ⟨s, 1, none⟩ = some (.int .i64 v1)) ∧ BelA wa wx) : Below wa.heap.size wa wx := h.2
theorem p2_keep (h : (wx.cell? ⟨s, 0, none⟩ = some (.int .i64 v0) ∧ wx.cell? ⟨s, 1, none⟩ = some (.int .i64 v1)) ∧ BelA wa wx) (hb : Below wx.heap.size wx wy) : (wy.cell? ⟨s, 0, none⟩ = some (.int .i64 v0) ∧ wy.cell? ⟨s, 1, none⟩ = some (.int .i64 v1)) ∧ BelA wa wy :=
  have c : ∀ {p : Addr} {v : Value}, wx.cell? p = some v → wy.cell? p = some v := fun hc => (hb.cell (World.block_lt_of_cell? _ _ hc)).trans hc
  ⟨⟨c h.1.1, c h.1.2⟩, h.2.trans (hb.mono h.2.size)⟩
/-- two ints in a block -/
def Bx2 (w : World) (b : Nat) (i j : Int) : Prop := w.cell? ⟨b, 0, none⟩ = some (.int .i64 i) ∧ w.cell? ⟨b, 1, none⟩ = some (.int .i64 j)
theorem Bx2.below {w w' : World} {b B : Nat} {i j : Int} (h : Bx2 w b i j) (hb : Below B w w') (hl : b < B) : Bx2 w' b i j := ⟨(hb.cell (p := ⟨b, 0, none⟩) hl).trans h.1, (hb.cell (p := ⟨b, 1, none⟩) hl).trans h.2⟩
theorem Bx2.made (w : World) (i j : Int) (e : TypeId) : Bx2 (w.alloc (.cells #[.int .i64 i, .int .i64 j] e)) w.heap.size i j := ⟨by simp, by simp⟩
theorem Bx2.lt {w : World} {b : Nat} {i j : Int} (h : Bx2 w b i j) : b < w.heap.size := World.block_lt_of_cell? _ _ h.1
theorem below_drawn_b {B : Nat} {a b : World} (h : Below B a b) (n : Nat) : Below B a (b.drewN n) := ⟨h.os, h.tape, h.output, h.size, h.block⟩
end

end Go.Proofs.Ytfchmdhlfhoogaa

/- Contracts (FitI). -/
namespace Go.Proofs.Ytfchmdhlfhoogaa
open Go.RowKit
set_option linter.unusedVariables false

set_option maxHeartbeats 3200000 in
set_option maxRecDepth 100000 in
theorem pairFits_any (A A' A'' : Option Addr) (n n' n'' c c' c'' : Nat) (xs ys ms : Tr) (a b : Int) (w : World) (h : NdIn w w.heap.size A n xs) (h' : NdIn w w.heap.size A' n' ys) (h'' : NdIn w w.heap.size A'' n'' ms) (hn : n ≤ 1048576) (hn' : n' ≤ 1048576) (hn'' : n'' ≤ 1048576) (hc : n ≤ c) (hc' : n' ≤ c') :
    Calls Try.prog 103 #[.slice A n c, .slice A' n' c', .slice A'' n'' c'', .agg #[.int .i64 a, .int .i64 b]] w fun e w' => e = .returned (.bool (Mp.after xs ys ms n'' a b)) ∧ Below w.heap.size w w' := by
  have H := Lib.hid h
  have H' := Lib.hid h'
  have H2 := Lib.hid h''
  clear h h' h''
  have HL := Lib.hid H2.out.1
  obtain ⟨w1, hw1⟩ : ∃ w1, w1 = w.alloc (.cells #[.int .i64 a, .int .i64 b] 117) := ⟨_, rfl⟩
  have B1 := Lib.hid (show Below w.heap.size w w1 by rw [hw1]; exact (Below.refl _ _).alloc (Nat.le_refl _) _)
  have P1 := Lib.hid (show Bx2 w1 w.heap.size a b by rw [hw1]; exact Bx2.made _ _ _ _)
  have W1 := Lib.hid hw1
  clear hw1
  go_enter Try.func103, Try.ntmps103
  go_wp2
  rw [← W1.out]
  go_loopw [13] (fun iv wr => ∃ k : Nat, k ≤ n'' ∧ iv = .int .i64 k ∧ (∀ q, q < k → Mp.at xs ys ms a b q = true) ∧ Below w.heap.size w wr ∧ Bx2 wr w.heap.size a b) (fun i _ => n'' - (intOf i).toNat)
  case atStart => exact ⟨0, by omega, rfl, fun q hq => absurd hq (by omega), B1.out, P1.out⟩
  case round =>
    obtain ⟨k, hk, rfl, hgood, hB, hP⟩ := hrel
    have HG := Lib.hid hgood
    clear hgood
    by_cases hlt : k < n''
    · obtain ⟨ad, rfl, hb, hl, hd⟩ := (H2.out.below hB).at_ (k := k) hlt
      have hk0 : (0 : Int) ≤ (k : Int) := by omega
      have hklt : (k : Int) < (n'' : Int) := by omega
      obtain ⟨wz, hwz⟩ : ∃ wz, wz = wr.alloc (.cells #[.int .i64 (Tr.l ms k), .int .i64 (Tr.d ms k)] 117) := ⟨_, rfl⟩
      have BZ := Lib.hid (show Below wr.heap.size wr wz by rw [hwz]; exact (Below.refl _ _).alloc (Nat.le_refl _) _)
      have HQ := Lib.hid (show Bx2 wz wr.heap.size (Tr.l ms k) (Tr.d ms k) by rw [hwz]; exact Bx2.made _ _ _ _)
      have HP := Lib.hid (hP.below BZ.out hP.lt)
      have HB := Lib.hid (hB.trans (BZ.out.mono hB.size))
      have HZ := Lib.hid hwz
      have HS := Lib.hid (show w.heap.size ≤ wz.heap.size from HB.out.size)
      clear hwz hP hB
      by_cases hla : Tr.l ms k < a
      · have g1 : decide (a ≤ Tr.l ms k) = false := decide_eq_false (by omega)
        by_cases hdb : Tr.d ms k < b
        · have g2 : decide (b ≤ Tr.d ms k) = false := decide_eq_false (by omega)
          obtain ⟨u1, hu1⟩ : ∃ u, u = Tr.under xs (Tr.l ms k) a := ⟨_, rfl⟩
          obtain ⟨u2, hu2⟩ : ∃ u, u = Tr.under ys (Tr.d ms k) b := ⟨_, rfl⟩
          have QU := Lib.hid (fun (wq : World) (hq : Below wz.heap.size wz wq) => show Calls Try.prog 131 #[.slice A n c, .int .i64 (Tr.l ms k), .int .i64 a] wq fun e w' => e = .returned (.bool u1) ∧ Below wq.heap.size wq w' from by rw [hu1]; exact implUnder_any _ _ _ xs _ _ _ (H.out.to_below (HB.out.trans (hq.mono HS.out))) hn hc)
          have QV := Lib.hid (fun (wq : World) (hq : Below wz.heap.size wz wq) => show Calls Try.prog 131 #[.slice A' n' c', .int .i64 (Tr.d ms k), .int .i64 b] wq fun e w' => e = .returned (.bool u2) ∧ Below wq.heap.size wq w' from by rw [hu2]; exact implUnder_any _ _ _ ys _ _ _ (H'.out.to_below (HB.out.trans (hq.mono HS.out))) hn' hc')
          have HU1 := Lib.hid hu1
          have HU2 := Lib.hid hu2
          clear hu1 hu2
          cases u1 with
          | false =>
            cases u2 with
            | false =>
              have HA := Lib.hid (Mp.at_yes hla hdb (by rw [← HU1.out, ← HU2.out]) : Mp.at xs ys ms a b k = true)
              as_aux_lemma =>
                go_wp2_with fail
                rw [← HZ.out]
                have S0 := Lib.hid (show (wz.drew.cell? ⟨wr.heap.size, 0, none⟩ = some (.int .i64 (Tr.l ms k)) ∧ wz.drew.cell? ⟨wr.heap.size, 1, none⟩ = some (.int .i64 (Tr.d ms k)) ∧ wz.drew.cell? ⟨w.heap.size, 0, none⟩ = some (.int .i64 (a)) ∧ wz.drew.cell? ⟨w.heap.size, 1, none⟩ = some (.int .i64 (b))) ∧ BelA wz wz.drew from ⟨⟨HQ.out.1, HQ.out.2, HP.out.1, HP.out.2⟩, (Drawn.refl _).drew.toBelow⟩)
                go_region_held3 (fun wq => (wq.cell? ⟨wr.heap.size, 0, none⟩ = some (.int .i64 (Tr.l ms k)) ∧ wq.cell? ⟨wr.heap.size, 1, none⟩ = some (.int .i64 (Tr.d ms k)) ∧ wq.cell? ⟨w.heap.size, 0, none⟩ = some (.int .i64 (a)) ∧ wq.cell? ⟨w.heap.size, 1, none⟩ = some (.int .i64 (b))) ∧ BelA wz wq) (first | (with_reducible exact SC) | (with_reducible exact S0.out)) (first | ((go_at_call 131; with_reducible refine (QU.out _ (px_below (by assumption))).mono ?_); rintro e w5 ⟨rfl, hb5⟩; have SC := px_keep (by assumption) hb5) | ((go_at_call 131; with_reducible refine (QV.out _ (px_below (by assumption))).mono ?_); rintro e w6 ⟨rfl, hb5⟩; have SC := px_keep (by assumption) hb5))
                have HE := Lib.hid (HB.out.trans ((px_below SC).mono HB.out.size))
                obtain ⟨⟨_, _, p0, p1⟩, _⟩ := id SC
                have HP := Lib.hid (show Bx2 w6 w.heap.size a b from ⟨p0, p1⟩)
                clear p0 p1
                go_wp2
                go_roundw
                case rel => exact ⟨k + 1, by omega, by go_num, fun q hq => by
                  rcases Nat.lt_succ_iff_lt_or_eq.1 hq with h' | rfl
                  · exact HG.out q h'
                  · exact HA.out, HE.out, HP.out⟩
                case measure => simp [intOf]; omega
            | true =>
              have hf := Lib.hid (Mp.after_no hlt (Mp.at_u (by rw [← HU1.out, ← HU2.out]; decide)) : Mp.after xs ys ms n'' a b = false)
              as_aux_lemma =>
                go_wp2_with fail
                rw [← HZ.out]
                have S0 := Lib.hid (show (wz.drew.cell? ⟨wr.heap.size, 0, none⟩ = some (.int .i64 (Tr.l ms k)) ∧ wz.drew.cell? ⟨wr.heap.size, 1, none⟩ = some (.int .i64 (Tr.d ms k)) ∧ wz.drew.cell? ⟨w.heap.size, 0, none⟩ = some (.int .i64 (a)) ∧ wz.drew.cell? ⟨w.heap.size, 1, none⟩ = some (.int .i64 (b))) ∧ BelA wz wz.drew from ⟨⟨HQ.out.1, HQ.out.2, HP.out.1, HP.out.2⟩, (Drawn.refl _).drew.toBelow⟩)
                go_region_held3 (fun wq => (wq.cell? ⟨wr.heap.size, 0, none⟩ = some (.int .i64 (Tr.l ms k)) ∧ wq.cell? ⟨wr.heap.size, 1, none⟩ = some (.int .i64 (Tr.d ms k)) ∧ wq.cell? ⟨w.heap.size, 0, none⟩ = some (.int .i64 (a)) ∧ wq.cell? ⟨w.heap.size, 1, none⟩ = some (.int .i64 (b))) ∧ BelA wz wq) (first | (with_reducible exact SC) | (with_reducible exact S0.out)) (first | ((go_at_call 131; with_reducible refine (QU.out _ (px_below (by assumption))).mono ?_); rintro e w5 ⟨rfl, hb5⟩; have SC := px_keep (by assumption) hb5) | ((go_at_call 131; with_reducible refine (QV.out _ (px_below (by assumption))).mono ?_); rintro e w6 ⟨rfl, hb5⟩; have SC := px_keep (by assumption) hb5))
                have HE := Lib.hid (HB.out.trans ((px_below SC).mono HB.out.size))
                obtain ⟨⟨_, _, p0, p1⟩, _⟩ := id SC
                go_wp2
                go_ret
                exact ⟨Kit.ret_bool hf.out.symm, HE.out⟩
          | true =>
            cases u2 with
            | false =>
              have hf := Lib.hid (Mp.after_no hlt (Mp.at_u (by rw [← HU1.out, ← HU2.out]; decide)) : Mp.after xs ys ms n'' a b = false)
              as_aux_lemma =>
                go_wp2_with fail
                rw [← HZ.out]
                have S0 := Lib.hid (show (wz.drew.cell? ⟨wr.heap.size, 0, none⟩ = some (.int .i64 (Tr.l ms k)) ∧ wz.drew.cell? ⟨wr.heap.size, 1, none⟩ = some (.int .i64 (Tr.d ms k)) ∧ wz.drew.cell? ⟨w.heap.size, 0, none⟩ = some (.int .i64 (a)) ∧ wz.drew.cell? ⟨w.heap.size, 1, none⟩ = some (.int .i64 (b))) ∧ BelA wz wz.drew from ⟨⟨HQ.out.1, HQ.out.2, HP.out.1, HP.out.2⟩, (Drawn.refl _).drew.toBelow⟩)
                go_region_held3 (fun wq => (wq.cell? ⟨wr.heap.size, 0, none⟩ = some (.int .i64 (Tr.l ms k)) ∧ wq.cell? ⟨wr.heap.size, 1, none⟩ = some (.int .i64 (Tr.d ms k)) ∧ wq.cell? ⟨w.heap.size, 0, none⟩ = some (.int .i64 (a)) ∧ wq.cell? ⟨w.heap.size, 1, none⟩ = some (.int .i64 (b))) ∧ BelA wz wq) (first | (with_reducible exact SC) | (with_reducible exact S0.out)) (first | ((go_at_call 131; with_reducible refine (QU.out _ (px_below (by assumption))).mono ?_); rintro e w5 ⟨rfl, hb5⟩; have SC := px_keep (by assumption) hb5) | ((go_at_call 131; with_reducible refine (QV.out _ (px_below (by assumption))).mono ?_); rintro e w6 ⟨rfl, hb5⟩; have SC := px_keep (by assumption) hb5))
                have HE := Lib.hid (HB.out.trans ((px_below SC).mono HB.out.size))
                obtain ⟨⟨_, _, p0, p1⟩, _⟩ := id SC
                go_wp2
                go_ret
                exact ⟨Kit.ret_bool hf.out.symm, HE.out⟩
            | true =>
              have HA := Lib.hid (Mp.at_yes hla hdb (by rw [← HU1.out, ← HU2.out]) : Mp.at xs ys ms a b k = true)
              as_aux_lemma =>
                go_wp2_with fail
                rw [← HZ.out]
                have S0 := Lib.hid (show (wz.drew.cell? ⟨wr.heap.size, 0, none⟩ = some (.int .i64 (Tr.l ms k)) ∧ wz.drew.cell? ⟨wr.heap.size, 1, none⟩ = some (.int .i64 (Tr.d ms k)) ∧ wz.drew.cell? ⟨w.heap.size, 0, none⟩ = some (.int .i64 (a)) ∧ wz.drew.cell? ⟨w.heap.size, 1, none⟩ = some (.int .i64 (b))) ∧ BelA wz wz.drew from ⟨⟨HQ.out.1, HQ.out.2, HP.out.1, HP.out.2⟩, (Drawn.refl _).drew.toBelow⟩)
                go_region_held3 (fun wq => (wq.cell? ⟨wr.heap.size, 0, none⟩ = some (.int .i64 (Tr.l ms k)) ∧ wq.cell? ⟨wr.heap.size, 1, none⟩ = some (.int .i64 (Tr.d ms k)) ∧ wq.cell? ⟨w.heap.size, 0, none⟩ = some (.int .i64 (a)) ∧ wq.cell? ⟨w.heap.size, 1, none⟩ = some (.int .i64 (b))) ∧ BelA wz wq) (first | (with_reducible exact SC) | (with_reducible exact S0.out)) (first | ((go_at_call 131; with_reducible refine (QU.out _ (px_below (by assumption))).mono ?_); rintro e w5 ⟨rfl, hb5⟩; have SC := px_keep (by assumption) hb5) | ((go_at_call 131; with_reducible refine (QV.out _ (px_below (by assumption))).mono ?_); rintro e w6 ⟨rfl, hb5⟩; have SC := px_keep (by assumption) hb5))
                have HE := Lib.hid (HB.out.trans ((px_below SC).mono HB.out.size))
                obtain ⟨⟨_, _, p0, p1⟩, _⟩ := id SC
                have HP := Lib.hid (show Bx2 w6 w.heap.size a b from ⟨p0, p1⟩)
                clear p0 p1
                go_wp2
                go_roundw
                case rel => exact ⟨k + 1, by omega, by go_num, fun q hq => by
                  rcases Nat.lt_succ_iff_lt_or_eq.1 hq with h' | rfl
                  · exact HG.out q h'
                  · exact HA.out, HE.out, HP.out⟩
                case measure => simp [intOf]; omega
        · have g2 : decide (b ≤ Tr.d ms k) = true := decide_eq_true (by omega)
          have hf := Lib.hid (Mp.after_no hlt (Mp.at_d hdb) : Mp.after xs ys ms n'' a b = false)
          as_aux_lemma =>
            go_wp2_with fail
            rw [← HZ.out]
            obtain ⟨q0, q1⟩ := HQ.out
            obtain ⟨p0, p1⟩ := HP.out
            go_quiet (fail)
            go_wp2
            go_ret
            exact ⟨Kit.ret_bool hf.out.symm, below_drawn_b HB.out _⟩
      · have g1 : decide (a ≤ Tr.l ms k) = true := decide_eq_true (by omega)
        have hf := Lib.hid (Mp.after_no hlt (Mp.at_l hla) : Mp.after xs ys ms n'' a b = false)
        as_aux_lemma =>
          go_wp2_with fail
          rw [← HZ.out]
          obtain ⟨q0, q1⟩ := HQ.out
          obtain ⟨p0, p1⟩ := HP.out
          go_quiet (fail)
          go_wp2
          go_ret
          exact ⟨Kit.ret_bool hf.out.symm, below_drawn_b HB.out _⟩
    · obtain rfl : k = n'' := by omega
      have hf := Lib.hid (Mp.after_iff.2 HG.out : Mp.after xs ys ms k a b = true)
      go_wp2
      go_ret
      exact ⟨Kit.ret_bool hf.out.symm, hB⟩

end Go.Proofs.Ytfchmdhlfhoogaa

/- Contracts (MapI). -/
namespace Go.Proofs.Ytfchmdhlfhoogaa
open Go.RowKit
set_option linter.unusedVariables false

set_option maxHeartbeats 3200000 in
set_option maxRecDepth 100000 in
theorem implMapOk_any (A A' A'' : Option Addr) (n n' n'' c c' c'' : Nat) (xs ys ms : Tr) (w : World) (h : NdIn w w.heap.size A n xs) (h' : NdIn w w.heap.size A' n' ys) (h'' : NdIn w w.heap.size A'' n'' ms) (hn : n ≤ 1048576) (hn' : n' ≤ 1048576) (hn'' : n'' ≤ 1048576) (hc : n ≤ c) (hc' : n' ≤ c') (hc'' : n'' ≤ c'') :
    Calls Try.prog 51 #[.slice A n c, .slice A' n' c', .slice A'' n'' c''] w fun e w' => e = .returned (.bool (Mp.ok xs ys ms)) ∧ Below w.heap.size w w' := by
  have H := Lib.hid h
  have H' := Lib.hid h'
  have H2 := Lib.hid h''
  clear h h' h''
  have HL := Lib.hid H2.out.1
  obtain ⟨o1, ho1⟩ : ∃ b, b = Tr.ok xs := ⟨_, rfl⟩
  obtain ⟨o2, ho2⟩ : ∃ b, b = Tr.ok ys := ⟨_, rfl⟩
  have C1 := Lib.hid (show Calls Try.prog 101 #[.slice A n c] w fun e w' => e = .returned (.bool o1) ∧ Below w.heap.size w w' from by rw [ho1]; exact implTreeOk_any _ _ _ xs _ H.out hn hc)
  have C2 := Lib.hid (fun (wq : World) (hq : Below w.heap.size w wq) => show Calls Try.prog 101 #[.slice A' n' c'] wq fun e w' => e = .returned (.bool o2) ∧ Below wq.heap.size wq w' from by rw [ho2]; exact implTreeOk_any _ _ _ ys _ (H'.out.to_below hq) hn' hc')
  have HO1 := Lib.hid ho1
  have HO2 := Lib.hid ho2
  clear ho1 ho2
  cases o1 with
  | false =>
    have hf := Lib.hid (show Mp.ok xs ys ms = false by unfold Mp.ok; rw [← HO1.out]; rfl)
    as_aux_lemma =>
      go_enter Try.func51, Try.ntmps51
      go_wp2_with fail
      refine C1.out.mono ?_
      rintro e w1 ⟨rfl, hb1⟩
      go_wp2
      go_ret
      exact ⟨Kit.ret_bool hf.out.symm, hb1⟩
  | true =>
    cases o2 with
    | false =>
      have hf := Lib.hid (show Mp.ok xs ys ms = false by unfold Mp.ok; rw [← HO2.out, Bool.and_false]; rfl)
      as_aux_lemma =>
        go_enter Try.func51, Try.ntmps51
        go_wp2_with fail
        refine C1.out.mono ?_
        rintro e w1 ⟨rfl, hb1⟩
        have HB := Lib.hid hb1
        clear hb1
        go_wp2_with fail
        refine (C2.out _ HB.out).mono ?_
        rintro e w2 ⟨rfl, hb2⟩
        have HE := Lib.hid (HB.out.trans (hb2.mono HB.out.size))
        clear hb2
        go_wp2
        go_ret
        exact ⟨Kit.ret_bool hf.out.symm, HE.out⟩
    | true =>
      go_enter Try.func51, Try.ntmps51
      go_wp2_with fail
      refine C1.out.mono ?_
      rintro e w1 ⟨rfl, hb1⟩
      have HB := Lib.hid hb1
      clear hb1
      go_wp2_with fail
      refine (C2.out _ HB.out).mono ?_
      rintro e w2 ⟨rfl, hb2⟩
      have HB0 := Lib.hid (HB.out.trans (hb2.mono HB.out.size))
      clear hb2 HB
      go_wp2
      go_loopw [19] (fun iv wr => ∃ k : Nat, k ≤ n'' ∧ iv = .int .i64 k ∧ (∀ q, q < k → Mp.okAt xs ys ms q = true) ∧ Below w.heap.size w wr) (fun i _ => n'' - (intOf i).toNat)
      case atStart => exact ⟨0, by omega, rfl, fun q hq => absurd hq (by omega), HB0.out⟩
      case round =>
        obtain ⟨k, hk, rfl, hgood, hB⟩ := hrel
        have HG := Lib.hid hgood
        clear hgood
        by_cases hlt : k < n''
        · obtain ⟨ad, rfl, hb, hl, hd⟩ := (H2.out.below hB).at_ (k := k) hlt
          have hk0 : (0 : Int) ≤ (k : Int) := by omega
          have hklt : (k : Int) < (n'' : Int) := by omega
          have hkc : (k : Int) ≤ (c'' : Int) := by omega
          have HK := Lib.hid (show k < ms.length by rw [HL.out]; exact hlt)
          obtain ⟨wz, hwz⟩ : ∃ wz, wz = wr.alloc (.cells #[.int .i64 (Tr.l ms k), .int .i64 (Tr.d ms k)] 117) := ⟨_, rfl⟩
          have BZ := Lib.hid (show Below wr.heap.size wr wz by rw [hwz]; exact (Below.refl _ _).alloc (Nat.le_refl _) _)
          have HQ := Lib.hid (show Bx2 wz wr.heap.size (Tr.l ms k) (Tr.d ms k) by rw [hwz]; exact Bx2.made _ _ _ _)
          have HB := Lib.hid (hB.trans (BZ.out.mono hB.size))
          have HZ := Lib.hid hwz
          have HS := Lib.hid (show w.heap.size ≤ wz.heap.size from HB.out.size)
          clear hwz hB
          obtain ⟨b1, hb1⟩ : ∃ b, b = Tr.has xs (Tr.l ms k) := ⟨_, rfl⟩
          obtain ⟨b2, hb2⟩ : ∃ b, b = Tr.has ys (Tr.d ms k) := ⟨_, rfl⟩
          obtain ⟨b3, hb3⟩ : ∃ b, b = Mp.after xs ys ms k (Tr.l ms k) (Tr.d ms k) := ⟨_, rfl⟩
          have QA := Lib.hid (fun (wq : World) (hq : Below wz.heap.size wz wq) => show Calls Try.prog 102 #[.slice A n c, .int .i64 (Tr.l ms k)] wq fun e w' => e = .returned (.bool b1) ∧ Below wq.heap.size wq w' from by rw [hb1]; exact hasNode_any _ _ _ xs _ _ (H.out.to_below (HB.out.trans (hq.mono HS.out))) hn hc)
          have QB := Lib.hid (fun (wq : World) (hq : Below wz.heap.size wz wq) => show Calls Try.prog 102 #[.slice A' n' c', .int .i64 (Tr.d ms k)] wq fun e w' => e = .returned (.bool b2) ∧ Below wq.heap.size wq w' from by rw [hb2]; exact hasNode_any _ _ _ ys _ _ (H'.out.to_below (HB.out.trans (hq.mono HS.out))) hn' hc')
          have QC := Lib.hid (fun (wq : World) (hq : Below wz.heap.size wz wq) => show Calls Try.prog 103 #[.slice A n c, .slice A' n' c', .slice (some ad) k c'', .agg #[.int .i64 (Tr.l ms k), .int .i64 (Tr.d ms k)]] wq fun e w' => e = .returned (.bool b3) ∧ Below wq.heap.size wq w' from by
            rw [hb3, ← Mp.after_take]
            exact pairFits_any _ _ _ _ _ _ _ _ _ xs ys (ms.take k) _ _ _ (H.out.to_below (HB.out.trans (hq.mono HS.out))) (H'.out.to_below (HB.out.trans (hq.mono HS.out))) ((H2.out.to_below (HB.out.trans (hq.mono HS.out))).head hk) hn hn' (by omega) hc hc')
          have HB1 := Lib.hid hb1
          have HB2 := Lib.hid hb2
          have HB3 := Lib.hid hb3
          clear hb1 hb2 hb3
          cases b1 with
          | false =>
            have hf := Lib.hid (Mp.ok_no HK.out (Mp.no_a HB1.out.symm) : Mp.ok xs ys ms = false)
            as_aux_lemma =>
              go_wp2_with fail
              rw [← HZ.out]
              have S0 : (wz.drew.cell? ⟨wr.heap.size, 0, none⟩ = some (.int .i64 (Tr.l ms k)) ∧ wz.drew.cell? ⟨wr.heap.size, 1, none⟩ = some (.int .i64 (Tr.d ms k))) ∧ BelA wz wz.drew := ⟨⟨HQ.out.1, HQ.out.2⟩, (Drawn.refl _).drew.toBelow⟩
              refine wp_region_held_drew (S := (fun wq => (wq.cell? ⟨wr.heap.size, 0, none⟩ = some (.int .i64 (Tr.l ms k)) ∧ wq.cell? ⟨wr.heap.size, 1, none⟩ = some (.int .i64 (Tr.d ms k))) ∧ BelA wz wq)) (by kernel_rfl) S0 (fun hHeld => ?_)
              refine rg_take (i := 0) (v := ?_) rfl (by kernel_rfl) (by kernel_rfl) (by kernel_rfl) (fun _ _ _ h => h) (by rfl) ?_ (by assumption) ?_
              rotate_left
              · intro w hSw
                (try dsimp only at hSw)
                go_simp
                (try with_reducible rfl)
              (try simp only [Act.put, List.setIfInBounds_toArray, List.set_cons_zero, List.set_cons_succ])
              refine rg_take (i := 1) (v := ?_) rfl (by kernel_rfl) (by kernel_rfl) (by kernel_rfl) (fun _ _ _ h => h) (by rfl) ?_ (by assumption) ?_
              rotate_left
              · intro w hSw
                (try dsimp only at hSw)
                go_simp
                (try with_reducible rfl)
              (try simp only [Act.put, List.setIfInBounds_toArray, List.set_cons_zero, List.set_cons_succ])
              refine rg_take (i := 2) (v := ?_) rfl (by kernel_rfl) (by kernel_rfl) (by kernel_rfl) (fun _ _ _ h => h) (by rfl) ?_ (by assumption) ?_
              rotate_left
              · intro w hSw
                (try dsimp only at hSw)
                go_simp
                (try with_reducible rfl)
              (try simp only [Act.put, List.setIfInBounds_toArray, List.set_cons_zero, List.set_cons_succ])
              refine rg_one (i := 3) rfl (by kernel_rfl) (fun K hK => ?_)
              go_simp
              go_at_call 102
              refine (QA.out _ (p2_below (by assumption))).mono ?_
              rintro e w5 ⟨rfl, hb5⟩
              have SC := p2_keep (by assumption) hb5
              go_wp2_with fail
              refine hK.out _ _ SC (fun hHeld => ?_)
              clear hK K
              (try simp only [Act.put, List.setIfInBounds_toArray, List.set_cons_zero, List.set_cons_succ])
              refine rg_take (i := 4) (v := ?_) rfl (by kernel_rfl) (by kernel_rfl) (by kernel_rfl) (fun _ _ _ h => h) (by rfl) ?_ (by assumption) ?_
              rotate_left
              · intro w hSw
                (try dsimp only at hSw)
                go_simp
                (try with_reducible rfl)
              (try simp only [Act.put, List.setIfInBounds_toArray, List.set_cons_zero, List.set_cons_succ])
              refine rg_take (i := 5) (v := ?_) rfl (by kernel_rfl) (by kernel_rfl) (by kernel_rfl) (fun _ _ _ h => h) (by rfl) ?_ (by assumption) ?_
              rotate_left
              · intro w hSw
                (try dsimp only at hSw)
                go_simp
                (try with_reducible rfl)
              (try simp only [Act.put, List.setIfInBounds_toArray, List.set_cons_zero, List.set_cons_succ])
              refine rg_skip (i := 6) rfl (by kernel_rfl) (by kernel_rfl) (by kernel_rfl) (fun _ _ _ h => h) (by rfl) (by assumption) ?_
              (try simp only [Act.put, List.setIfInBounds_toArray, List.set_cons_zero, List.set_cons_succ])
              refine rg_skip (i := 7) rfl (by kernel_rfl) (by kernel_rfl) (by kernel_rfl) (fun _ _ _ h => h) (by rfl) (by assumption) ?_
              (try simp only [Act.put, List.setIfInBounds_toArray, List.set_cons_zero, List.set_cons_succ])
              refine rg_skip (i := 8) rfl (by kernel_rfl) (by kernel_rfl) (by kernel_rfl) (fun _ _ _ h => h) (by rfl) (by assumption) ?_
              (try simp only [Act.put, List.setIfInBounds_toArray, List.set_cons_zero, List.set_cons_succ])
              refine rg_skip (i := 9) rfl (by kernel_rfl) (by kernel_rfl) (by kernel_rfl) (fun _ _ _ h => h) (by rfl) (by assumption) ?_
              (try simp only [Act.put, List.setIfInBounds_toArray, List.set_cons_zero, List.set_cons_succ])
              refine rg_skip (i := 10) rfl (by kernel_rfl) (by kernel_rfl) (by kernel_rfl) (fun _ _ _ h => h) (by rfl) (by assumption) ?_
              (try simp only [Act.put, List.setIfInBounds_toArray, List.set_cons_zero, List.set_cons_succ])
              refine rg_take (i := 11) (v := ?_) rfl (by kernel_rfl) (by kernel_rfl) (by kernel_rfl) (fun _ _ _ h => h) (by rfl) ?_ (by assumption) ?_
              rotate_left
              · intro w hSw
                (try dsimp only at hSw)
                go_simp
                (try with_reducible rfl)
              (try simp only [Act.put, List.setIfInBounds_toArray, List.set_cons_zero, List.set_cons_succ])
              refine rg_take (i := 12) (v := ?_) rfl (by kernel_rfl) (by kernel_rfl) (by kernel_rfl) (fun _ _ _ h => h) (by rfl) ?_ (by assumption) ?_
              rotate_left
              · intro w hSw
                (try dsimp only at hSw)
                go_simp
                (try with_reducible rfl)
              (try simp only [Act.put, List.setIfInBounds_toArray, List.set_cons_zero, List.set_cons_succ])
              refine rg_skip (i := 13) rfl (by kernel_rfl) (by kernel_rfl) (by kernel_rfl) (fun _ _ _ h => h) (by rfl) (by assumption) ?_
              (try simp only [Act.put, List.setIfInBounds_toArray, List.set_cons_zero, List.set_cons_succ])
              refine rg_skip (i := 14) rfl (by kernel_rfl) (by kernel_rfl) (by kernel_rfl) (fun _ _ _ h => h) (by rfl) (by assumption) ?_
              (try simp only [Act.put, List.setIfInBounds_toArray, List.set_cons_zero, List.set_cons_succ])
              refine rg_skip (i := 15) rfl (by kernel_rfl) (by kernel_rfl) (by kernel_rfl) (fun _ _ _ h => h) (by rfl) (by assumption) ?_
              (try simp only [Act.put, List.setIfInBounds_toArray, List.set_cons_zero, List.set_cons_succ])
              refine rg_skip (i := 16) rfl (by kernel_rfl) (by kernel_rfl) (by kernel_rfl) (fun _ _ _ h => h) (by rfl) (by assumption) ?_
              (try simp only [Act.put, List.setIfInBounds_toArray, List.set_cons_zero, List.set_cons_succ])
              refine rg_skip (i := 17) rfl (by kernel_rfl) (by kernel_rfl) (by kernel_rfl) (fun _ _ _ h => h) (by rfl) (by assumption) ?_
              (try simp only [Act.put, List.setIfInBounds_toArray, List.set_cons_zero, List.set_cons_succ])
              refine rg_skip (i := 18) rfl (by kernel_rfl) (by kernel_rfl) (by kernel_rfl) (fun _ _ _ h => h) (by rfl) (by assumption) ?_
              (try simp only [Act.put, List.setIfInBounds_toArray, List.set_cons_zero, List.set_cons_succ])
              refine rg_skip (i := 19) rfl (by kernel_rfl) (by kernel_rfl) (by kernel_rfl) (fun _ _ _ h => h) (by rfl) (by assumption) ?_
              (try simp only [Act.put, List.setIfInBounds_toArray, List.set_cons_zero, List.set_cons_succ])
              refine rg_skip (i := 20) rfl (by kernel_rfl) (by kernel_rfl) (by kernel_rfl) (fun _ _ _ h => h) (by rfl) (by assumption) ?_
              (try simp only [Act.put, List.setIfInBounds_toArray, List.set_cons_zero, List.set_cons_succ])
              refine rg_take (i := 21) (v := ?_) rfl (by kernel_rfl) (by kernel_rfl) (by kernel_rfl) (fun _ _ _ h => h) (by rfl) ?_ (by assumption) ?_
              rotate_left
              · intro w hSw
                (try dsimp only at hSw)
                go_simp
                (try with_reducible rfl)
              (try simp only [Act.put, List.setIfInBounds_toArray, List.set_cons_zero, List.set_cons_succ])
              refine wpAnyH_done (by kernel_rfl) ?_ _
              have HE := Lib.hid (HB.out.trans ((p2_below SC).mono HB.out.size))
              go_wp2
              go_ret
              exact ⟨Kit.ret_bool hf.out.symm, HE.out⟩
          | true =>
            cases b2 with
            | false =>
              have hf := Lib.hid (Mp.ok_no HK.out (Mp.no_b HB2.out.symm) : Mp.ok xs ys ms = false)
              as_aux_lemma =>
                go_wp2_with fail
                rw [← HZ.out]
                have S0 : (wz.drew.cell? ⟨wr.heap.size, 0, none⟩ = some (.int .i64 (Tr.l ms k)) ∧ wz.drew.cell? ⟨wr.heap.size, 1, none⟩ = some (.int .i64 (Tr.d ms k))) ∧ BelA wz wz.drew := ⟨⟨HQ.out.1, HQ.out.2⟩, (Drawn.refl _).drew.toBelow⟩
                refine wp_region_held_drew (S := (fun wq => (wq.cell? ⟨wr.heap.size, 0, none⟩ = some (.int .i64 (Tr.l ms k)) ∧ wq.cell? ⟨wr.heap.size, 1, none⟩ = some (.int .i64 (Tr.d ms k))) ∧ BelA wz wq)) (by kernel_rfl) S0 (fun hHeld => ?_)
                refine rg_take (i := 0) (v := ?_) rfl (by kernel_rfl) (by kernel_rfl) (by kernel_rfl) (fun _ _ _ h => h) (by rfl) ?_ (by assumption) ?_
                rotate_left
                · intro w hSw
                  (try dsimp only at hSw)
                  go_simp
                  (try with_reducible rfl)
                (try simp only [Act.put, List.setIfInBounds_toArray, List.set_cons_zero, List.set_cons_succ])
                refine rg_take (i := 1) (v := ?_) rfl (by kernel_rfl) (by kernel_rfl) (by kernel_rfl) (fun _ _ _ h => h) (by rfl) ?_ (by assumption) ?_
                rotate_left
                · intro w hSw
                  (try dsimp only at hSw)
                  go_simp
                  (try with_reducible rfl)
                (try simp only [Act.put, List.setIfInBounds_toArray, List.set_cons_zero, List.set_cons_succ])
                refine rg_take (i := 2) (v := ?_) rfl (by kernel_rfl) (by kernel_rfl) (by kernel_rfl) (fun _ _ _ h => h) (by rfl) ?_ (by assumption) ?_
                rotate_left
                · intro w hSw
                  (try dsimp only at hSw)
                  go_simp
                  (try with_reducible rfl)
                (try simp only [Act.put, List.setIfInBounds_toArray, List.set_cons_zero, List.set_cons_succ])
                refine rg_one (i := 3) rfl (by kernel_rfl) (fun K hK => ?_)
                go_simp
                go_at_call 102
                refine (QA.out _ (p2_below (by assumption))).mono ?_
                rintro e w5 ⟨rfl, hb5⟩
                have SC := p2_keep (by assumption) hb5
                go_wp2_with fail
                refine hK.out _ _ SC (fun hHeld => ?_)
                clear hK K
                (try simp only [Act.put, List.setIfInBounds_toArray, List.set_cons_zero, List.set_cons_succ])
                refine rg_take (i := 4) (v := ?_) rfl (by kernel_rfl) (by kernel_rfl) (by kernel_rfl) (fun _ _ _ h => h) (by rfl) ?_ (by assumption) ?_
                rotate_left
                · intro w hSw
                  (try dsimp only at hSw)
                  go_simp
                  (try with_reducible rfl)
                (try simp only [Act.put, List.setIfInBounds_toArray, List.set_cons_zero, List.set_cons_succ])
                refine rg_take (i := 5) (v := ?_) rfl (by kernel_rfl) (by kernel_rfl) (by kernel_rfl) (fun _ _ _ h => h) (by rfl) ?_ (by assumption) ?_
                rotate_left
                · intro w hSw
                  (try dsimp only at hSw)
                  go_simp
                  (try with_reducible rfl)
                (try simp only [Act.put, List.setIfInBounds_toArray, List.set_cons_zero, List.set_cons_succ])
                refine rg_take (i := 6) (v := ?_) rfl (by kernel_rfl) (by kernel_rfl) (by kernel_rfl) (fun _ _ _ h => h) (by rfl) ?_ (by assumption) ?_
                rotate_left
                · intro w hSw
                  (try dsimp only at hSw)
                  go_simp
                  (try with_reducible rfl)
                (try simp only [Act.put, List.setIfInBounds_toArray, List.set_cons_zero, List.set_cons_succ])
                refine rg_take (i := 7) (v := ?_) rfl (by kernel_rfl) (by kernel_rfl) (by kernel_rfl) (fun _ _ _ h => h) (by rfl) ?_ (by assumption) ?_
                rotate_left
                · intro w hSw
                  (try dsimp only at hSw)
                  go_simp
                  (try with_reducible rfl)
                (try simp only [Act.put, List.setIfInBounds_toArray, List.set_cons_zero, List.set_cons_succ])
                refine rg_take (i := 8) (v := ?_) rfl (by kernel_rfl) (by kernel_rfl) (by kernel_rfl) (fun _ _ _ h => h) (by rfl) ?_ (by assumption) ?_
                rotate_left
                · intro w hSw
                  (try dsimp only at hSw)
                  go_simp
                  (try with_reducible rfl)
                (try simp only [Act.put, List.setIfInBounds_toArray, List.set_cons_zero, List.set_cons_succ])
                refine rg_one (i := 9) rfl (by kernel_rfl) (fun K hK => ?_)
                go_simp
                go_at_call 102
                refine (QB.out _ (p2_below (by assumption))).mono ?_
                rintro e w6 ⟨rfl, hb5⟩
                have SC := p2_keep (by assumption) hb5
                go_wp2_with fail
                refine hK.out _ _ SC (fun hHeld => ?_)
                clear hK K
                (try simp only [Act.put, List.setIfInBounds_toArray, List.set_cons_zero, List.set_cons_succ])
                refine rg_take (i := 10) (v := ?_) rfl (by kernel_rfl) (by kernel_rfl) (by kernel_rfl) (fun _ _ _ h => h) (by rfl) ?_ (by assumption) ?_
                rotate_left
                · intro w hSw
                  (try dsimp only at hSw)
                  go_simp
                  (try with_reducible rfl)
                (try simp only [Act.put, List.setIfInBounds_toArray, List.set_cons_zero, List.set_cons_succ])
                refine rg_take (i := 11) (v := ?_) rfl (by kernel_rfl) (by kernel_rfl) (by kernel_rfl) (fun _ _ _ h => h) (by rfl) ?_ (by assumption) ?_
                rotate_left
                · intro w hSw
                  (try dsimp only at hSw)
                  go_simp
                  (try with_reducible rfl)
                (try simp only [Act.put, List.setIfInBounds_toArray, List.set_cons_zero, List.set_cons_succ])
                refine rg_take (i := 12) (v := ?_) rfl (by kernel_rfl) (by kernel_rfl) (by kernel_rfl) (fun _ _ _ h => h) (by rfl) ?_ (by assumption) ?_
                rotate_left
                · intro w hSw
                  (try dsimp only at hSw)
                  go_simp
                  (try with_reducible rfl)
                (try simp only [Act.put, List.setIfInBounds_toArray, List.set_cons_zero, List.set_cons_succ])
                refine rg_skip (i := 13) rfl (by kernel_rfl) (by kernel_rfl) (by kernel_rfl) (fun _ _ _ h => h) (by rfl) (by assumption) ?_
                (try simp only [Act.put, List.setIfInBounds_toArray, List.set_cons_zero, List.set_cons_succ])
                refine rg_skip (i := 14) rfl (by kernel_rfl) (by kernel_rfl) (by kernel_rfl) (fun _ _ _ h => h) (by rfl) (by assumption) ?_
                (try simp only [Act.put, List.setIfInBounds_toArray, List.set_cons_zero, List.set_cons_succ])
                refine rg_skip (i := 15) rfl (by kernel_rfl) (by kernel_rfl) (by kernel_rfl) (fun _ _ _ h => h) (by rfl) (by assumption) ?_
                (try simp only [Act.put, List.setIfInBounds_toArray, List.set_cons_zero, List.set_cons_succ])
                refine rg_skip (i := 16) rfl (by kernel_rfl) (by kernel_rfl) (by kernel_rfl) (fun _ _ _ h => h) (by rfl) (by assumption) ?_
                (try simp only [Act.put, List.setIfInBounds_toArray, List.set_cons_zero, List.set_cons_succ])
                refine rg_skip (i := 17) rfl (by kernel_rfl) (by kernel_rfl) (by kernel_rfl) (fun _ _ _ h => h) (by rfl) (by assumption) ?_
                (try simp only [Act.put, List.setIfInBounds_toArray, List.set_cons_zero, List.set_cons_succ])
                refine rg_skip (i := 18) rfl (by kernel_rfl) (by kernel_rfl) (by kernel_rfl) (fun _ _ _ h => h) (by rfl) (by assumption) ?_
                (try simp only [Act.put, List.setIfInBounds_toArray, List.set_cons_zero, List.set_cons_succ])
                refine rg_skip (i := 19) rfl (by kernel_rfl) (by kernel_rfl) (by kernel_rfl) (fun _ _ _ h => h) (by rfl) (by assumption) ?_
                (try simp only [Act.put, List.setIfInBounds_toArray, List.set_cons_zero, List.set_cons_succ])
                refine rg_skip (i := 20) rfl (by kernel_rfl) (by kernel_rfl) (by kernel_rfl) (fun _ _ _ h => h) (by rfl) (by assumption) ?_
                (try simp only [Act.put, List.setIfInBounds_toArray, List.set_cons_zero, List.set_cons_succ])
                refine rg_take (i := 21) (v := ?_) rfl (by kernel_rfl) (by kernel_rfl) (by kernel_rfl) (fun _ _ _ h => h) (by rfl) ?_ (by assumption) ?_
                rotate_left
                · intro w hSw
                  (try dsimp only at hSw)
                  go_simp
                  (try with_reducible rfl)
                (try simp only [Act.put, List.setIfInBounds_toArray, List.set_cons_zero, List.set_cons_succ])
                refine wpAnyH_done (by kernel_rfl) ?_ _
                have HE := Lib.hid (HB.out.trans ((p2_below SC).mono HB.out.size))
                go_wp2
                go_ret
                exact ⟨Kit.ret_bool hf.out.symm, HE.out⟩
            | true =>
              cases b3 with
              | false =>
                have hf := Lib.hid (Mp.ok_no HK.out (by unfold Mp.okAt; rw [← HB3.out, Bool.and_false]) : Mp.ok xs ys ms = false)
                as_aux_lemma =>
                  go_wp2_with fail
                  rw [← HZ.out]
                  have S0 := Lib.hid (show (wz.drew.cell? ⟨wr.heap.size, 0, none⟩ = some (.int .i64 (Tr.l ms k)) ∧ wz.drew.cell? ⟨wr.heap.size, 1, none⟩ = some (.int .i64 (Tr.d ms k))) ∧ BelA wz wz.drew from ⟨⟨HQ.out.1, HQ.out.2⟩, (Drawn.refl _).drew.toBelow⟩)
                  go_region_held3 (fun wq => (wq.cell? ⟨wr.heap.size, 0, none⟩ = some (.int .i64 (Tr.l ms k)) ∧ wq.cell? ⟨wr.heap.size, 1, none⟩ = some (.int .i64 (Tr.d ms k))) ∧ BelA wz wq) (first | (with_reducible exact SC) | (with_reducible exact S0.out)) (first | ((go_at_call 102; with_reducible refine (QA.out _ (p2_below (by assumption))).mono ?_); rintro e w5 ⟨rfl, hb5⟩; have SC := p2_keep (by assumption) hb5) | ((go_at_call 102; with_reducible refine (QB.out _ (p2_below (by assumption))).mono ?_); rintro e w5 ⟨rfl, hb5⟩; have SC := p2_keep (by assumption) hb5) | ((go_at_call 103; with_reducible refine (QC.out _ (p2_below (by assumption))).mono ?_); rintro e w5 ⟨rfl, hb5⟩; have SC := p2_keep (by assumption) hb5))
                  have HE := Lib.hid (HB.out.trans ((p2_below SC).mono HB.out.size))
                  go_wp2
                  go_ret
                  exact ⟨Kit.ret_bool hf.out.symm, HE.out⟩
              | true =>
                have HA := Lib.hid (by unfold Mp.okAt; rw [← HB1.out, ← HB2.out, ← HB3.out]; rfl : Mp.okAt xs ys ms k = true)
                as_aux_lemma =>
                  go_wp2_with fail
                  rw [← HZ.out]
                  have S0 := Lib.hid (show (wz.drew.cell? ⟨wr.heap.size, 0, none⟩ = some (.int .i64 (Tr.l ms k)) ∧ wz.drew.cell? ⟨wr.heap.size, 1, none⟩ = some (.int .i64 (Tr.d ms k))) ∧ BelA wz wz.drew from ⟨⟨HQ.out.1, HQ.out.2⟩, (Drawn.refl _).drew.toBelow⟩)
                  go_region_held3 (fun wq => (wq.cell? ⟨wr.heap.size, 0, none⟩ = some (.int .i64 (Tr.l ms k)) ∧ wq.cell? ⟨wr.heap.size, 1, none⟩ = some (.int .i64 (Tr.d ms k))) ∧ BelA wz wq) (first | (with_reducible exact SC) | (with_reducible exact S0.out)) (first | ((go_at_call 102; with_reducible refine (QA.out _ (p2_below (by assumption))).mono ?_); rintro e w5 ⟨rfl, hb5⟩; have SC := p2_keep (by assumption) hb5) | ((go_at_call 102; with_reducible refine (QB.out _ (p2_below (by assumption))).mono ?_); rintro e w5 ⟨rfl, hb5⟩; have SC := p2_keep (by assumption) hb5) | ((go_at_call 103; with_reducible refine (QC.out _ (p2_below (by assumption))).mono ?_); rintro e w5 ⟨rfl, hb5⟩; have SC := p2_keep (by assumption) hb5))
                  have HE := Lib.hid (HB.out.trans ((p2_below SC).mono HB.out.size))
                  go_wp2
                  go_roundw
                  case rel => exact ⟨k + 1, by omega, by go_num, fun q hq => by
                    rcases Nat.lt_succ_iff_lt_or_eq.1 hq with h' | rfl
                    · exact HG.out q h'
                    · exact HA.out, HE.out⟩
                  case measure => simp [intOf]; omega
        · obtain rfl : k = n'' := by omega
          have hf := Lib.hid ((Mp.ok_yes (fun q hq => HG.out q (by rw [← HL.out]; exact hq))).trans (by rw [← HO1.out, ← HO2.out]; rfl) : Mp.ok xs ys ms = true)
          go_wp2
          go_ret
          exact ⟨Kit.ret_bool hf.out.symm, hB⟩

end Go.Proofs.Ytfchmdhlfhoogaa

/- Contracts (McI). -/
namespace Go.Proofs.Ytfchmdhlfhoogaa
open Go.RowKit
set_option linter.unusedVariables false

set_option maxHeartbeats 3200000 in
set_option maxRecDepth 100000 in
theorem implMapCost_any (A A' A'' K0 K1 K2 : Option Addr) (n n' n'' n0 n1 n2 c c' c'' c0 c1 c2 : Nat) (xs ys ms : Tr) (k : Co) (w : World) (ha : NdIn w w.heap.size A n xs) (hb : NdIn w w.heap.size A' n' ys) (hk : CoIn w w.heap.size K0 K1 K2 n0 n1 n2 k) (hm : NdIn w w.heap.size A'' n'' ms) (hn : n ≤ 1048576) (hn' : n' ≤ 1048576) (hn'' : n'' ≤ 1048576) (h0 : n0 ≤ 1048576) (h1 : n1 ≤ 1048576) (h2 : n2 ≤ 1048576) (hc : n ≤ c) (hc' : n' ≤ c') (hc'' : n'' ≤ c'') :
    Calls Try.prog 56 #[.slice A n c, .slice A' n' c', .agg #[.slice K0 n0 c0, .slice K1 n1 c1, .slice K2 n2 c2], .slice A'' n'' c''] w fun e w' => e = .returned (.int .i64 (Mp.cost xs ys k ms)) ∧ Below w.heap.size w w' := by
  obtain ⟨wc, hwc⟩ : ∃ wc, wc = w.alloc (.cells #[.slice K0 n0 c0, .slice K1 n1 c1, .slice K2 n2 c2] 27) := ⟨_, rfl⟩
  have hbc : Below w.heap.size w wc := by rw [hwc]; exact (Below.refl _ _).alloc (Nat.le_refl _) _
  have HQ := Lib.hid (show Box3 wc w.heap.size (.slice K0 n0 c0) (.slice K1 n1 c1) (.slice K2 n2 c2) by rw [hwc]; exact Box3.made _ _ _ _ _)
  have HWC := Lib.hid hwc
  have HA := Lib.hid (ha.to_below hbc)
  have HB := Lib.hid (hb.to_below hbc)
  have HM := Lib.hid (hm.to_below hbc)
  have HK := Lib.hid (hk.to_below hbc)
  have HBC := Lib.hid hbc
  have HN := Lib.hid ha.1
  have HN' := Lib.hid hb.1
  have HN2 := Lib.hid hm.1
  have HBX := Lib.hid (fun (wq : World) (hq : Below wc.heap.size wc wq) => (⟨(hq.cell (World.block_lt_of_cell? _ _ HQ.out.1)).trans HQ.out.1, (hq.cell (World.block_lt_of_cell? _ _ HQ.out.2.1)).trans HQ.out.2.1, (hq.cell (World.block_lt_of_cell? _ _ HQ.out.2.2)).trans HQ.out.2.2⟩ : wq.cell? ⟨w.heap.size, 0, none⟩ = some (.slice K0 n0 c0) ∧ wq.cell? ⟨w.heap.size, 1, none⟩ = some (.slice K1 n1 c1) ∧ wq.cell? ⟨w.heap.size, 2, none⟩ = some (.slice K2 n2 c2)))
  obtain ⟨b1, hb1⟩ : ∃ b, b = Mp.ok xs ys ms := ⟨_, rfl⟩
  obtain ⟨b2, hb2⟩ : ∃ b, b = Co.ok k := ⟨_, rfl⟩
  have CM := Lib.hid (show Calls Try.prog 51 #[.slice A n c, .slice A' n' c', .slice A'' n'' c''] wc fun e w' => e = .returned (.bool b1) ∧ Below wc.heap.size wc w' from by
    rw [hb1]
    refine (implMapOk_any A A' A'' n n' n'' c c' c'' xs ys ms wc HA.out HB.out HM.out hn hn' hn'' hc hc' hc'').mono ?_
    rintro e wq ⟨he, hh⟩
    exact ⟨he, hh⟩)
  have CO := Lib.hid (fun (wq : World) (hq : Below wc.heap.size wc wq) => show Calls Try.prog 89 #[.agg #[.slice K0 n0 c0, .slice K1 n1 c1, .slice K2 n2 c2]] wq fun e w' => e = .returned (.bool b2) ∧ Below wq.heap.size wq w' from by rw [hb2]; exact implCostOk_any K0 K1 K2 n0 n1 n2 c0 c1 c2 k wq (HK.out.to_below hq) h0 h1 h2)
  have CD := Lib.hid (fun (l : Int) (wq : World) (hq : Below wc.heap.size wc wq) => ((implDelCost_any K0 K1 K2 n0 n1 n2 c0 c1 c2 k l wq (HK.out.to_below hq) h0 h1 h2) : Calls Try.prog 34 #[.agg #[.slice K0 n0 c0, .slice K1 n1 c1, .slice K2 n2 c2], .int .i64 l] wq fun e w' => e = .returned (.int .i64 (Co.del k l)) ∧ Below wq.heap.size wq w'))
  have CI := Lib.hid (fun (l : Int) (wq : World) (hq : Below wc.heap.size wc wq) => ((implInsCost_any K0 K1 K2 n0 n1 n2 c0 c1 c2 k l wq (HK.out.to_below hq) h0 h1 h2) : Calls Try.prog 35 #[.agg #[.slice K0 n0 c0, .slice K1 n1 c1, .slice K2 n2 c2], .int .i64 l] wq fun e w' => e = .returned (.int .i64 (Co.ins k l)) ∧ Below wq.heap.size wq w'))
  have CR := Lib.hid (fun (l m : Int) (wq : World) (hq : Below wc.heap.size wc wq) => ((implRelCost_any K0 K1 K2 n0 n1 n2 c0 c1 c2 k l m wq (HK.out.to_below hq) h0 h1 h2) : Calls Try.prog 67 #[.agg #[.slice K0 n0 c0, .slice K1 n1 c1, .slice K2 n2 c2], .int .i64 l, .int .i64 m] wq fun e w' => e = .returned (.int .i64 (Co.rel k l m)) ∧ Below wq.heap.size wq w'))
  have HB1 := Lib.hid hb1
  have HB2 := Lib.hid hb2
  clear ha hb hk hm hwc hbc hb1 hb2
  cases b1 with
  | false =>
    have Hf := Lib.hid (show Mp.cost xs ys k ms = -1 by unfold Mp.cost; rw [← HB1.out]; rfl)
    as_aux_lemma =>
      go_enter Try.func56, Try.ntmps56
      go_wp2_with fail
      rw [← HWC.out]
      (try go_wp2_with fail)
      refine CM.out.mono ?_
      rintro e w1 ⟨rfl, b1⟩
      have B1 := Lib.hid b1
      clear b1
      go_wp2
      go_ret
      exact ⟨Kit.ret_int Hf.out.symm, HBC.out.trans (B1.out.mono HBC.out.size)⟩
  | true =>
    cases b2 with
    | false =>
      have Hf := Lib.hid (show Mp.cost xs ys k ms = -1 by unfold Mp.cost; rw [← HB1.out, ← HB2.out]; rfl)
      as_aux_lemma =>
        go_enter Try.func56, Try.ntmps56
        go_wp2_with fail
        rw [← HWC.out]
        (try go_wp2_with fail)
        refine CM.out.mono ?_
        rintro e w1 ⟨rfl, b1⟩
        have B1 := Lib.hid b1
        clear b1
        obtain ⟨q0, q1, q2⟩ := HBX.out w1 B1.out
        go_wp2_with fail
        clear q0 q1 q2
        refine (CO.out w1 B1.out).mono ?_
        rintro e w2 ⟨rfl, b2⟩
        have B2 := Lib.hid (B1.out.trans (b2.mono B1.out.size))
        clear b2
        go_wp2
        go_ret
        exact ⟨Kit.ret_int Hf.out.symm, HBC.out.trans (B2.out.mono HBC.out.size)⟩
    | true =>
      obtain ⟨ox, oy, oall⟩ := Mp.ok_all HB1.out.symm
      have x24 := Tr.len24 ox
      have y24 := Tr.len24 oy
      have HOA := Lib.hid oall
      have hln := HN.out
      have hln' := HN'.out
      obtain ⟨ad, rfl, _⟩ := HA.out.at_ (k := 0) (by omega)
      obtain ⟨bd, rfl, _⟩ := HB.out.at_ (k := 0) (by omega)
      have Hf := Lib.hid (show Mp.cost xs ys k ms = Mp.part xs ys k ms ms.length by unfold Mp.cost; rw [← HB1.out, ← HB2.out]; rfl)
      have HL := Lib.hid hln
      have HL' := Lib.hid hln'
      have X := Lib.hid x24
      have Y := Lib.hid y24
      clear ox oy oall x24 y24 hln hln'
      go_enter Try.func56, Try.ntmps56
      go_wp2_with fail
      rw [← HWC.out]
      (try go_wp2_with fail)
      refine CM.out.mono ?_
      rintro e w1 ⟨rfl, b1⟩
      have B1 := Lib.hid b1
      clear b1
      obtain ⟨q0, q1, q2⟩ := HBX.out w1 B1.out
      go_wp2_with fail
      clear q0 q1 q2
      refine (CO.out w1 B1.out).mono ?_
      rintro e w2 ⟨rfl, b2⟩
      have B2 := Lib.hid (B1.out.trans (b2.mono B1.out.size))
      clear b2
      go_wp2
      have HRX := Lib.hid True.intro
      have sb1 := Lib.hid (fun (i : Nat) (hi : i ≤ n) => (show 0 ≤ Mp.sum (fun i => Co.del k (Tr.l xs i)) i ∧ Mp.sum (fun i => Co.del k (Tr.l xs i)) i ≤ 24000 by have h := Mp.sum_bound (f := (fun i => Co.del k (Tr.l xs i))) (fun i => (Co.nonneg' k).1 _) i; have := X.out; have := HL.out; omega))
      go_loopw [9, 30] (fun sv iv wr => ∃ i : Nat, i ≤ n ∧ iv = .int .i64 i ∧ sv = .int .i64 (Mp.sum (fun i => Co.del k (Tr.l xs i)) (i)) ∧ Below wc.heap.size wc wr) (fun _ iv _ => n - (intOf iv).toNat)
      case atStart => exact ⟨0, by omega, rfl, by simp [Mp.sum], B2.out⟩
      case round =>
        clear HRX
        obtain ⟨i, hi, rfl, rfl, hR⟩ := hrel
        have HR := Lib.hid hR
        clear hR
        by_cases hlt : i < n
        · have bd1 := sb1.out i hi
          have bd2 := (Co.nonneg' k).1 (Tr.l xs i)
          have hst : Mp.sum (fun i => Co.del k (Tr.l xs i)) (i + 1) = Mp.sum (fun i => Co.del k (Tr.l xs i)) (i) + Co.del k (Tr.l xs i) := rfl
          obtain ⟨s, hs⟩ : ∃ s, s = Mp.sum (fun i => Co.del k (Tr.l xs i)) (i) := ⟨_, rfl⟩
          obtain ⟨g, hg⟩ : ∃ g, g = Co.del k (Tr.l xs i) := ⟨_, rfl⟩
          rw [← hs] at bd1 hst
          rw [← hg] at bd2 hst
          have a1 : IntKind.i64.wrap (s + g) = s + g := Kit.w64 (by omega) (by omega)
          have k0 : (0 : Int) ≤ (i : Int) := by omega
          have k1 : (i : Int) < (n : Int) := by omega
          have HST := Lib.hid hst
          have CC := Lib.hid (fun (wq : World) (hq : Below wc.heap.size wc wq) => show Calls Try.prog 34 #[.agg #[.slice K0 n0 c0, .slice K1 n1 c1, .slice K2 n2 c2], .int .i64 (Tr.l xs i)] wq fun e w' => e = .returned (.int .i64 g) ∧ Below wq.heap.size wq w' from by rw [hg]; exact CD.out _ wq hq)
          obtain ⟨lc, ld⟩ := (HA.out.to_below HR.out).here (k := i) hlt
          obtain ⟨wz, hwz⟩ : ∃ wz, wz = wr.alloc (.cells #[.int .i64 (Tr.l xs i), .int .i64 (Tr.d xs i)] 42) := ⟨_, rfl⟩
          have BZ := Lib.hid (show Below wr.heap.size wr wz by rw [hwz]; exact (Below.refl _ _).alloc (Nat.le_refl _) _)
          obtain ⟨r0, r1⟩ := (show Bx2 wz wr.heap.size (Tr.l xs i) (Tr.d xs i) by rw [hwz]; exact Bx2.made _ _ _ _)
          have H3 := Lib.hid (HR.out.trans (BZ.out.mono HR.out.size))
          obtain ⟨bx0, bx1, bx2⟩ := HBX.out wz H3.out
          have HZ := Lib.hid hwz
          rw [hwz] at bx0 bx1 bx2 r0 r1
          rw [← hs]
          clear hst hs bd1 bd2 hg hwz
          as_aux_lemma =>
            go_wp2_with fail
            rw [← HZ.out]
            clear lc ld
            refine (CC.out wz H3.out).mono ?_
            rintro e w5 ⟨rfl, hb5⟩
            have HR2 := Lib.hid (H3.out.trans (hb5.mono H3.out.size))
            clear hb5 r0 r1 bx0 bx1 bx2
            go_wp2
            go_roundw
            case rel => exact ⟨i + 1, by omega, by go_num, by rw [HST.out], HR2.out⟩
            case measure => simp [intOf]; omega
        · obtain rfl : n = i := by omega
          obtain ⟨sx, hsx⟩ : ∃ sx, sx = Mp.sum (fun i => Co.del k (Tr.l xs i)) n := ⟨_, rfl⟩
          have bx := Mp.sum_bound (f := (fun i => Co.del k (Tr.l xs i))) (fun i => (Co.nonneg' k).1 _) n
          rw [← hsx] at bx ⊢
          have HX := X.out
          have HLX := HL.out
          have BX := Lib.hid (show 0 ≤ sx ∧ sx ≤ 24000 by omega)
          have HSX := Lib.hid (show Mp.sum (fun i => Co.del k (Tr.l xs i)) xs.length = sx by rw [HL.out]; exact hsx.symm)
          have HRX := Lib.hid True.intro
          clear hsx bx hlt hi HX HLX
          have sb2 := Lib.hid (fun (j : Nat) (hj : j ≤ n') => (show 0 ≤ sx + Mp.sum (fun j => Co.ins k (Tr.l ys j)) j ∧ sx + Mp.sum (fun j => Co.ins k (Tr.l ys j)) j ≤ 48000 by have h := Mp.sum_bound (f := (fun j => Co.ins k (Tr.l ys j))) (fun i => (Co.nonneg' k).2.1 _) j; have := Y.out; have := HL'.out; have := BX.out; omega))
          go_wp2
          go_loopw [9, 43] (fun sv iv wr => ∃ j : Nat, j ≤ n' ∧ iv = .int .i64 j ∧ sv = .int .i64 (sx + Mp.sum (fun j => Co.ins k (Tr.l ys j)) (j)) ∧ Below wc.heap.size wc wr) (fun _ iv _ => n' - (intOf iv).toNat)
          case atStart => exact ⟨0, by omega, rfl, by simp [Mp.sum], HR.out⟩
          case round =>
            clear HRX
            obtain ⟨j, hi, rfl, rfl, hR⟩ := hrel
            have HR := Lib.hid hR
            clear hR
            by_cases hlt : j < n'
            · have bd1 := sb2.out j hi
              have bd2 := (Co.nonneg' k).2.1 (Tr.l ys j)
              have hst : sx + Mp.sum (fun j => Co.ins k (Tr.l ys j)) (j + 1) = sx + Mp.sum (fun j => Co.ins k (Tr.l ys j)) (j) + Co.ins k (Tr.l ys j) := (Int.add_assoc _ _ _).symm
              obtain ⟨s, hs⟩ : ∃ s, s = sx + Mp.sum (fun j => Co.ins k (Tr.l ys j)) (j) := ⟨_, rfl⟩
              obtain ⟨g, hg⟩ : ∃ g, g = Co.ins k (Tr.l ys j) := ⟨_, rfl⟩
              rw [← hs] at bd1 hst
              rw [← hg] at bd2 hst
              have a1 : IntKind.i64.wrap (s + g) = s + g := Kit.w64 (by omega) (by omega)
              have k0 : (0 : Int) ≤ (j : Int) := by omega
              have k1 : (j : Int) < (n' : Int) := by omega
              have HST := Lib.hid hst
              have CC := Lib.hid (fun (wq : World) (hq : Below wc.heap.size wc wq) => show Calls Try.prog 35 #[.agg #[.slice K0 n0 c0, .slice K1 n1 c1, .slice K2 n2 c2], .int .i64 (Tr.l ys j)] wq fun e w' => e = .returned (.int .i64 g) ∧ Below wq.heap.size wq w' from by rw [hg]; exact CI.out _ wq hq)
              obtain ⟨lc, ld⟩ := (HB.out.to_below HR.out).here (k := j) hlt
              obtain ⟨wz, hwz⟩ : ∃ wz, wz = wr.alloc (.cells #[.int .i64 (Tr.l ys j), .int .i64 (Tr.d ys j)] 42) := ⟨_, rfl⟩
              have BZ := Lib.hid (show Below wr.heap.size wr wz by rw [hwz]; exact (Below.refl _ _).alloc (Nat.le_refl _) _)
              obtain ⟨r0, r1⟩ := (show Bx2 wz wr.heap.size (Tr.l ys j) (Tr.d ys j) by rw [hwz]; exact Bx2.made _ _ _ _)
              have H3 := Lib.hid (HR.out.trans (BZ.out.mono HR.out.size))
              obtain ⟨bx0, bx1, bx2⟩ := HBX.out wz H3.out
              have HZ := Lib.hid hwz
              rw [hwz] at bx0 bx1 bx2 r0 r1
              rw [← hs]
              clear hst hs bd1 bd2 hg hwz
              as_aux_lemma =>
                go_wp2_with fail
                rw [← HZ.out]
                clear lc ld
                refine (CC.out wz H3.out).mono ?_
                rintro e w5 ⟨rfl, hb5⟩
                have HR2 := Lib.hid (H3.out.trans (hb5.mono H3.out.size))
                clear hb5 r0 r1 bx0 bx1 bx2
                go_wp2
                go_roundw
                case rel => exact ⟨j + 1, by omega, by go_num, by rw [HST.out], HR2.out⟩
                case measure => simp [intOf]; omega
            · obtain rfl : n' = j := by omega
              obtain ⟨s0, hs0⟩ : ∃ s0, s0 = sx + Mp.sum (fun j => Co.ins k (Tr.l ys j)) n' := ⟨_, rfl⟩
              have HP0 := Lib.hid (show Mp.part xs ys k ms 0 = s0 by rw [Mp.part_zero, HSX.out, HL'.out, hs0])
              rw [← hs0]
              clear hs0 hlt hi
              go_wp2
              go_loopw [9, 56] (fun sv iv wr => ∃ m : Nat, m ≤ n'' ∧ iv = .int .i64 m ∧ sv = .int .i64 (Mp.part xs ys k ms m) ∧ Below wc.heap.size wc wr) (fun _ iv _ => n'' - (intOf iv).toNat)
              case atStart => exact ⟨0, by omega, rfl, by rw [HP0.out], HR.out⟩
              case round =>
                clear HR
                obtain ⟨m, hm, rfl, rfl, hR⟩ := hrel
                have HR := Lib.hid hR
                clear hR
                by_cases hlt : m < n''
                · have hml : m < ms.length := by rw [HN2.out]; exact hlt
                  have hok := HOA.out m hml
                  obtain ⟨a, b, ha, hb, ea, eb⟩ := Mp.pair_at hok
                  have hst := Mp.part_succ (k := k) hml hok ea eb
                  have bd1 := Mp.part_bound (k := k) (ms := ms) X.out.2 Y.out.2 m
                  have bd2 := Mp.part_bound (k := k) (ms := ms) X.out.2 Y.out.2 (m + 1)
                  have bd3 := (Co.nonneg' k).2.2 (Tr.l xs a) (Tr.l ys b)
                  have bd4 := (Co.nonneg' k).1 (Tr.l xs a)
                  have bd5 := (Co.nonneg' k).2.1 (Tr.l ys b)
                  obtain ⟨s, hs⟩ : ∃ s, s = Mp.part xs ys k ms m := ⟨_, rfl⟩
                  obtain ⟨r, hr⟩ : ∃ r, r = Co.rel k (Tr.l xs a) (Tr.l ys b) := ⟨_, rfl⟩
                  obtain ⟨dl, hdl⟩ : ∃ dl, dl = Co.del k (Tr.l xs a) := ⟨_, rfl⟩
                  obtain ⟨il, hil⟩ : ∃ il, il = Co.ins k (Tr.l ys b) := ⟨_, rfl⟩
                  rw [← hs] at bd1 hst
                  rw [← hr] at bd3 hst
                  rw [← hdl] at bd4 hst
                  rw [← hil] at bd5 hst
                  have a1 : IntKind.i64.wrap (r - dl) = r - dl := Kit.w64 (by omega) (by omega)
                  have a2 : IntKind.i64.wrap (r - dl - il) = r - dl - il := Kit.w64 (by omega) (by omega)
                  have a3 : IntKind.i64.wrap (s + (r - dl - il)) = s + (r - dl - il) := Kit.w64 (by omega) (by omega)
                  have HST := Lib.hid hst
                  have C1 := Lib.hid (fun (wq : World) (hq : Below wc.heap.size wc wq) => show Calls Try.prog 67 #[.agg #[.slice K0 n0 c0, .slice K1 n1 c1, .slice K2 n2 c2], .int .i64 (Tr.l xs a), .int .i64 (Tr.l ys b)] wq fun e w' => e = .returned (.int .i64 r) ∧ Below wq.heap.size wq w' from by rw [hr]; exact CR.out _ _ wq hq)
                  have C2 := Lib.hid (fun (wq : World) (hq : Below wc.heap.size wc wq) => show Calls Try.prog 34 #[.agg #[.slice K0 n0 c0, .slice K1 n1 c1, .slice K2 n2 c2], .int .i64 (Tr.l xs a)] wq fun e w' => e = .returned (.int .i64 dl) ∧ Below wq.heap.size wq w' from by rw [hdl]; exact CD.out _ wq hq)
                  have C3 := Lib.hid (fun (wq : World) (hq : Below wc.heap.size wc wq) => show Calls Try.prog 35 #[.agg #[.slice K0 n0 c0, .slice K1 n1 c1, .slice K2 n2 c2], .int .i64 (Tr.l ys b)] wq fun e w' => e = .returned (.int .i64 il) ∧ Below wq.heap.size wq w' from by rw [hil]; exact CI.out _ wq hq)
                  obtain ⟨md, rfl, _, lc, ld⟩ := (HM.out.to_below HR.out).at_ (k := m) hlt
                  rw [ea] at lc
                  rw [eb] at ld
                  obtain ⟨wz, hwz⟩ : ∃ wz, wz = wr.alloc (.cells #[.int .i64 (a : Int), .int .i64 (b : Int)] 117) := ⟨_, rfl⟩
                  have BZ := Lib.hid (show Below wr.heap.size wr wz by rw [hwz]; exact (Below.refl _ _).alloc (Nat.le_refl _) _)
                  obtain ⟨r0, r1⟩ := (show Bx2 wz wr.heap.size (a : Int) (b : Int) by rw [hwz]; exact Bx2.made _ _ _ _)
                  have H3 := Lib.hid (HR.out.trans (BZ.out.mono HR.out.size))
                  have han : a < n := by rw [← HL.out]; exact ha
                  have hbn : b < n' := by rw [← HL'.out]; exact hb
                  have la := ((HA.out.to_below H3.out).here (k := a) han).1
                  have lb := ((HB.out.to_below H3.out).here (k := b) hbn).1
                  have HZ := Lib.hid hwz
                  have k0 : (0 : Int) ≤ (m : Int) := by omega
                  have k1 : (m : Int) < (n'' : Int) := by omega
                  have k2 : (0 : Int) ≤ (a : Int) := by omega
                  have k3 : (a : Int) < (n : Int) := by omega
                  have k4 : (0 : Int) ≤ (b : Int) := by omega
                  have k5 : (b : Int) < (n' : Int) := by omega
                  rw [← hs]
                  clear hst hs bd1 bd2 bd3 bd4 bd5 hr hdl hil hwz ea eb hok hml
                  as_aux_lemma =>
                    go_wp2_with fail
                    rw [← HZ.out]
                    clear lc ld
                    (try go_wp2_with fail)
                    go_quiet (fail)
                    go_wp2_with fail
                    obtain ⟨wy, hwy⟩ : ∃ wy, wy = wz.drewN nq := ⟨_, rfl⟩
                    rw [← hwy]
                    have H4 := Lib.hid (show Below wc.heap.size wc wy by rw [hwy]; exact H3.out.trans ((((Drawn.refl _).drewN nq).toBelow).mono H3.out.size))
                    clear hwy
                    have C1 := Lib.hid (fun (wq : World) (hq : Below wy.heap.size wy wq) => C1.out wq (H4.out.trans (hq.mono H4.out.size)))
                    have C2 := Lib.hid (fun (wq : World) (hq : Below wy.heap.size wy wq) => C2.out wq (H4.out.trans (hq.mono H4.out.size)))
                    have C3 := Lib.hid (fun (wq : World) (hq : Below wy.heap.size wy wq) => C3.out wq (H4.out.trans (hq.mono H4.out.size)))
                    obtain ⟨bx0, bx1, bx2⟩ := HBX.out wy H4.out
                    have S0 := Lib.hid (show ((wy.drew.cell? ⟨w.heap.size, 0, none⟩ = some (.slice K0 n0 c0) ∧ wy.drew.cell? ⟨w.heap.size, 1, none⟩ = some (.slice K1 n1 c1) ∧ wy.drew.cell? ⟨w.heap.size, 2, none⟩ = some (.slice K2 n2 c2)) ∧ (wy.drew.cell? ⟨w.heap.size, 0, none⟩ = some (.slice K0 n0 c0) ∧ wy.drew.cell? ⟨w.heap.size, 0, none⟩ = some (.slice K0 n0 c0))) ∧ BelA wy wy.drew from ⟨⟨⟨bx0, bx1, bx2⟩, bx0, bx0⟩, (Drawn.refl _).drew.toBelow⟩)
                    clear bx0 bx1 bx2 la lb r0 r1
                    (try go_wp2_with fail)
                    go_region_held3 (fun wq => ((wq.cell? ⟨w.heap.size, 0, none⟩ = some (.slice K0 n0 c0) ∧ wq.cell? ⟨w.heap.size, 1, none⟩ = some (.slice K1 n1 c1) ∧ wq.cell? ⟨w.heap.size, 2, none⟩ = some (.slice K2 n2 c2)) ∧ (wq.cell? ⟨w.heap.size, 0, none⟩ = some (.slice K0 n0 c0) ∧ wq.cell? ⟨w.heap.size, 0, none⟩ = some (.slice K0 n0 c0))) ∧ BelA wy wq) (first | (with_reducible exact SC) | (with_reducible exact S0.out)) (first | ((go_at_call 67; with_reducible refine (C1.out _ (fv_below (by assumption))).mono ?_); rintro e w5 ⟨rfl, hb5⟩; have SC := fv_keep (by assumption) hb5) | ((go_at_call 34; with_reducible refine (C2.out _ (fv_below (by assumption))).mono ?_); rintro e w5 ⟨rfl, hb5⟩; have SC := fv_keep (by assumption) hb5) | ((go_at_call 35; with_reducible refine (C3.out _ (fv_below (by assumption))).mono ?_); rintro e w5 ⟨rfl, hb5⟩; have SC := fv_keep (by assumption) hb5))
                    have HR2 := Lib.hid (H4.out.trans ((fv_below SC).mono H4.out.size))
                    go_wp2
                    go_roundw
                    case rel => exact ⟨m + 1, by omega, by go_num, by rw [HST.out], HR2.out⟩
                    case measure => simp [intOf]; omega
                · obtain rfl : n'' = m := by omega
                  have Hg := Lib.hid (show Mp.cost xs ys k ms = Mp.part xs ys k ms n'' by rw [Hf.out, HN2.out])
                  go_wp2
                  go_ret
                  exact ⟨Kit.ret_int Hg.out.symm, HBC.out.trans (HR.out.mono HBC.out.size)⟩

end Go.Proofs.Ytfchmdhlfhoogaa

/- Contracts of the harness over []Pair: size, copy. -/
namespace Go.Proofs.Ytfchmdhlfhoogaa
open Go.RowKit
set_option linter.unusedVariables false

set_option maxHeartbeats 400000 in
theorem szPairS_any (A : Option Addr) (n c : Nat) (left : Int) (w : World) (hn : n ≤ 9223372036854775807) (h0 : 0 ≤ left) (h1 : left ≤ 1048576) :
    Calls Try.prog 48 #[.slice A n c, .int .i64 left] w fun e w' => e = .returned (.int .i64 (if (n : Int) ≤ left then left - n else -1)) ∧ w = w' := by
  by_cases h : (n : Int) ≤ left
  · rw [if_pos h]
    go_enter Try.func48, Try.ntmps48
    go_wp2
    go_ret
    exact ⟨rfl, rfl⟩
  · rw [if_neg h]
    go_enter Try.func48, Try.ntmps48
    go_wp2
    go_ret
    exact ⟨rfl, rfl⟩

set_option maxHeartbeats 400000 in
theorem toPair_any (a b : Int) (w : World) :
    Calls Try.prog 100 #[.agg #[.int .i64 a, .int .i64 b]] w fun e w' => e = .returned (.agg #[.int .i64 a, .int .i64 b]) ∧ Below w.heap.size w w' := by
  go_enter Try.func100, Try.ntmps100
  go_wp2
  exact bodyPost_ret (v := .agg #[.int .i64 a, .int .i64 b]) (by simp [results, Try.results100, go_sem]) rfl ⟨rfl, by repeat' (first | exact Below.refl _ _ | refine Below.alloc ?_ (by simp [Nat.le_add_right, Nat.add_assoc]) _ | refine Below.setCell ?_ (by simp [Nat.add_assoc]) _)⟩

theorem info_pair : (Try.prog.info? 117).map (fun i => (i.zero, i.size, i.bytes)) = some (some (.agg #[.int .i64 0, .int .i64 0]), 2, 16) := by kernel_rfl

set_option maxHeartbeats 800000 in
set_option maxRecDepth 100000 in
theorem toPairS_any (A : Option Addr) (n c : Nat) (xs : Tr) (w : World) (h : NdIn w w.heap.size A n xs) (hn : n ≤ 1048576) :
    Calls Try.prog 50 #[.slice A n c] w fun e w' => e = .returned (.slice (some ⟨w.heap.size, 0, none⟩) n n) ∧
      w'.ownsRow w.heap.size 117 2 (.slice (some ⟨w.heap.size, 0, none⟩) n n) n (Tr.cells xs) ∧ Below w.heap.size w w' := by
  have H := Lib.hid h
  clear h
  have HL := Lib.hid H.out.1
  obtain ⟨i0, hi, hz0, hz1, hz2⟩ := info_parts info_pair
  go_enter Try.func50, Try.ntmps50
  go_wp2_with (at_make; refine wpList_make_full _ rfl _ _ 58 rfl w.heap.size 117 i0 (.agg #[.int .i64 0, .int .i64 0]) 2 Try.underlying58 hi hz0 hz1 _ _ _ _ n rfl rfl rfl rfl (by rw [hz2]; omega) (by unfold maxLen; omega) (Nat.le_refl _) ?_; intro w1 hown1 hgrow1)
  have hb1 : Below w.heap.size w w1 := (Below.refl _ w).grown hgrow1 (Nat.le_refl _) (fun _ h => by cases h)
  rw [made_nodes, ← HL.out, ← Tr.part_none, HL.out] at hown1
  go_loopw [4] (fun iv wr => ∃ k : Nat, k ≤ n ∧ iv = .int .i64 k ∧ wr.ownsRow w.heap.size 117 2 (.slice (some ⟨w.heap.size, 0, none⟩) n n) n (Tr.cells (Tr.part xs k)) ∧ Below w.heap.size w wr) (fun i _ => n - (intOf i).toNat)
  case atStart => exact ⟨0, by omega, rfl, hown1, hb1⟩
  case round =>
    obtain ⟨k, hk, rfl, hown, hB⟩ := hrel
    have hsz := hB.size
    by_cases hlt : k < n
    · obtain ⟨ad, rfl, hb, hl, hd⟩ := (H.out.below hB).at_ hlt
      have Ho := Lib.hid hown
      have HB := Lib.hid hB
      clear hown hB
      go_wp2_with (go_at_call 100; refine (toPair_any _ _ _).mono ?_; rintro e w' ⟨rfl, hb'⟩; have hb2 := Lib.hid hb'; clear hb'; have Ho2 := Lib.hid (own_below Ho.out hb2.out); have c0 := own_even Ho2.out (k := k) (by rw [Tr.part_length _ _ (by rw [HL.out]; omega), HL.out]; omega); have c1 := own_odd Ho2.out (k := k) (by rw [Tr.part_length _ _ (by rw [HL.out]; omega), HL.out]; omega); have f0 := Ho2.out.frozenAt (k * 2); have f1 := Ho2.out.frozenAt (k * 2 + 1))
      go_roundw
      case rel =>
        refine ⟨k + 1, by omega, by go_num, ?_, ?_⟩
        · have := own_set Ho2.out k (Tr.l xs k) (Tr.d xs k)
          rw [Tr.part_set xs k (by rw [HL.out]; exact hlt)] at this
          exact this
        · exact ((HB.out.trans (hb2.out.mono hsz)).setCell (Nat.le_refl _) _).setCell (Nat.le_refl _) _
      case measure => simp [intOf]; omega
    · obtain rfl : k = n := by omega
      rw [← HL.out, Tr.part_full, HL.out] at hown
      go_wp2
      go_ret
      exact ⟨rfl, hown, hB⟩

end Go.Proofs.Ytfchmdhlfhoogaa

/- Contracts of the harness over []Pair: equality. -/
namespace Go.Proofs.Ytfchmdhlfhoogaa
open Go.RowKit
set_option linter.unusedVariables false

set_option maxHeartbeats 400000 in
theorem eqPair_any (a b c d : Int) (w : World) :
    Calls Try.prog 104 #[.agg #[.int .i64 a, .int .i64 b], .agg #[.int .i64 c, .int .i64 d]] w fun e w' => e = .returned (.bool (decide (a = c ∧ b = d))) ∧ Below w.heap.size w w' := by
  have hB : ∀ o1 o2, Below w.heap.size w ((w.alloc o1).alloc o2) := fun o1 o2 => ((Below.refl _ _).alloc (Nat.le_refl _) _).alloc (by simp) _
  by_cases h1 : a = c
  · by_cases h2 : b = d
    · subst h1 h2
      go_enter Try.func104, Try.ntmps104
      go_wp2
      go_ret
      exact ⟨Kit.ret_bool (by simp), hB _ _⟩
    · have h2' : (b != d) = true := by simpa using h2
      subst h1
      go_enter Try.func104, Try.ntmps104
      go_wp2
      go_ret
      exact ⟨Kit.ret_bool (by simp [h2]), hB _ _⟩
  · have h1' : (a != c) = true := by simpa using h1
    go_enter Try.func104, Try.ntmps104
    go_wp2
    go_ret
    exact ⟨Kit.ret_bool (by simp [h1]), hB _ _⟩


set_option maxHeartbeats 800000 in
set_option maxRecDepth 100000 in
theorem eqPairS_any (A A' : Option Addr) (n c n' c' : Nat) (xs ys : Tr) (w : World) (h : NdIn w w.heap.size A n xs) (h' : NdIn w w.heap.size A' n' ys) (hn : n ≤ 1099511627776) (hn' : n' ≤ 1099511627776) :
    Calls Try.prog 52 #[.slice A n c, .slice A' n' c'] w fun e w' => e = .returned (.bool (decide (xs = ys))) ∧ Below w.heap.size w w' := by
  have H := Lib.hid h
  have H' := Lib.hid h'
  clear h h'
  have HL := Lib.hid H.out.1
  have HL' := Lib.hid H'.out.1
  by_cases hnn : n = n'
  · go_enter Try.func52, Try.ntmps52
    have Hnn := Lib.hid hnn
    have hne : ((n : Int) != (n' : Int)) = false := by simp [hnn]
    clear hnn
    go_wp2
    go_loopw [5] (fun iv wr => ∃ k : Nat, k ≤ n ∧ iv = .int .i64 k ∧ Tr.same xs ys k ∧ Below w.heap.size w wr) (fun i _ => n - (intOf i).toNat)
    case atStart => exact ⟨0, by omega, rfl, fun j hj => absurd hj (by omega), Below.refl _ _⟩
    case round =>
      obtain ⟨k, hk, rfl, hsm, hB⟩ := hrel
      have hsz := hB.size
      have Hsm := Lib.hid hsm
      have HB := Lib.hid hB
      clear hsm hB
      by_cases hlt : k < n
      · obtain ⟨ad, rfl, hb, hl, hd⟩ := (H.out.below HB.out).at_ hlt
        obtain ⟨ad', rfl, hb', hl', hd'⟩ := (H'.out.below HB.out).at_ (k := k) (by rw [← Hnn.out]; exact hlt)
        have hlt' : (k : Int) < (n' : Int) := by rw [← Hnn.out]; omega
        have hk0 : (0 : Int) ≤ (k : Int) := by omega
        have HB2 := Lib.hid HB.out.drew
        have hsz2 := HB.out.drew.size
        by_cases hq : Tr.l xs k = Tr.l ys k ∧ Tr.d xs k = Tr.d ys k
        · have hq' : decide (Tr.l xs k = Tr.l ys k ∧ Tr.d xs k = Tr.d ys k) = true := by simpa using hq
          have Hq := Lib.hid hq
          clear hq
          go_wp2
          go_still_tail 8, (by kernel_rfl)
          change wpList _ _ _ _ _ wr.drew
          generalize wr.drew = w2 at HB2 hsz2 ⊢
          go_wp2_with (go_at_call 104; refine (eqPair_any _ _ _ _ _).mono ?_; rintro e w3 ⟨rfl, hb3⟩)
          go_roundw
          case rel => exact ⟨k + 1, by omega, by go_num, fun j hj => by
            rcases Nat.lt_succ_iff_lt_or_eq.1 hj with h' | rfl
            · exact Hsm.out j h'
            · exact Hq.out, HB2.out.trans (hb3.mono hsz2)⟩
          case measure => simp [intOf]; omega
        · have hq' : decide (Tr.l xs k = Tr.l ys k ∧ Tr.d xs k = Tr.d ys k) = false := by simpa using hq
          have Hq := Lib.hid hq
          clear hq
          go_wp2
          go_still_tail 8, (by kernel_rfl)
          change wpList _ _ _ _ _ wr.drew
          generalize wr.drew = w2 at HB2 hsz2 ⊢
          go_wp2_with (go_at_call 104; refine (eqPair_any _ _ _ _ _).mono ?_; rintro e w3 ⟨rfl, hb3⟩)
          go_ret
          refine ⟨Kit.ret_bool ?_, HB2.out.trans (hb3.mono hsz2)⟩
          symm
          rw [decide_eq_false_iff_not]
          rintro rfl
          exact Hq.out ⟨rfl, rfl⟩
      · obtain rfl : k = n := by omega
        go_wp2
        go_ret
        refine ⟨Kit.ret_bool ?_, HB.out⟩
        symm
        rw [decide_eq_true_eq]
        exact Tr.ext (by rw [HL.out, HL'.out]; exact Hnn.out) (fun j hj => Hsm.out j (by rw [← HL.out]; exact hj))
  · have hne : ((n : Int) != (n' : Int)) = true := by simp; omega
    have Hq := Lib.hid (show decide (xs = ys) = false by
      rw [decide_eq_false_iff_not]; rintro rfl; exact hnn (HL.out.symm.trans HL'.out))
    clear hnn
    go_enter Try.func52, Try.ntmps52
    go_wp2
    go_ret
    exact ⟨Kit.ret_bool Hq.out.symm, Below.refl _ _⟩

end Go.Proofs.Ytfchmdhlfhoogaa

/- Contracts (ExMapCost). -/
namespace Go.Proofs.Ytfchmdhlfhoogaa
open Go.RowKit
set_option linter.unusedVariables false

set_option maxHeartbeats 3200000 in
set_option maxRecDepth 100000 in
theorem exactMapCost_walk (A0 : Option Addr) (n0 c0 : Nat) (x0 : Tr) (A1 : Option Addr) (n1 c1 : Nat) (x1 : Tr) (A20 A21 A22 : Option Addr) (n20 n21 n22 c20 c21 c22 : Nat) (x2 : Co) (A3 : Option Addr) (n3 c3 : Nat) (x3 : Tr) (le0 : n0 ≤ maxLen) (_wf0 : Tr.wf x0) (le1 : n1 ≤ maxLen) (_wf1 : Tr.wf x1) (le20 : n20 ≤ maxLen) (le21 : n21 ≤ maxLen) (le22 : n22 ≤ maxLen) (le3 : n3 ≤ maxLen) (_wf3 : Tr.wf x3) (w : World) (h0 : NdIn w w.heap.size A0 n0 x0) (h1 : NdIn w w.heap.size A1 n1 x1) (h2 : CoIn w w.heap.size A20 A21 A22 n20 n21 n22 x2) (h3 : NdIn w w.heap.size A3 n3 x3) :
    Calls Try.prog 12 #[.slice A0 n0 c0, .slice A1 n1 c1, .agg #[.slice A20 n20 c20, .slice A21 n21 c21, .slice A22 n22 c22], .slice A3 n3 c3] w fun e w' => e = .returned (.bool true) ∧ Below w.heap.size w w' := by
  have Ia0 := Lib.hid h0
  have Hn0 := Lib.hid h0.1
  clear h0
  unfold maxLen at le0
  have Ia1 := Lib.hid h1
  have Hn1 := Lib.hid h1.1
  clear h1
  unfold maxLen at le1
  have Ia3 := Lib.hid h3
  have Hn3 := Lib.hid h3.1
  clear h3
  unfold maxLen at le3
  have Ia2 := Lib.hid h2
  have Hn2 := Lib.hid h2.len
  clear h2
  unfold maxLen at le20 le21 le22
  obtain ⟨wa, hwa⟩ : ∃ wa, wa = (w.alloc (.cells #[.slice A20 n20 c20, .slice A21 n21 c21, .slice A22 n22 c22] 46)) := ⟨_, rfl⟩
  have LW := Lib.hid (show Below w.heap.size w wa by rw [hwa]; exact (Below.refl _ _).alloc (Nat.le_refl _) _)
  have HX2 := Lib.hid (show Box3 wa (w.heap.size) (.slice A20 n20 c20) (.slice A21 n21 c21) (.slice A22 n22 c22) by rw [hwa]; exact Box3.made _ _ _ _ _)
  have GL2 := Lib.hid (show w.heap.size < wa.heap.size by rw [hwa]; simp)
  have LB2 := Lib.hid (Below.refl wa.heap.size wa)
  have HWA := Lib.hid hwa
  clear hwa
  by_cases hs0 : (n0) ≤ 1048576
  rotate_left
  · go_enter Try.func12, Try.ntmps12
    go_wp2_with fail
    rw [← HWA.out]
    refine (szNodeS_any _ _ _ _ _ le0 (by omega) (by omega)).mono ?_
    rintro e w' ⟨rfl, rfl⟩
    rw [if_neg (by omega)]
    go_wp2
    go_ret
    exact ⟨rfl, LW.out⟩
  by_cases hs1 : (n0) + (n1) ≤ 1048576
  rotate_left
  · go_enter Try.func12, Try.ntmps12
    go_wp2_with fail
    rw [← HWA.out]
    refine (szNodeS_any _ _ _ _ _ le0 (by omega) (by omega)).mono ?_
    rintro e w' ⟨rfl, rfl⟩
    rw [if_pos (by omega)]
    go_wp2_with fail
    refine (szNodeS_any _ _ _ _ _ le1 (by omega) (by omega)).mono ?_
    rintro e w' ⟨rfl, rfl⟩
    rw [if_neg (by omega)]
    go_wp2
    go_ret
    exact ⟨rfl, LW.out⟩
  by_cases hs2 : (n0) + (n1) + (n20 + n21 + n22) ≤ 1048576
  rotate_left
  · go_enter Try.func12, Try.ntmps12
    go_wp2_with fail
    rw [← HWA.out]
    refine (szNodeS_any _ _ _ _ _ le0 (by omega) (by omega)).mono ?_
    rintro e w' ⟨rfl, rfl⟩
    rw [if_pos (by omega)]
    go_wp2_with fail
    refine (szNodeS_any _ _ _ _ _ le1 (by omega) (by omega)).mono ?_
    rintro e w' ⟨rfl, rfl⟩
    rw [if_pos (by omega)]
    obtain ⟨g20, g21, g22⟩ := HX2.out.below LB2.out GL2.out
    go_wp2_with fail
    clear g20 g21 g22
    refine (szCost_any _ _ _ _ _ _ _ _ _ _ _ (by omega) (by omega) (by omega) (by omega) (by omega)).mono ?_
    rintro e w1 ⟨rfl, hb⟩
    have LB2 := Lib.hid (LB2.out.trans (hb.mono LB2.out.size))
    have LW := Lib.hid (LW.out.trans (hb.mono LW.out.size))
    clear hb
    rw [if_neg (by omega)]
    go_wp2
    go_ret
    exact ⟨rfl, LW.out⟩
  by_cases hs3 : (n0) + (n1) + (n20 + n21 + n22) + (n3) ≤ 1048576
  rotate_left
  · go_enter Try.func12, Try.ntmps12
    go_wp2_with fail
    rw [← HWA.out]
    refine (szNodeS_any _ _ _ _ _ le0 (by omega) (by omega)).mono ?_
    rintro e w' ⟨rfl, rfl⟩
    rw [if_pos (by omega)]
    go_wp2_with fail
    refine (szNodeS_any _ _ _ _ _ le1 (by omega) (by omega)).mono ?_
    rintro e w' ⟨rfl, rfl⟩
    rw [if_pos (by omega)]
    obtain ⟨g20, g21, g22⟩ := HX2.out.below LB2.out GL2.out
    go_wp2_with fail
    clear g20 g21 g22
    refine (szCost_any _ _ _ _ _ _ _ _ _ _ _ (by omega) (by omega) (by omega) (by omega) (by omega)).mono ?_
    rintro e w1 ⟨rfl, hb⟩
    have LB2 := Lib.hid (LB2.out.trans (hb.mono LB2.out.size))
    have LW := Lib.hid (LW.out.trans (hb.mono LW.out.size))
    clear hb
    rw [if_pos (by omega)]
    go_wp2_with fail
    refine (szPairS_any _ _ _ _ _ le3 (by omega) (by omega)).mono ?_
    rintro e w' ⟨rfl, rfl⟩
    rw [if_neg (by omega)]
    go_wp2
    go_ret
    exact ⟨rfl, LW.out⟩
  have hn0 : n0 ≤ 1048576 := by omega
  have hn1 : n1 ≤ 1048576 := by omega
  have hn3 : n3 ≤ 1048576 := by omega
  have hn20 : n20 ≤ 1048576 := by omega
  have hn21 : n21 ≤ 1048576 := by omega
  have hn22 : n22 ≤ 1048576 := by omega
  have La0 := Lib.hid LW.out
  have La1 := Lib.hid LW.out
  have La2 := Lib.hid LW.out
  have La3 := Lib.hid LW.out
  go_enter Try.func12, Try.ntmps12
  go_wp2_with fail
  rw [← HWA.out]
  refine (szNodeS_any _ _ _ _ _ le0 (by omega) (by omega)).mono ?_
  rintro e w' ⟨rfl, rfl⟩
  rw [if_pos (by omega)]
  go_wp2_with fail
  refine (szNodeS_any _ _ _ _ _ le1 (by omega) (by omega)).mono ?_
  rintro e w' ⟨rfl, rfl⟩
  rw [if_pos (by omega)]
  obtain ⟨g20, g21, g22⟩ := HX2.out.below LB2.out GL2.out
  go_wp2_with fail
  clear g20 g21 g22
  refine (szCost_any _ _ _ _ _ _ _ _ _ _ _ (by omega) (by omega) (by omega) (by omega) (by omega)).mono ?_
  rintro e w1 ⟨rfl, hb⟩
  have La0 := Lib.hid (La0.out.trans (hb.mono La0.out.size))
  have La1 := Lib.hid (La1.out.trans (hb.mono La1.out.size))
  have La2 := Lib.hid (La2.out.trans (hb.mono La2.out.size))
  have La3 := Lib.hid (La3.out.trans (hb.mono La3.out.size))
  have LB2 := Lib.hid (LB2.out.trans (hb.mono LB2.out.size))
  have LW := Lib.hid (LW.out.trans (hb.mono LW.out.size))
  clear hb
  rw [if_pos (by omega)]
  go_wp2_with fail
  refine (szPairS_any _ _ _ _ _ le3 (by omega) (by omega)).mono ?_
  rintro e w' ⟨rfl, rfl⟩
  rw [if_pos (by omega)]
  obtain ⟨g20, g21, g22⟩ := HX2.out.below LB2.out GL2.out
  obtain ⟨g20, g21, g22⟩ := HX2.out.below LB2.out GL2.out
  go_wp2_with fail
  have S0 := Lib.hid (show w1.drew.cell? ⟨w.heap.size, 0, none⟩ = some (.slice A20 n20 c20) ∧ w1.drew.cell? ⟨w.heap.size, 1, none⟩ = some (.slice A21 n21 c21) ∧ w1.drew.cell? ⟨w.heap.size, 2, none⟩ = some (.slice A22 n22 c22) ∧ w1.drew.cell? ⟨w.heap.size, 0, none⟩ = some (.slice A20 n20 c20) ∧ w1.drew.cell? ⟨w.heap.size, 1, none⟩ = some (.slice A21 n21 c21) ∧ w1.drew.cell? ⟨w.heap.size, 2, none⟩ = some (.slice A22 n22 c22) ∧ SixG w1 (w.heap.size) (w.heap.size) w1.drew from ⟨g20, g21, g22, g20, g21, g22, (Below.refl _ _).drew, Nat.lt_of_lt_of_le GL2.out LB2.out.size, Nat.lt_of_lt_of_le GL2.out LB2.out.size⟩)
  clear g20 g21 g22
  clear g20 g21 g22
  go_region_held3 (fun wq => wq.cell? ⟨w.heap.size, 0, none⟩ = some (.slice A20 n20 c20) ∧ wq.cell? ⟨w.heap.size, 1, none⟩ = some (.slice A21 n21 c21) ∧ wq.cell? ⟨w.heap.size, 2, none⟩ = some (.slice A22 n22 c22) ∧ wq.cell? ⟨w.heap.size, 0, none⟩ = some (.slice A20 n20 c20) ∧ wq.cell? ⟨w.heap.size, 1, none⟩ = some (.slice A21 n21 c21) ∧ wq.cell? ⟨w.heap.size, 2, none⟩ = some (.slice A22 n22 c22) ∧ SixG w1 (w.heap.size) (w.heap.size) wq) (first | exact S0.out | (refine six_keep ?_ hb; assumption)) (first | (go_at_call 43; (fail_if_success (have := ts0)); refine (toNodeS_any _ _ _ x0 _ (Ia0.out.to_below (La0.out.trans ((six_below (by assumption)).mono La0.out.size))) hn0).mono ?_; rintro e w2 ⟨rfl, ho, hb⟩; have ts0 := True.intro; have Is0 := Lib.hid (NdIn.of_own ho); clear ho) | (go_at_call 43; (fail_if_success (have := ts1)); refine (toNodeS_any _ _ _ x1 _ (Ia1.out.to_below (La1.out.trans ((six_below (by assumption)).mono La1.out.size))) hn1).mono ?_; rintro e w3 ⟨rfl, ho, hb⟩; have ts1 := True.intro; have Is0 := Lib.hid (Is0.out.to_below hb); have Is1 := Lib.hid (NdIn.of_own ho); clear ho) | (go_at_call 44; refine (toCost_any _ _ _ _ _ _ _ _ _ x2 _ (Ia2.out.to_below (La2.out.trans ((six_below (by assumption)).mono La2.out.size))) hn20 hn21 hn22).mono ?_; rintro e w4 ⟨As0, As1, As2, cs0, cs1, cs2, rfl, o0, o1, o2, _, _, _, hb⟩; have Is0 := Lib.hid (Is0.out.to_below hb); have Is1 := Lib.hid (Is1.out.to_below hb); have Is2 := Lib.hid (show CoIn w4 w4.heap.size As0 As1 As2 x2.d.length x2.i.length x2.r.length x2 from ⟨IntIn.of_own o0, IntIn.of_own o1, IntIn.of_own o2⟩); clear o0 o1 o2) | (go_at_call 50; (fail_if_success (have := ts3)); refine (toPairS_any _ _ _ x3 _ (Ia3.out.to_below (La3.out.trans ((six_below (by assumption)).mono La3.out.size))) hn3).mono ?_; rintro e w5 ⟨rfl, ho, hb⟩; have ts3 := True.intro; have Is0 := Lib.hid (Is0.out.to_below hb); have Is1 := Lib.hid (Is1.out.to_below hb); have Is2 := Lib.hid (Is2.out.to_below hb); have Is3 := Lib.hid (NdIn.of_own ho); clear ho) | (go_at_call 55; refine (specMapCost_any (c := _) (c' := _) (c'' := _) (c0 := _) (c1 := _) (c2 := _) (hk := Is2.out) (h0 := (by rw [Hn2.out.1]; exact hn20)) (h1 := (by rw [Hn2.out.2.1]; exact hn21)) (h2 := (by rw [Hn2.out.2.2]; exact hn22)) (ha := Is0.out) (hn := hn0) (hb := Is1.out) (hn' := hn1) (hm := Is3.out) (hn'' := hn3)).mono ?_; rintro e w6 ⟨rfl, hb⟩))
  have hb := Lib.hid (show SixG w1 (w.heap.size) (w.heap.size) w6 by (first | (rename_i q; exact q.2.2.2.2.2.2) | (rename_i q _; exact q.2.2.2.2.2.2)))
  have hb := hb.out.1
  clear S0
  have La0 := Lib.hid (La0.out.trans (hb.mono La0.out.size))
  have La1 := Lib.hid (La1.out.trans (hb.mono La1.out.size))
  have La2 := Lib.hid (La2.out.trans (hb.mono La2.out.size))
  have La3 := Lib.hid (La3.out.trans (hb.mono La3.out.size))
  have LB2 := Lib.hid (LB2.out.trans (hb.mono LB2.out.size))
  have LW := Lib.hid (LW.out.trans (hb.mono LW.out.size))
  clear hb
  clear Is2 Is0 Is1 Is3 ts0 ts1 ts3
  go_wp2_with fail
  refine (toNodeS_any _ _ _ x0 _ (Ia0.out.to_below La0.out) hn0).mono ?_
  rintro e w7 ⟨rfl, ho, hb⟩
  have La0 := Lib.hid (La0.out.trans (hb.mono La0.out.size))
  have La1 := Lib.hid (La1.out.trans (hb.mono La1.out.size))
  have La2 := Lib.hid (La2.out.trans (hb.mono La2.out.size))
  have La3 := Lib.hid (La3.out.trans (hb.mono La3.out.size))
  have LB2 := Lib.hid (LB2.out.trans (hb.mono LB2.out.size))
  have LW := Lib.hid (LW.out.trans (hb.mono LW.out.size))
  clear hb
  have Ix0 := Lib.hid (NdIn.of_own ho)
  have Lx0 := Lib.hid (Below.refl w7.heap.size w7)
  clear ho
  go_wp2_with fail
  refine (toNodeS_any _ _ _ x1 _ (Ia1.out.to_below La1.out) hn1).mono ?_
  rintro e w8 ⟨rfl, ho, hb⟩
  have La0 := Lib.hid (La0.out.trans (hb.mono La0.out.size))
  have La1 := Lib.hid (La1.out.trans (hb.mono La1.out.size))
  have La2 := Lib.hid (La2.out.trans (hb.mono La2.out.size))
  have La3 := Lib.hid (La3.out.trans (hb.mono La3.out.size))
  have Lx0 := Lib.hid (Lx0.out.trans (hb.mono Lx0.out.size))
  have LB2 := Lib.hid (LB2.out.trans (hb.mono LB2.out.size))
  have LW := Lib.hid (LW.out.trans (hb.mono LW.out.size))
  clear hb
  have Ix1 := Lib.hid (NdIn.of_own ho)
  have Lx1 := Lib.hid (Below.refl w8.heap.size w8)
  clear ho
  obtain ⟨g20, g21, g22⟩ := HX2.out.below LB2.out GL2.out
  go_wp2_with fail
  clear g20 g21 g22
  refine (toCost_any _ _ _ _ _ _ _ _ _ x2 _ (Ia2.out.to_below La2.out) hn20 hn21 hn22).mono ?_
  rintro e w9 ⟨Ax20, Ax21, Ax22, cx20, cx21, cx22, rfl, o0, o1, o2, _, _, _, hb⟩
  have La0 := Lib.hid (La0.out.trans (hb.mono La0.out.size))
  have La1 := Lib.hid (La1.out.trans (hb.mono La1.out.size))
  have La2 := Lib.hid (La2.out.trans (hb.mono La2.out.size))
  have La3 := Lib.hid (La3.out.trans (hb.mono La3.out.size))
  have Lx0 := Lib.hid (Lx0.out.trans (hb.mono Lx0.out.size))
  have Lx1 := Lib.hid (Lx1.out.trans (hb.mono Lx1.out.size))
  have LB2 := Lib.hid (LB2.out.trans (hb.mono LB2.out.size))
  have LW := Lib.hid (LW.out.trans (hb.mono LW.out.size))
  clear hb
  have Ix2 := Lib.hid (show CoIn w9 w9.heap.size Ax20 Ax21 Ax22 x2.d.length x2.i.length x2.r.length x2 from ⟨IntIn.of_own o0, IntIn.of_own o1, IntIn.of_own o2⟩)
  have Lx2 := Lib.hid (Below.refl w9.heap.size w9)
  clear o0 o1 o2
  obtain ⟨w10, hw⟩ : ∃ wb, wb = w9.alloc (.cells #[.slice Ax20 x2.d.length cx20, .slice Ax21 x2.i.length cx21, .slice Ax22 x2.r.length cx22] 27) := ⟨_, rfl⟩
  have hb : Below w9.heap.size w9 w10 := by rw [hw]; exact (Below.refl _ _).alloc (Nat.le_refl _) _
  have La0 := Lib.hid (La0.out.trans (hb.mono La0.out.size))
  have La1 := Lib.hid (La1.out.trans (hb.mono La1.out.size))
  have La2 := Lib.hid (La2.out.trans (hb.mono La2.out.size))
  have La3 := Lib.hid (La3.out.trans (hb.mono La3.out.size))
  have Lx0 := Lib.hid (Lx0.out.trans (hb.mono Lx0.out.size))
  have Lx1 := Lib.hid (Lx1.out.trans (hb.mono Lx1.out.size))
  have Lx2 := Lib.hid (Lx2.out.trans (hb.mono Lx2.out.size))
  have LB2 := Lib.hid (LB2.out.trans (hb.mono LB2.out.size))
  have LW := Lib.hid (LW.out.trans (hb.mono LW.out.size))
  clear hb
  have HXx2 := Lib.hid (show Box3 w10 w9.heap.size (.slice Ax20 x2.d.length cx20) (.slice Ax21 x2.i.length cx21) (.slice Ax22 x2.r.length cx22) by rw [hw]; exact Box3.made _ _ _ _ _)
  have GLx2 := Lib.hid (show w9.heap.size < w10.heap.size by rw [hw]; simp)
  have LBx2 := Lib.hid (Below.refl w10.heap.size w10)
  have HW := Lib.hid hw
  clear hw
  go_wp2_with fail
  rw [← HW.out]
  clear HW
  refine (toPairS_any _ _ _ x3 _ (Ia3.out.to_below La3.out) hn3).mono ?_
  rintro e w11 ⟨rfl, ho, hb⟩
  have La0 := Lib.hid (La0.out.trans (hb.mono La0.out.size))
  have La1 := Lib.hid (La1.out.trans (hb.mono La1.out.size))
  have La2 := Lib.hid (La2.out.trans (hb.mono La2.out.size))
  have La3 := Lib.hid (La3.out.trans (hb.mono La3.out.size))
  have Lx0 := Lib.hid (Lx0.out.trans (hb.mono Lx0.out.size))
  have Lx1 := Lib.hid (Lx1.out.trans (hb.mono Lx1.out.size))
  have Lx2 := Lib.hid (Lx2.out.trans (hb.mono Lx2.out.size))
  have LB2 := Lib.hid (LB2.out.trans (hb.mono LB2.out.size))
  have LBx2 := Lib.hid (LBx2.out.trans (hb.mono LBx2.out.size))
  have LW := Lib.hid (LW.out.trans (hb.mono LW.out.size))
  clear hb
  have Ix3 := Lib.hid (NdIn.of_own ho)
  have Lx3 := Lib.hid (Below.refl w11.heap.size w11)
  clear ho
  obtain ⟨gx20, gx21, gx22⟩ := HXx2.out.below LBx2.out GLx2.out
  go_wp2_with fail
  clear gx20 gx21 gx22
  refine (implMapCost_any (c := _) (c' := _) (c'' := _) (c0 := _) (c1 := _) (c2 := _) (hk := (Ix2.out.to_below Lx2.out)) (h0 := (by rw [Hn2.out.1]; exact hn20)) (h1 := (by rw [Hn2.out.2.1]; exact hn21)) (h2 := (by rw [Hn2.out.2.2]; exact hn22)) (ha := (Ix0.out.to_below Lx0.out)) (hn := hn0) (hc := Nat.le_refl _) (hb := (Ix1.out.to_below Lx1.out)) (hn' := hn1) (hc' := Nat.le_refl _) (hm := (Ix3.out.to_below Lx3.out)) (hn'' := hn3) (hc'' := Nat.le_refl _)).mono ?_
  rintro e w12 ⟨rfl, hb⟩
  have La0 := Lib.hid (La0.out.trans (hb.mono La0.out.size))
  have La1 := Lib.hid (La1.out.trans (hb.mono La1.out.size))
  have La2 := Lib.hid (La2.out.trans (hb.mono La2.out.size))
  have La3 := Lib.hid (La3.out.trans (hb.mono La3.out.size))
  have Lx0 := Lib.hid (Lx0.out.trans (hb.mono Lx0.out.size))
  have Lx1 := Lib.hid (Lx1.out.trans (hb.mono Lx1.out.size))
  have Lx2 := Lib.hid (Lx2.out.trans (hb.mono Lx2.out.size))
  have Lx3 := Lib.hid (Lx3.out.trans (hb.mono Lx3.out.size))
  have LB2 := Lib.hid (LB2.out.trans (hb.mono LB2.out.size))
  have LBx2 := Lib.hid (LBx2.out.trans (hb.mono LBx2.out.size))
  have LW := Lib.hid (LW.out.trans (hb.mono LW.out.size))
  clear hb
  go_wp2_with fail
  refine (toNodeS_any _ _ _ x0 _ (Ia0.out.to_below La0.out) hn0).mono ?_
  rintro e w13 ⟨rfl, ho, hb⟩
  have La0 := Lib.hid (La0.out.trans (hb.mono La0.out.size))
  have La1 := Lib.hid (La1.out.trans (hb.mono La1.out.size))
  have La2 := Lib.hid (La2.out.trans (hb.mono La2.out.size))
  have La3 := Lib.hid (La3.out.trans (hb.mono La3.out.size))
  have Lx0 := Lib.hid (Lx0.out.trans (hb.mono Lx0.out.size))
  have Lx1 := Lib.hid (Lx1.out.trans (hb.mono Lx1.out.size))
  have Lx2 := Lib.hid (Lx2.out.trans (hb.mono Lx2.out.size))
  have Lx3 := Lib.hid (Lx3.out.trans (hb.mono Lx3.out.size))
  have LB2 := Lib.hid (LB2.out.trans (hb.mono LB2.out.size))
  have LBx2 := Lib.hid (LBx2.out.trans (hb.mono LBx2.out.size))
  have LW := Lib.hid (LW.out.trans (hb.mono LW.out.size))
  clear hb
  have Iy0 := Lib.hid (NdIn.of_own ho)
  have Ly0 := Lib.hid (Below.refl w13.heap.size w13)
  clear ho
  go_wp2_with fail
  refine (eqNodeS_any _ _ _ _ _ _ x0 x0 _ (Ix0.out.to_below Lx0.out) (Iy0.out.to_below Ly0.out) hn0 hn0).mono ?_
  rintro e w14 ⟨rfl, hb⟩
  have La0 := Lib.hid (La0.out.trans (hb.mono La0.out.size))
  have La1 := Lib.hid (La1.out.trans (hb.mono La1.out.size))
  have La2 := Lib.hid (La2.out.trans (hb.mono La2.out.size))
  have La3 := Lib.hid (La3.out.trans (hb.mono La3.out.size))
  have Lx0 := Lib.hid (Lx0.out.trans (hb.mono Lx0.out.size))
  have Lx1 := Lib.hid (Lx1.out.trans (hb.mono Lx1.out.size))
  have Lx2 := Lib.hid (Lx2.out.trans (hb.mono Lx2.out.size))
  have Lx3 := Lib.hid (Lx3.out.trans (hb.mono Lx3.out.size))
  have Ly0 := Lib.hid (Ly0.out.trans (hb.mono Ly0.out.size))
  have LB2 := Lib.hid (LB2.out.trans (hb.mono LB2.out.size))
  have LBx2 := Lib.hid (LBx2.out.trans (hb.mono LBx2.out.size))
  have LW := Lib.hid (LW.out.trans (hb.mono LW.out.size))
  clear hb
  go_wp2_with fail
  refine (toNodeS_any _ _ _ x1 _ (Ia1.out.to_below La1.out) hn1).mono ?_
  rintro e w15 ⟨rfl, ho, hb⟩
  have La0 := Lib.hid (La0.out.trans (hb.mono La0.out.size))
  have La1 := Lib.hid (La1.out.trans (hb.mono La1.out.size))
  have La2 := Lib.hid (La2.out.trans (hb.mono La2.out.size))
  have La3 := Lib.hid (La3.out.trans (hb.mono La3.out.size))
  have Lx0 := Lib.hid (Lx0.out.trans (hb.mono Lx0.out.size))
  have Lx1 := Lib.hid (Lx1.out.trans (hb.mono Lx1.out.size))
  have Lx2 := Lib.hid (Lx2.out.trans (hb.mono Lx2.out.size))
  have Lx3 := Lib.hid (Lx3.out.trans (hb.mono Lx3.out.size))
  have LB2 := Lib.hid (LB2.out.trans (hb.mono LB2.out.size))
  have LBx2 := Lib.hid (LBx2.out.trans (hb.mono LBx2.out.size))
  have LW := Lib.hid (LW.out.trans (hb.mono LW.out.size))
  clear hb
  have Iy1 := Lib.hid (NdIn.of_own ho)
  have Ly1 := Lib.hid (Below.refl w15.heap.size w15)
  clear ho
  go_wp2_with fail
  refine (eqNodeS_any _ _ _ _ _ _ x1 x1 _ (Ix1.out.to_below Lx1.out) (Iy1.out.to_below Ly1.out) hn1 hn1).mono ?_
  rintro e w16 ⟨rfl, hb⟩
  have La0 := Lib.hid (La0.out.trans (hb.mono La0.out.size))
  have La1 := Lib.hid (La1.out.trans (hb.mono La1.out.size))
  have La2 := Lib.hid (La2.out.trans (hb.mono La2.out.size))
  have La3 := Lib.hid (La3.out.trans (hb.mono La3.out.size))
  have Lx0 := Lib.hid (Lx0.out.trans (hb.mono Lx0.out.size))
  have Lx1 := Lib.hid (Lx1.out.trans (hb.mono Lx1.out.size))
  have Lx2 := Lib.hid (Lx2.out.trans (hb.mono Lx2.out.size))
  have Lx3 := Lib.hid (Lx3.out.trans (hb.mono Lx3.out.size))
  have Ly1 := Lib.hid (Ly1.out.trans (hb.mono Ly1.out.size))
  have LB2 := Lib.hid (LB2.out.trans (hb.mono LB2.out.size))
  have LBx2 := Lib.hid (LBx2.out.trans (hb.mono LBx2.out.size))
  have LW := Lib.hid (LW.out.trans (hb.mono LW.out.size))
  clear hb
  obtain ⟨gx20, gx21, gx22⟩ := HXx2.out.below LBx2.out GLx2.out
  obtain ⟨g20, g21, g22⟩ := HX2.out.below LB2.out GL2.out
  go_wp2_with fail
  have S0 := Lib.hid (show w16.drew.cell? ⟨w9.heap.size, 0, none⟩ = some (.slice Ax20 x2.d.length cx20) ∧ w16.drew.cell? ⟨w9.heap.size, 1, none⟩ = some (.slice Ax21 x2.i.length cx21) ∧ w16.drew.cell? ⟨w9.heap.size, 2, none⟩ = some (.slice Ax22 x2.r.length cx22) ∧ w16.drew.cell? ⟨w.heap.size, 0, none⟩ = some (.slice A20 n20 c20) ∧ w16.drew.cell? ⟨w.heap.size, 1, none⟩ = some (.slice A21 n21 c21) ∧ w16.drew.cell? ⟨w.heap.size, 2, none⟩ = some (.slice A22 n22 c22) ∧ SixG w16 (w9.heap.size) (w.heap.size) w16.drew from ⟨gx20, gx21, gx22, g20, g21, g22, (Below.refl _ _).drew, Nat.lt_of_lt_of_le GLx2.out LBx2.out.size, Nat.lt_of_lt_of_le GL2.out LB2.out.size⟩)
  clear gx20 gx21 gx22
  clear g20 g21 g22
  go_region_held3 (fun wq => wq.cell? ⟨w9.heap.size, 0, none⟩ = some (.slice Ax20 x2.d.length cx20) ∧ wq.cell? ⟨w9.heap.size, 1, none⟩ = some (.slice Ax21 x2.i.length cx21) ∧ wq.cell? ⟨w9.heap.size, 2, none⟩ = some (.slice Ax22 x2.r.length cx22) ∧ wq.cell? ⟨w.heap.size, 0, none⟩ = some (.slice A20 n20 c20) ∧ wq.cell? ⟨w.heap.size, 1, none⟩ = some (.slice A21 n21 c21) ∧ wq.cell? ⟨w.heap.size, 2, none⟩ = some (.slice A22 n22 c22) ∧ SixG w16 (w9.heap.size) (w.heap.size) wq) (first | exact S0.out | (refine six_keep ?_ hb; assumption)) (first | (go_at_call 44; refine (toCost_any _ _ _ _ _ _ _ _ _ x2 _ (Ia2.out.to_below (La2.out.trans ((six_below (by assumption)).mono La2.out.size))) hn20 hn21 hn22).mono ?_; rintro e w17 ⟨Ay20, Ay21, Ay22, cy20, cy21, cy22, rfl, o0, o1, o2, _, _, _, hb⟩) | (go_at_call 46; refine (eqCost_any _ _ _ _ _ _ _ _ _ x2 _ _ _ _ _ _ _ _ _ x2 _ (Ix2.out.to_below (Lx2.out.trans ((six_below (by assumption)).mono Lx2.out.size))) ⟨IntIn.of_own o0, IntIn.of_own o1, IntIn.of_own o2⟩ (by rw [Hn2.out.1]; exact hn20) (by rw [Hn2.out.2.1]; exact hn21) (by rw [Hn2.out.2.2]; exact hn22) (by rw [Hn2.out.1]; exact hn20) (by rw [Hn2.out.2.1]; exact hn21) (by rw [Hn2.out.2.2]; exact hn22)).mono ?_; rintro e w18 ⟨rfl, hb⟩; rw [Co.same_self]))
  have hb := Lib.hid (show SixG w16 (w9.heap.size) (w.heap.size) w18 by (first | (rename_i q; exact q.2.2.2.2.2.2) | (rename_i q _; exact q.2.2.2.2.2.2)))
  have hb := hb.out.1
  clear S0
  have La0 := Lib.hid (La0.out.trans (hb.mono La0.out.size))
  have La1 := Lib.hid (La1.out.trans (hb.mono La1.out.size))
  have La2 := Lib.hid (La2.out.trans (hb.mono La2.out.size))
  have La3 := Lib.hid (La3.out.trans (hb.mono La3.out.size))
  have Lx0 := Lib.hid (Lx0.out.trans (hb.mono Lx0.out.size))
  have Lx1 := Lib.hid (Lx1.out.trans (hb.mono Lx1.out.size))
  have Lx2 := Lib.hid (Lx2.out.trans (hb.mono Lx2.out.size))
  have Lx3 := Lib.hid (Lx3.out.trans (hb.mono Lx3.out.size))
  have LB2 := Lib.hid (LB2.out.trans (hb.mono LB2.out.size))
  have LBx2 := Lib.hid (LBx2.out.trans (hb.mono LBx2.out.size))
  have LW := Lib.hid (LW.out.trans (hb.mono LW.out.size))
  clear hb
  go_wp2_with fail
  refine (toPairS_any _ _ _ x3 _ (Ia3.out.to_below La3.out) hn3).mono ?_
  rintro e w19 ⟨rfl, ho, hb⟩
  have La0 := Lib.hid (La0.out.trans (hb.mono La0.out.size))
  have La1 := Lib.hid (La1.out.trans (hb.mono La1.out.size))
  have La2 := Lib.hid (La2.out.trans (hb.mono La2.out.size))
  have La3 := Lib.hid (La3.out.trans (hb.mono La3.out.size))
  have Lx0 := Lib.hid (Lx0.out.trans (hb.mono Lx0.out.size))
  have Lx1 := Lib.hid (Lx1.out.trans (hb.mono Lx1.out.size))
  have Lx2 := Lib.hid (Lx2.out.trans (hb.mono Lx2.out.size))
  have Lx3 := Lib.hid (Lx3.out.trans (hb.mono Lx3.out.size))
  have LB2 := Lib.hid (LB2.out.trans (hb.mono LB2.out.size))
  have LBx2 := Lib.hid (LBx2.out.trans (hb.mono LBx2.out.size))
  have LW := Lib.hid (LW.out.trans (hb.mono LW.out.size))
  clear hb
  have Iy3 := Lib.hid (NdIn.of_own ho)
  have Ly3 := Lib.hid (Below.refl w19.heap.size w19)
  clear ho
  go_wp2_with fail
  refine (eqPairS_any _ _ _ _ _ _ x3 x3 _ (Ix3.out.to_below Lx3.out) (Iy3.out.to_below Ly3.out) (by omega) (by omega)).mono ?_
  rintro e w20 ⟨rfl, hb⟩
  have La0 := Lib.hid (La0.out.trans (hb.mono La0.out.size))
  have La1 := Lib.hid (La1.out.trans (hb.mono La1.out.size))
  have La2 := Lib.hid (La2.out.trans (hb.mono La2.out.size))
  have La3 := Lib.hid (La3.out.trans (hb.mono La3.out.size))
  have Lx0 := Lib.hid (Lx0.out.trans (hb.mono Lx0.out.size))
  have Lx1 := Lib.hid (Lx1.out.trans (hb.mono Lx1.out.size))
  have Lx2 := Lib.hid (Lx2.out.trans (hb.mono Lx2.out.size))
  have Lx3 := Lib.hid (Lx3.out.trans (hb.mono Lx3.out.size))
  have Ly3 := Lib.hid (Ly3.out.trans (hb.mono Ly3.out.size))
  have LB2 := Lib.hid (LB2.out.trans (hb.mono LB2.out.size))
  have LBx2 := Lib.hid (LBx2.out.trans (hb.mono LBx2.out.size))
  have LW := Lib.hid (LW.out.trans (hb.mono LW.out.size))
  clear hb
  go_wp2
  go_ret
  exact ⟨rfl, LW.out⟩

end Go.Proofs.Ytfchmdhlfhoogaa
