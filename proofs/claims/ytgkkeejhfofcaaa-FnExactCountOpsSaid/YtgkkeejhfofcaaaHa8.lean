/- Texts of one claim laid into one file, in build order: New9, Match9, Bm2, Mp, Mc, Tur, Un. -/
import Derived.Test.YtgkkeejhfofcaaaHa1
import Derived.Test.YtgkkeejhfofcaaaHa2
import Derived.Test.YtgkkeejhfofcaaaHa3
import Derived.Test.YtgkkeejhfofcaaaHa4
import Derived.Test.YtgkkeejhfofcaaaHa5
import Derived.Test.YtgkkeejhfofcaaaHa7
import Derived.BigQuiet
import Derived.Deep.RegionHeld3
import Derived.Outline
import Derived.Test.YtgkkeejhfofcaaaRows
/- Contracts (New9). -/
namespace Go.Proofs.Ytgkkeejhfofcaaa
open Go.RowKit
set_option linter.unusedVariables false

/-- what l9New holds while it makes its rows -/
structure NwG (A A' : Option Addr) (n n' : Nat) (xs ys : Tr) (K0 K1 K2 : Option Addr) (c0 c1 c2 : Nat) (k : Co) (w wq : World) : Prop where
  a : NdIn wq w.heap.size A n xs
  b : NdIn wq w.heap.size A' n' ys
  k : CoIn wq w.heap.size K0 K1 K2 6 6 36 k
  bl : Below w.heap.size w wq
  q : Box3 wq w.heap.size (.slice K0 6 c0) (.slice K1 6 c1) (.slice K2 36 c2)
  lt : w.heap.size < wq.heap.size
section
variable {A A' : Option Addr} {n n' : Nat} {xs ys : Tr} {K0 K1 K2 : Option Addr} {c0 c1 c2 : Nat} {k : Co} {w wx wq : World}
theorem NwG.keep (h : NwG A A' n n' xs ys K0 K1 K2 c0 c1 c2 k w wx) (hb : Below wx.heap.size wx wq) : NwG A A' n n' xs ys K0 K1 K2 c0 c1 c2 k w wq := by
  have hl := h.lt
  have hb' := hb.mono (B' := w.heap.size) (by omega)
  exact ⟨h.a.below hb', h.b.below hb', h.k.below hb', h.bl.trans hb', h.q.below hb hl, Nat.lt_of_lt_of_le hl hb.size⟩
end
/-- the memo, new -/
theorem M9.made {B N : Nat} {xs ys : Tr} {k : Co} {w : World} {g1 g2 g3 g4 gk e1 e2 e3 e4 c0 c1 c2 : Nat} {k0 k1 k2 : Addr} {t : TypeId} (hN : N = (xs.length + 1) * (xs.length + 1) * (ys.length + 1) * (ys.length + 1))
    (r1 : w.ownsRow B 3 1 (.slice (some ⟨g1, 0, none⟩) xs.length e1) xs.length (ints (Tr.lab xs))) (r2 : w.ownsRow B 3 1 (.slice (some ⟨g2, 0, none⟩) ys.length e2) ys.length (ints (Tr.lab ys))) (r3 : w.ownsRow B 3 1 (.slice (some ⟨g3, 0, none⟩) xs.length e3) xs.length (ints (Zs.up (Tr.lfs xs)))) (r4 : w.ownsRow B 3 1 (.slice (some ⟨g4, 0, none⟩) ys.length e4) ys.length (ints (Zs.up (Tr.lfs ys))))
    (rk : w.ownsRow B 3 1 (.slice (some ⟨gk, 0, none⟩) N N) N (ints (List.replicate N 0))) (hk : CoIn w B (some k0) (some k1) (some k2) 6 6 36 k) (n1 : g1 ≠ gk) (n2 : g2 ≠ gk) (n3 : g3 ≠ gk) (n4 : g4 ≠ gk) (hB : B ≤ w.heap.size) :
    M9 B N ⟨w.heap.size, gk, ⟨g1, 0, none⟩, ⟨g2, 0, none⟩, ⟨g3, 0, none⟩, ⟨g4, 0, none⟩, k0, k1, k2, e1, e2, e3, e4, c0, c1, c2⟩ xs ys k (List.replicate N 0)
      (w.alloc (.cells #[.slice (some ⟨g1, 0, none⟩) xs.length e1, .slice (some ⟨g2, 0, none⟩) ys.length e2, .slice (some ⟨g3, 0, none⟩) xs.length e3, .slice (some ⟨g4, 0, none⟩) ys.length e4, .slice (some ⟨gk, 0, none⟩) N N, .slice (some k0) 6 c0, .slice (some k1) 6 c1, .slice (some k2) 36 c2] t)) := by
  obtain ⟨_, e0, q0⟩ := hk.1.2.1 (by omega)
  injection e0 with e0; subst e0
  obtain ⟨_, e5, q1⟩ := hk.2.1.2.1 (by omega)
  injection e5 with e5; subst e5
  obtain ⟨_, e6, q2⟩ := hk.2.2.2.1 (by omega)
  injection e6 with e6; subst e6
  have lk := rk.lt gk rfl
  exact {
    gB := hB
    gl := by show w.heap.size < _; rw [size_made]; omega
    gg := by show gk ≠ w.heap.size; omega
    hN := hN
    h0 := cell_made _ _ _ 0 _ rfl, h1 := cell_made _ _ _ 1 _ rfl, h2 := cell_made _ _ _ 2 _ rfl, h3 := cell_made _ _ _ 3 _ rfl, h4 := cell_made _ _ _ 4 _ rfl, h5 := cell_made _ _ _ 5 _ rfl, h6 := cell_made _ _ _ 6 _ rfl, h7 := cell_made _ _ _ 7 _ rfl
    row := rk.alloc _
    kn := fun i j p q _ _ _ _ => .inl (by unfold Zs.at; rw [List.getD_eq_getElem?_getD, List.getElem?_replicate]; split <;> rfl)
    rx := RowOff.of_own r1 (r1.lt g1 rfl).2 n1, ry := RowOff.of_own r2 (r2.lt g2 rfl).2 n2, ra := RowOff.of_own r3 (r3.lt g3 rfl).2 n3, rb := RowOff.of_own r4 (r4.lt g4 rfl).2 n4
    r0 := RowOff.of_in hk.1 q0 lk.1 lk.2, r1 := RowOff.of_in hk.2.1 q1 lk.1 lk.2, r2 := RowOff.of_in hk.2.2 q2 lk.1 lk.2 }
end Go.Proofs.Ytgkkeejhfofcaaa

/- Contracts (Match9). -/
namespace Go.Proofs.Ytgkkeejhfofcaaa
open Go.RowKit
set_option linter.unusedVariables false

section
variable {B N : Nat} {D : D9} {xs ys : Tr} {k : Co} {w0 w w' : World}
theorem K9.next (h : K9 B N D xs ys k w0 w) (h' : K9 B N D xs ys k w w') : K9 B N D xs ys k w0 w' := ⟨h'.1, h.2.trans h'.2⟩
theorem K9.drawn (h : K9 B N D xs ys k w0 w) (hd : Drawn w w') : K9 B N D xs ys k w0 w' := by
  obtain ⟨⟨K, hK⟩, hb⟩ := h
  exact ⟨⟨K, hK.drawn hd⟩, hb.drawn hd⟩
end
end Go.Proofs.Ytgkkeejhfofcaaa

/- Contracts (Bm2). -/
namespace Go.Proofs.Ytgkkeejhfofcaaa
open Go.RowKit
set_option linter.unusedVariables false

/-- places as nodes -/
def Bm.f (xs ys : Tr) (e : Int × Int) : Int × Int := ((Tr.nd xs e.1.toNat : Int), (Tr.nd ys e.2.toNat : Int))
/-- pair after pair: both ascend, and descent agrees -/
def Bm.R (xs ys : Tr) (e e' : Int × Int) : Prop := e.1 < e'.1 ∧ e.2 < e'.2 ∧ Tr.under xs e.1 e'.1 = Tr.under ys e.2 e'.2
def Bm.inn (xs ys : Tr) (i j p q : Nat) (e : Int × Int) : Prop := ∃ u v : Nat, e = ((Tr.nd xs u : Int), (Tr.nd ys v : Int)) ∧ i ≤ u ∧ u < j ∧ p ≤ v ∧ v < q
theorem asc_split {L : Tr} (h : L.Pairwise fun e e' => e.1 < e'.1) (i : Nat) : (L.filter fun e => decide (e.1 < (i : Int))) ++ (L.filter fun e => decide (e.1 = (i : Int))) = L.filter fun e => decide (e.1 < ((i + 1 : Nat) : Int)) := by
  induction L with
  | nil => rfl
  | cons e L ih =>
    obtain ⟨h1, h2⟩ := List.pairwise_cons.1 h
    have ih := ih h2
    by_cases c : e.1 < (i : Int)
    · rw [List.filter_cons_of_pos (by simpa using c), List.filter_cons_of_neg (by simp; omega), List.filter_cons_of_pos (by simp; omega), List.cons_append, ih]
    · have n1 : (L.filter fun e => decide (e.1 < (i : Int))) = [] := List.filter_eq_nil_iff.2 fun e' h' => by have := h1 e' h'; simp; omega
      rw [List.filter_cons_of_neg (by simpa using c), n1]
      rw [n1, List.nil_append] at ih
      by_cases c2 : e.1 = (i : Int)
      · have n2 : (L.filter fun e => decide (e.1 = (i : Int))) = [] := List.filter_eq_nil_iff.2 fun e' h' => by have := h1 e' h'; simp; omega
        rw [List.filter_cons_of_pos (by simpa using c2), List.filter_cons_of_pos (by simp; omega), n2, ← ih, n2]
        rfl
      · rw [List.filter_cons_of_neg (by simpa using c2), List.filter_cons_of_neg (by simp; omega), List.nil_append]
        exact ih
theorem one_key {L : Tr} (h : L.Pairwise fun e e' => e.1 < e'.1) (a : Int) : (L.filter fun e => decide (e.1 = a)) = [] ∨ ∃ x, (L.filter fun e => decide (e.1 = a)) = [x] := by
  have hp : (L.filter fun e => decide (e.1 = a)).Pairwise fun e e' => e.1 < e'.1 := h.filter _
  rcases hl : (L.filter fun e => decide (e.1 = a)) with _ | ⟨x, _ | ⟨y, r⟩⟩
  · exact .inl hl
  · exact .inr ⟨x, hl⟩
  · rw [hl] at hp
    have hx : x ∈ (L.filter fun e => decide (e.1 = a)) := by rw [hl]; simp
    have hy : y ∈ (L.filter fun e => decide (e.1 = a)) := by rw [hl]; simp
    have := (List.pairwise_cons.1 hp).1 y (by simp)
    have e1 := (List.mem_filter.1 hx).2
    have e2 := (List.mem_filter.1 hy).2
    simp only [decide_eq_true_eq] at e1 e2
    omega
section
variable {xs ys : Tr} {k : Co} (hx : Tr.ok xs = true) (hy : Tr.ok ys = true)
include hx hy
end

end Go.Proofs.Ytgkkeejhfofcaaa

/- Contracts (Mp). -/
namespace Go.Proofs.Ytgkkeejhfofcaaa
open Go.RowKit
set_option linter.unusedVariables false

/-- pair k can stand ahead of (a, b) -/
def Mp.at (xs ys ms : Tr) (a b : Int) (k : Nat) : Bool := decide (Tr.l ms k < a) && decide (Tr.d ms k < b) && (Tr.under xs (Tr.l ms k) a == Tr.under ys (Tr.d ms k) b)
def Mp.after (xs ys ms : Tr) (n : Nat) (a b : Int) : Bool := (List.range n).all (Mp.at xs ys ms a b)
def Mp.okAt (xs ys ms : Tr) (i : Nat) : Bool := Tr.has xs (Tr.l ms i) && Tr.has ys (Tr.d ms i) && Mp.after xs ys ms i (Tr.l ms i) (Tr.d ms i)
/-- a valid mapping -/
def Mp.ok (xs ys ms : Tr) : Bool := Tr.ok xs && Tr.ok ys && (List.range ms.length).all (Mp.okAt xs ys ms)
section
variable {xs ys ms : Tr} {a b : Int} {n i k : Nat}
theorem Mp.after_iff : Mp.after xs ys ms n a b = true ↔ ∀ k, k < n → Mp.at xs ys ms a b k = true := by
  unfold Mp.after
  rw [List.all_eq_true]
  exact ⟨fun h k hk => h k (List.mem_range.2 hk), fun h k hk => h k (List.mem_range.1 hk)⟩
theorem Mp.all_iff : (List.range ms.length).all (Mp.okAt xs ys ms) = true ↔ ∀ k, k < ms.length → Mp.okAt xs ys ms k = true := by
  rw [List.all_eq_true]
  exact ⟨fun h k hk => h k (List.mem_range.2 hk), fun h k hk => h k (List.mem_range.1 hk)⟩
theorem Mp.ok_yes (h : ∀ k, k < ms.length → Mp.okAt xs ys ms k = true) : Mp.ok xs ys ms = (Tr.ok xs && Tr.ok ys) := by
  unfold Mp.ok
  rw [Mp.all_iff.2 h, Bool.and_true]
theorem Mp.at_yes (h1 : Tr.l ms k < a) (h2 : Tr.d ms k < b) (h3 : Tr.under xs (Tr.l ms k) a = Tr.under ys (Tr.d ms k) b) : Mp.at xs ys ms a b k = true := by
  unfold Mp.at
  rw [decide_eq_true h1, decide_eq_true h2, h3]
  simp
theorem Mp.okAt_yes (h1 : Tr.has xs (Tr.l ms i) = true) (h2 : Tr.has ys (Tr.d ms i) = true) (h : ∀ k, k < i → Mp.at xs ys ms (Tr.l ms i) (Tr.d ms i) k = true) : Mp.okAt xs ys ms i = true := by
  unfold Mp.okAt
  rw [h1, h2, Mp.after_iff.2 h]
  rfl
theorem Mp.okAt_parts (h : Mp.okAt xs ys ms i = true) : Tr.has xs (Tr.l ms i) = true ∧ Tr.has ys (Tr.d ms i) = true ∧ ∀ k, k < i → Tr.l ms k < Tr.l ms i ∧ Tr.d ms k < Tr.d ms i ∧ Tr.under xs (Tr.l ms k) (Tr.l ms i) = Tr.under ys (Tr.d ms k) (Tr.d ms i) := by
  simp only [Mp.okAt, Bool.and_eq_true] at h
  refine ⟨h.1.1, h.1.2, fun k hk => ?_⟩
  have := Mp.after_iff.1 h.2 k hk
  simp only [Mp.at, Bool.and_eq_true, decide_eq_true_eq, beq_iff_eq] at this
  exact ⟨this.1.1, this.1.2, this.2⟩
end

end Go.Proofs.Ytgkkeejhfofcaaa

/- Contracts (Mc). -/
namespace Go.Proofs.Ytgkkeejhfofcaaa
open Go.RowKit
set_option linter.unusedVariables false

def Mp.sum (f : Nat → Int) : Nat → Int
  | 0 => 0
  | n + 1 => Mp.sum f n + f n
theorem Mp.sum_congr {f g : Nat → Int} : ∀ {n : Nat}, (∀ i, i < n → f i = g i) → Mp.sum f n = Mp.sum g n
  | 0, _ => rfl
  | n + 1, h => by
    show Mp.sum f n + f n = Mp.sum g n + g n
    rw [Mp.sum_congr (fun i hi => h i (by omega)), h n (by omega)]
theorem Mp.sum_change {f g : Nat → Int} {p : Nat} (h : ∀ i, i ≠ p → g i = f i) : ∀ {n : Nat}, p < n → Mp.sum g n = Mp.sum f n + (g p - f p)
  | 0, hp => absurd hp (Nat.not_lt_zero p)
  | n + 1, hp => by
    show Mp.sum g n + g n = Mp.sum f n + f n + (g p - f p)
    by_cases e : p = n
    · subst e
      rw [Mp.sum_congr (f := g) (g := f) (fun i hi => h i (by omega))]
      omega
    · rw [Mp.sum_change h (show p < n by omega), h n (by omega)]
      omega
theorem Mp.l_take {ms : Tr} {m q : Nat} (h : q < m) : Tr.l (ms.take m) q = Tr.l ms q := by
  unfold Tr.l
  rw [show (ms.take m).getD q (0, 0) = ms.getD q (0, 0) by simp [List.getD_eq_getElem?_getD, h]]
theorem Mp.d_take {ms : Tr} {m q : Nat} (h : q < m) : Tr.d (ms.take m) q = Tr.d ms q := by
  unfold Tr.d
  rw [show (ms.take m).getD q (0, 0) = ms.getD q (0, 0) by simp [List.getD_eq_getElem?_getD, h]]
def Mp.of : Tr → Int → Int
  | [], _ => -1
  | p :: r, i => if p.1 = i then p.2 else Mp.of r i
theorem Mp.of_cases : ∀ (ms : Tr) (i : Int), (Mp.of ms i = -1 ∧ ∀ q, q < ms.length → Tr.l ms q ≠ i) ∨ ∃ q, q < ms.length ∧ Tr.l ms q = i ∧ Mp.of ms i = Tr.d ms q ∧ ∀ r, r < q → Tr.l ms r ≠ i
  | [], i => Or.inl ⟨rfl, fun q hq => absurd hq (Nat.not_lt_zero q)⟩
  | p :: t, i => by
    by_cases e : p.1 = i
    · exact Or.inr ⟨0, Nat.zero_lt_succ _, e, by unfold Mp.of; rw [if_pos e]; rfl, fun r hr => absurd hr (Nat.not_lt_zero r)⟩
    · have hs : Mp.of (p :: t) i = Mp.of t i := by rw [Mp.of, if_neg e]
      rcases Mp.of_cases t i with ⟨h1, h2⟩ | ⟨q, h1, h2, h3, h4⟩
      · refine Or.inl ⟨hs.trans h1, fun q hq => ?_⟩
        cases q with
        | zero => exact e
        | succ q => exact h2 q (by simpa using hq)
      · refine Or.inr ⟨q + 1, by simpa using h1, h2, hs.trans h3, fun r hr => ?_⟩
        cases r with
        | zero => exact e
        | succ r => exact h4 r (by omega)
theorem Mp.of_hit {ms : Tr} {i : Int} {k : Nat} (hk : k < ms.length) (he : Tr.l ms k = i) (h : ∀ q, q < k → Tr.l ms q ≠ i) : Mp.of ms i = Tr.d ms k := by
  rcases Mp.of_cases ms i with ⟨_, h2⟩ | ⟨q, h1, h2, h3, h4⟩
  · exact absurd he (h2 k hk)
  · have : q = k := by
      rcases Nat.lt_trichotomy q k with c | c | c
      · exact absurd h2 (h q c)
      · exact c
      · exact absurd he (h4 k c)
    rw [h3, this]
theorem Mp.of_none {ms : Tr} {i : Int} (h : ∀ q, q < ms.length → Tr.l ms q ≠ i) : Mp.of ms i = -1 := by
  rcases Mp.of_cases ms i with ⟨h1, _⟩ | ⟨q, h1, h2, _⟩
  · exact h1
  · exact absurd h2 (h q h1)
theorem Mp.of_skip {ms : Tr} {i : Int} {m : Nat} (hm : m < ms.length) (he : Tr.l ms m ≠ i) : Mp.of (ms.take (m + 1)) i = Mp.of (ms.take m) i := by
  have l1 : (ms.take m).length = m := by rw [List.length_take]; omega
  have l2 : (ms.take (m + 1)).length = m + 1 := by rw [List.length_take]; omega
  rcases Mp.of_cases (ms.take m) i with ⟨h1, h2⟩ | ⟨q, h1, h2, h3, h4⟩
  · rw [h1]
    refine Mp.of_none (fun q hq => ?_)
    rw [l2] at hq
    rw [Mp.l_take hq] at *
    rcases Nat.lt_succ_iff_lt_or_eq.1 hq with c | rfl
    · have := h2 q (by omega); rw [Mp.l_take c] at this; exact this
    · exact he
  · rw [l1] at h1
    rw [h3]
    rw [Mp.l_take h1] at h2
    rw [Mp.d_take h1, Mp.of_hit (k := q) (by omega) (by rw [Mp.l_take (show q < m + 1 by omega)]; exact h2) (fun r hr => by
      have := h4 r hr; rw [Mp.l_take (show r < m by omega)] at this; rw [Mp.l_take (show r < m + 1 by omega)]; exact this), Mp.d_take (show q < m + 1 by omega)]
theorem Mp.of_new {ms : Tr} {m : Nat} (hm : m < ms.length) (h : ∀ q, q < m → Tr.l ms q ≠ Tr.l ms m) : Mp.of (ms.take m) (Tr.l ms m) = -1 ∧ Mp.of (ms.take (m + 1)) (Tr.l ms m) = Tr.d ms m := by
  have l1 : (ms.take m).length = m := by rw [List.length_take]; omega
  have l2 : (ms.take (m + 1)).length = m + 1 := by rw [List.length_take]; omega
  refine ⟨Mp.of_none (fun q hq => ?_), ?_⟩
  · rw [l1] at hq; rw [Mp.l_take hq]; exact h q hq
  · rw [Mp.of_hit (k := m) (by rw [l2]; omega) (Mp.l_take (Nat.lt_add_one m)) (fun r hr => by rw [Mp.l_take (show r < m + 1 by omega)]; exact h r hr), Mp.d_take (Nat.lt_add_one m)]
def Mp.back : Tr → Int → Int
  | [], _ => -1
  | p :: r, i => if p.2 = i then p.1 else Mp.back r i
theorem Mp.back_cases : ∀ (ms : Tr) (i : Int), (Mp.back ms i = -1 ∧ ∀ q, q < ms.length → Tr.d ms q ≠ i) ∨ ∃ q, q < ms.length ∧ Tr.d ms q = i ∧ Mp.back ms i = Tr.l ms q ∧ ∀ r, r < q → Tr.d ms r ≠ i
  | [], i => Or.inl ⟨rfl, fun q hq => absurd hq (Nat.not_lt_zero q)⟩
  | p :: t, i => by
    by_cases e : p.2 = i
    · exact Or.inr ⟨0, Nat.zero_lt_succ _, e, by unfold Mp.back; rw [if_pos e]; rfl, fun r hr => absurd hr (Nat.not_lt_zero r)⟩
    · have hs : Mp.back (p :: t) i = Mp.back t i := by rw [Mp.back, if_neg e]
      rcases Mp.back_cases t i with ⟨h1, h2⟩ | ⟨q, h1, h2, h3, h4⟩
      · refine Or.inl ⟨hs.trans h1, fun q hq => ?_⟩
        cases q with
        | zero => exact e
        | succ q => exact h2 q (by simpa using hq)
      · refine Or.inr ⟨q + 1, by simpa using h1, h2, hs.trans h3, fun r hr => ?_⟩
        cases r with
        | zero => exact e
        | succ r => exact h4 r (by omega)
theorem Mp.back_hit {ms : Tr} {i : Int} {k : Nat} (hk : k < ms.length) (he : Tr.d ms k = i) (h : ∀ q, q < k → Tr.d ms q ≠ i) : Mp.back ms i = Tr.l ms k := by
  rcases Mp.back_cases ms i with ⟨_, h2⟩ | ⟨q, h1, h2, h3, h4⟩
  · exact absurd he (h2 k hk)
  · have : q = k := by
      rcases Nat.lt_trichotomy q k with c | c | c
      · exact absurd h2 (h q c)
      · exact c
      · exact absurd he (h4 k c)
    rw [h3, this]
theorem Mp.back_none {ms : Tr} {i : Int} (h : ∀ q, q < ms.length → Tr.d ms q ≠ i) : Mp.back ms i = -1 := by
  rcases Mp.back_cases ms i with ⟨h1, _⟩ | ⟨q, h1, h2, _⟩
  · exact h1
  · exact absurd h2 (h q h1)
theorem Mp.back_skip {ms : Tr} {i : Int} {m : Nat} (hm : m < ms.length) (he : Tr.d ms m ≠ i) : Mp.back (ms.take (m + 1)) i = Mp.back (ms.take m) i := by
  have l1 : (ms.take m).length = m := by rw [List.length_take]; omega
  have l2 : (ms.take (m + 1)).length = m + 1 := by rw [List.length_take]; omega
  rcases Mp.back_cases (ms.take m) i with ⟨h1, h2⟩ | ⟨q, h1, h2, h3, h4⟩
  · rw [h1]
    refine Mp.back_none (fun q hq => ?_)
    rw [l2] at hq
    rw [Mp.d_take hq] at *
    rcases Nat.lt_succ_iff_lt_or_eq.1 hq with c | rfl
    · have := h2 q (by omega); rw [Mp.d_take c] at this; exact this
    · exact he
  · rw [l1] at h1
    rw [h3]
    rw [Mp.d_take h1] at h2
    rw [Mp.l_take h1, Mp.back_hit (k := q) (by omega) (by rw [Mp.d_take (show q < m + 1 by omega)]; exact h2) (fun r hr => by
      have := h4 r hr; rw [Mp.d_take (show r < m by omega)] at this; rw [Mp.d_take (show r < m + 1 by omega)]; exact this), Mp.l_take (show q < m + 1 by omega)]
theorem Mp.back_new {ms : Tr} {m : Nat} (hm : m < ms.length) (h : ∀ q, q < m → Tr.d ms q ≠ Tr.d ms m) : Mp.back (ms.take m) (Tr.d ms m) = -1 ∧ Mp.back (ms.take (m + 1)) (Tr.d ms m) = Tr.l ms m := by
  have l1 : (ms.take m).length = m := by rw [List.length_take]; omega
  have l2 : (ms.take (m + 1)).length = m + 1 := by rw [List.length_take]; omega
  refine ⟨Mp.back_none (fun q hq => ?_), ?_⟩
  · rw [l1] at hq; rw [Mp.d_take hq]; exact h q hq
  · rw [Mp.back_hit (k := m) (by rw [l2]; omega) (Mp.d_take (Nat.lt_add_one m)) (fun r hr => by rw [Mp.d_take (show r < m + 1 by omega)]; exact h r hr), Mp.l_take (Nat.lt_add_one m)]
def Mp.gx (xs ys : Tr) (k : Co) (ms : Tr) (i : Nat) : Int := if Mp.of ms i < 0 then Co.del k (Tr.l xs i) else Co.rel k (Tr.l xs i) (Tr.l ys (Mp.of ms i).toNat)
def Mp.gy (ys : Tr) (k : Co) (ms : Tr) (j : Nat) : Int := if Mp.back ms j < 0 then Co.ins k (Tr.l ys j) else 0
/-- the cost of a mapping's first m pairs -/
def Mp.part (xs ys : Tr) (k : Co) (ms : Tr) (m : Nat) : Int := Mp.sum (Mp.gx xs ys k (ms.take m)) xs.length + Mp.sum (Mp.gy ys k (ms.take m)) ys.length
def Mp.cost (xs ys : Tr) (k : Co) (ms : Tr) : Int := if Mp.ok xs ys ms && Co.ok k then Mp.part xs ys k ms ms.length else -1
section
variable {xs ys ms : Tr} {k : Co}
theorem Mp.part_zero : Mp.part xs ys k ms 0 = Mp.sum (fun i => Co.del k (Tr.l xs i)) xs.length + Mp.sum (fun j => Co.ins k (Tr.l ys j)) ys.length := by
  unfold Mp.part
  rfl
theorem Mp.part_succ {m a b : Nat} (hm : m < ms.length) (h : Mp.okAt xs ys ms m = true) (ha : Tr.l ms m = (a : Int)) (hb : Tr.d ms m = (b : Int)) :
    Mp.part xs ys k ms (m + 1) = Mp.part xs ys k ms m + (Co.rel k (Tr.l xs a) (Tr.l ys b) - Co.del k (Tr.l xs a) - Co.ins k (Tr.l ys b)) := by
  obtain ⟨h1, h2, h3⟩ := Mp.okAt_parts h
  simp only [Tr.has, Bool.and_eq_true, decide_eq_true_eq] at h1 h2
  have n1 := Mp.of_new hm (fun q hq => by have := (h3 q hq).1; omega)
  have n2 := Mp.back_new hm (fun q hq => by have := (h3 q hq).2.1; omega)
  have e1 : Mp.sum (Mp.gx xs ys k (ms.take (m + 1))) xs.length = Mp.sum (Mp.gx xs ys k (ms.take m)) xs.length + (Mp.gx xs ys k (ms.take (m + 1)) a - Mp.gx xs ys k (ms.take m) a) := by
    refine Mp.sum_change (fun i hi => ?_) (by omega)
    unfold Mp.gx
    rw [Mp.of_skip hm (by omega)]
  have e2 : Mp.sum (Mp.gy ys k (ms.take (m + 1))) ys.length = Mp.sum (Mp.gy ys k (ms.take m)) ys.length + (Mp.gy ys k (ms.take (m + 1)) b - Mp.gy ys k (ms.take m) b) := by
    refine Mp.sum_change (fun i hi => ?_) (by omega)
    unfold Mp.gy
    rw [Mp.back_skip hm (by omega)]
  rw [ha, hb] at n1
  rw [hb, ha] at n2
  have g1 : Mp.gx xs ys k (ms.take m) a = Co.del k (Tr.l xs a) := by unfold Mp.gx; rw [n1.1, if_pos (by omega)]
  have g2 : Mp.gx xs ys k (ms.take (m + 1)) a = Co.rel k (Tr.l xs a) (Tr.l ys b) := by unfold Mp.gx; rw [n1.2, if_neg (by omega)]; rfl
  have g3 : Mp.gy ys k (ms.take m) b = Co.ins k (Tr.l ys b) := by unfold Mp.gy; rw [n2.1, if_pos (by omega)]
  have g4 : Mp.gy ys k (ms.take (m + 1)) b = 0 := by unfold Mp.gy; rw [n2.2, if_neg (by omega)]
  unfold Mp.part
  rw [e1, e2, g1, g2, g3, g4]
  omega
theorem Mp.ok_all (h : Mp.ok xs ys ms = true) : Tr.ok xs = true ∧ Tr.ok ys = true ∧ ∀ q, q < ms.length → Mp.okAt xs ys ms q = true := by
  simp only [Mp.ok, Bool.and_eq_true] at h
  exact ⟨h.1.1, h.1.2, Mp.all_iff.1 h.2⟩
theorem Mp.pair_at {q : Nat} (h : Mp.okAt xs ys ms q = true) : ∃ a b : Nat, a < xs.length ∧ b < ys.length ∧ Tr.l ms q = (a : Int) ∧ Tr.d ms q = (b : Int) := by
  obtain ⟨h1, h2, _⟩ := Mp.okAt_parts h
  simp only [Tr.has, Bool.and_eq_true, decide_eq_true_eq] at h1 h2
  exact ⟨(Tr.l ms q).toNat, (Tr.d ms q).toNat, by omega, by omega, by omega, by omega⟩
theorem Mp.part_all : Mp.part xs ys k ms ms.length = Mp.sum (Mp.gx xs ys k ms) xs.length + Mp.sum (Mp.gy ys k ms) ys.length := by
  unfold Mp.part
  rw [List.take_length]
end

end Go.Proofs.Ytgkkeejhfofcaaa

/- Contracts (Tur). -/
namespace Go.Proofs.Ytgkkeejhfofcaaa
open Go.RowKit
set_option linter.unusedVariables false

/-- the first pair is that of the roots -/
def Tr.rooted (xs : Tr) : Bool := decide (0 < xs.length) && (decide (Tr.l xs 0 = 0) && decide (Tr.d xs 0 = 0))
/-- each pair the other way round -/
def Tr.turn (xs : Tr) : Tr := xs.map (fun q => (q.2, q.1))
theorem Tr.turn_length (xs : Tr) : (Tr.turn xs).length = xs.length := by simp [Tr.turn]
theorem Tr.turn_l (xs : Tr) {k : Nat} (hk : k < xs.length) : Tr.l (Tr.turn xs) k = Tr.d xs k := by simp [Tr.turn, Tr.l, Tr.d, List.getD_eq_getElem?_getD, hk]
theorem Tr.turn_d (xs : Tr) {k : Nat} (hk : k < xs.length) : Tr.d (Tr.turn xs) k = Tr.l xs k := by simp [Tr.turn, Tr.l, Tr.d, List.getD_eq_getElem?_getD, hk]
end Go.Proofs.Ytgkkeejhfofcaaa

/- Contracts (Un). -/
namespace Go.Proofs.Ytgkkeejhfofcaaa
open Go.RowKit
set_option linter.unusedVariables false

/-- is a the first of one of the first k pairs? -/
def Un.has (ms : Tr) (a : Int) : Nat → Bool
  | 0 => false
  | k + 1 => Un.has ms a k || decide (Tr.l ms k = a)
/-- the places below i that are first of no pair -/
def Un.to (ms : Tr) : Nat → List Int
  | 0 => []
  | i + 1 => if Un.has ms (i : Int) ms.length = true then Un.to ms i else Un.to ms i ++ [(i : Int)]
theorem Un.has_up {ms : Tr} {a : Int} {k : Nat} (h : Un.has ms a k = true) : ∀ m, k ≤ m → Un.has ms a m = true := by
  intro m
  induction m with
  | zero => intro hk; obtain rfl : k = 0 := by omega
            exact h
  | succ m ih =>
    intro hk
    by_cases e : k = m + 1
    · rw [← e]; exact h
    · rw [Un.has, ih (by omega)]; rfl
theorem Un.has_hit {ms : Tr} {a : Int} {k m : Nat} (h : Tr.l ms k = a) (hk : k < m) : Un.has ms a m = true := Un.has_up (k := k + 1) (by rw [Un.has, decide_eq_true h, Bool.or_true]) m (by omega)
theorem Un.has_iff {ms : Tr} {a : Int} : ∀ k, Un.has ms a k = true ↔ ∃ q, q < k ∧ Tr.l ms q = a := by
  intro k
  constructor
  · induction k with
    | zero => intro h; exact absurd h (by simp [Un.has])
    | succ k ih =>
      intro h
      rw [Un.has, Bool.or_eq_true] at h
      rcases h with h | h
      · obtain ⟨q, h1, h2⟩ := ih h; exact ⟨q, by omega, h2⟩
      · exact ⟨k, by omega, of_decide_eq_true h⟩
  · rintro ⟨q, h1, h2⟩; exact Un.has_hit h2 h1
theorem Un.to_yes {ms : Tr} {i : Nat} (h : Un.has ms (i : Int) ms.length = true) : Un.to ms (i + 1) = Un.to ms i := by rw [Un.to, if_pos h]
theorem Un.to_no {ms : Tr} {i : Nat} (h : Un.has ms (i : Int) ms.length = false) : Un.to ms (i + 1) = Un.to ms i ++ [(i : Int)] := by rw [Un.to, if_neg (by rw [h]; decide)]
end Go.Proofs.Ytgkkeejhfofcaaa
