/- Contracts (Un). -/
import Derived.Test.YtlndaflhlkbedaaTur
import Derived.Test.YtlndaflhlkbedaaMem
namespace Go.Proofs.Ytlndaflhlkbedaa
open Go.RowKit
set_option linter.unusedVariables false

/-- is a the first of one of the first k pairs? -/
def Un.has (ms : Tr) (a : Int) : Nat → Bool
  | 0 => false
  | k + 1 => Un.has ms a k || decide (Tr.l ms k = a)
/-- the places below i that are first of no pair -/
def Un.to (ms : Tr) : Nat → List Int
  | 0 => []
  | i + 1 => if Un.has ms (i : Int) ms.length = true then Un.to ms i else Un.to ms i ++ [(i : Int)]
theorem Un.has_up {ms : Tr} {a : Int} {k : Nat} (h : Un.has ms a k = true) : ∀ m, k ≤ m → Un.has ms a m = true := by
  intro m
  induction m with
  | zero => intro hk; obtain rfl : k = 0 := by omega
            exact h
  | succ m ih =>
    intro hk
    by_cases e : k = m + 1
    · rw [← e]; exact h
    · rw [Un.has, ih (by omega)]; rfl
theorem Un.has_hit {ms : Tr} {a : Int} {k m : Nat} (h : Tr.l ms k = a) (hk : k < m) : Un.has ms a m = true := Un.has_up (k := k + 1) (by rw [Un.has, decide_eq_true h, Bool.or_true]) m (by omega)
theorem Un.has_next {ms : Tr} {a : Int} {k : Nat} (h : Un.has ms a k = false) (hne : ¬ Tr.l ms k = a) : Un.has ms a (k + 1) = false := by rw [Un.has, h, decide_eq_false hne]; rfl
theorem Un.has_iff {ms : Tr} {a : Int} : ∀ k, Un.has ms a k = true ↔ ∃ q, q < k ∧ Tr.l ms q = a := by
  intro k
  constructor
  · induction k with
    | zero => intro h; exact absurd h (by simp [Un.has])
    | succ k ih =>
      intro h
      rw [Un.has, Bool.or_eq_true] at h
      rcases h with h | h
      · obtain ⟨q, h1, h2⟩ := ih h; exact ⟨q, by omega, h2⟩
      · exact ⟨k, by omega, of_decide_eq_true h⟩
  · rintro ⟨q, h1, h2⟩; exact Un.has_hit h2 h1
theorem Un.to_len (ms : Tr) : ∀ i, (Un.to ms i).length ≤ i
  | 0 => Nat.le_refl _
  | i + 1 => by
    have h := Un.to_len ms i
    unfold Un.to
    split
    · omega
    · rw [List.length_append, List.length_singleton]; omega
theorem Un.to_yes {ms : Tr} {i : Nat} (h : Un.has ms (i : Int) ms.length = true) : Un.to ms (i + 1) = Un.to ms i := by rw [Un.to, if_pos h]
theorem Un.to_no {ms : Tr} {i : Nat} (h : Un.has ms (i : Int) ms.length = false) : Un.to ms (i + 1) = Un.to ms i ++ [(i : Int)] := by rw [Un.to, if_neg (by rw [h]; decide)]
theorem Un.to_bound (ms : Tr) (i : Nat) (hi : i ≤ 1048576) : (Un.to ms i).length ≤ 1048576 := Nat.le_trans (Un.to_len ms i) hi
/-- a row of bools -/
def bools (f : Nat → Bool) (n : Nat) : List Value := (List.range n).map fun j => Value.bool (f j)
theorem bools_length (f : Nat → Bool) (n : Nat) : (bools f n).length = n := by simp [bools]
theorem bools_at (f : Nat → Bool) {n j : Nat} (h : j < n) : (bools f n)[j]? = some (.bool (f j)) := by simp [bools, h]
theorem bools_congr {f g : Nat → Bool} {n : Nat} (h : ∀ j, j < n → f j = g j) : bools f n = bools g n := List.map_congr_left fun j hj => by rw [h j (List.mem_range.1 hj)]
theorem bools_set (f : Nat → Bool) {n t : Nat} (h : t < n) : (bools f n).set t (.bool true) = bools (fun j => f j || decide (t = j)) n := by
  apply List.ext_getElem?
  intro j
  rw [List.getElem?_set, bools_length]
  by_cases e : t = j
  · subst e; rw [if_pos rfl, if_pos h, bools_at _ h]; simp
  · rw [if_neg e]
    by_cases hj : j < n
    · rw [bools_at _ hj, bools_at _ hj]; simp [e]
    · rw [List.getElem?_eq_none (by rw [bools_length]; omega), List.getElem?_eq_none (by rw [bools_length]; omega)]

end Go.Proofs.Ytlndaflhlkbedaa
