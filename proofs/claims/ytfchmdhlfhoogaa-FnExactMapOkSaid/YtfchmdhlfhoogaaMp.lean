/- Contracts (Mp). -/
import Derived.Test.YtfchmdhlfhoogaaTr
import Derived.Test.YtfchmdhlfhoogaaPst2
namespace Go.Proofs.Ytfchmdhlfhoogaa
open Go.RowKit
set_option linter.unusedVariables false

/-- pair k can stand ahead of (a, b) -/
def Mp.at (xs ys ms : Tr) (a b : Int) (k : Nat) : Bool := decide (Tr.l ms k < a) && decide (Tr.d ms k < b) && (Tr.under xs (Tr.l ms k) a == Tr.under ys (Tr.d ms k) b)
def Mp.after (xs ys ms : Tr) (n : Nat) (a b : Int) : Bool := (List.range n).all (Mp.at xs ys ms a b)
def Mp.okAt (xs ys ms : Tr) (i : Nat) : Bool := Tr.has xs (Tr.l ms i) && Tr.has ys (Tr.d ms i) && Mp.after xs ys ms i (Tr.l ms i) (Tr.d ms i)
/-- a valid mapping -/
def Mp.ok (xs ys ms : Tr) : Bool := Tr.ok xs && Tr.ok ys && (List.range ms.length).all (Mp.okAt xs ys ms)
section
variable {xs ys ms : Tr} {a b : Int} {n i k : Nat}
theorem Mp.after_iff : Mp.after xs ys ms n a b = true ↔ ∀ k, k < n → Mp.at xs ys ms a b k = true := by
  unfold Mp.after
  rw [List.all_eq_true]
  exact ⟨fun h k hk => h k (List.mem_range.2 hk), fun h k hk => h k (List.mem_range.1 hk)⟩
theorem Mp.after_no (hk : k < n) (h : Mp.at xs ys ms a b k = false) : Mp.after xs ys ms n a b = false := by
  cases e : Mp.after xs ys ms n a b with
  | false => rfl
  | true => rw [Mp.after_iff.1 e k hk] at h; cases h
theorem Mp.all_iff : (List.range ms.length).all (Mp.okAt xs ys ms) = true ↔ ∀ k, k < ms.length → Mp.okAt xs ys ms k = true := by
  rw [List.all_eq_true]
  exact ⟨fun h k hk => h k (List.mem_range.2 hk), fun h k hk => h k (List.mem_range.1 hk)⟩
theorem Mp.ok_no (hk : k < ms.length) (h : Mp.okAt xs ys ms k = false) : Mp.ok xs ys ms = false := by
  cases e : Mp.ok xs ys ms with
  | false => rfl
  | true =>
    simp only [Mp.ok, Bool.and_eq_true] at e
    rw [Mp.all_iff.1 e.2 k hk] at h; cases h
theorem Mp.ok_yes (h : ∀ k, k < ms.length → Mp.okAt xs ys ms k = true) : Mp.ok xs ys ms = (Tr.ok xs && Tr.ok ys) := by
  unfold Mp.ok
  rw [Mp.all_iff.2 h, Bool.and_true]
theorem Mp.no_a (h : Tr.has xs (Tr.l ms i) = false) : Mp.okAt xs ys ms i = false := by unfold Mp.okAt; rw [h]; rfl
theorem Mp.no_b (h : Tr.has ys (Tr.d ms i) = false) : Mp.okAt xs ys ms i = false := by unfold Mp.okAt; rw [h, Bool.and_false]; rfl
theorem Mp.no_c (hk : k < i) (h : Mp.at xs ys ms (Tr.l ms i) (Tr.d ms i) k = false) : Mp.okAt xs ys ms i = false := by unfold Mp.okAt; rw [Mp.after_no hk h, Bool.and_false]
theorem Mp.at_l (h : ¬ Tr.l ms k < a) : Mp.at xs ys ms a b k = false := by unfold Mp.at; rw [decide_eq_false h]; rfl
theorem Mp.at_d (h : ¬ Tr.d ms k < b) : Mp.at xs ys ms a b k = false := by unfold Mp.at; rw [decide_eq_false h, Bool.and_false]; rfl
theorem Mp.at_u (h : Tr.under xs (Tr.l ms k) a ≠ Tr.under ys (Tr.d ms k) b) : Mp.at xs ys ms a b k = false := by
  unfold Mp.at
  rw [show (Tr.under xs (Tr.l ms k) a == Tr.under ys (Tr.d ms k) b) = false by simpa using h, Bool.and_false]
theorem Mp.at_yes (h1 : Tr.l ms k < a) (h2 : Tr.d ms k < b) (h3 : Tr.under xs (Tr.l ms k) a = Tr.under ys (Tr.d ms k) b) : Mp.at xs ys ms a b k = true := by
  unfold Mp.at
  rw [decide_eq_true h1, decide_eq_true h2, h3]
  simp
theorem Mp.okAt_yes (h1 : Tr.has xs (Tr.l ms i) = true) (h2 : Tr.has ys (Tr.d ms i) = true) (h : ∀ k, k < i → Mp.at xs ys ms (Tr.l ms i) (Tr.d ms i) k = true) : Mp.okAt xs ys ms i = true := by
  unfold Mp.okAt
  rw [h1, h2, Mp.after_iff.2 h]
  rfl
theorem Mp.okAt_parts (h : Mp.okAt xs ys ms i = true) : Tr.has xs (Tr.l ms i) = true ∧ Tr.has ys (Tr.d ms i) = true ∧ ∀ k, k < i → Tr.l ms k < Tr.l ms i ∧ Tr.d ms k < Tr.d ms i ∧ Tr.under xs (Tr.l ms k) (Tr.l ms i) = Tr.under ys (Tr.d ms k) (Tr.d ms i) := by
  simp only [Mp.okAt, Bool.and_eq_true] at h
  refine ⟨h.1.1, h.1.2, fun k hk => ?_⟩
  have := Mp.after_iff.1 h.2 k hk
  simp only [Mp.at, Bool.and_eq_true, decide_eq_true_eq, beq_iff_eq] at this
  exact ⟨this.1.1, this.1.2, this.2⟩
/-- all earlier ones lie below, if the last one does -/
theorem Mp.chain (h : ∀ q, q < i → Mp.okAt xs ys ms q = true) (hi : 0 < i → Tr.l ms (i - 1) < Tr.l ms i) (hk : k < i) : Tr.l ms k < Tr.l ms i := by
  have h0 := hi (by omega)
  by_cases e : k = i - 1
  · rw [e]; exact h0
  · have := ((Mp.okAt_parts (h (i - 1) (by omega))).2.2 k (by omega)).1
    omega
theorem Mp.at_take (hk : k < i) : Mp.at xs ys (ms.take i) a b k = Mp.at xs ys ms a b k := by
  have e : (ms.take i).getD k (0, 0) = ms.getD k (0, 0) := by simp [List.getD_eq_getElem?_getD, hk]
  unfold Mp.at Tr.l Tr.d
  rw [e]
theorem Mp.after_take : Mp.after xs ys (ms.take i) i a b = Mp.after xs ys ms i a b := by
  rw [Bool.eq_iff_iff, Mp.after_iff, Mp.after_iff]
  exact ⟨fun h k hk => (Mp.at_take hk).symm.trans (h k hk), fun h k hk => (Mp.at_take hk).trans (h k hk)⟩
end

end Go.Proofs.Ytfchmdhlfhoogaa
