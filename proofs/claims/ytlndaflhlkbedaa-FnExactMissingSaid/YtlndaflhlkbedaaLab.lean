/- Plain mathematics of chapter 2: the names of the labels. -/
import Derived.Test.YtlndaflhlkbedaaKit
namespace Go.Proofs.Ytlndaflhlkbedaa
open Go.RowKit
set_option linter.unusedVariables false

/-- the six names -/
def Lab.names : List ByteArray := [⟨#[100, 105, 118]⟩, ⟨#[112]⟩, ⟨#[97]⟩, ⟨#[117, 108]⟩, ⟨#[108, 105]⟩, ⟨#[98]⟩]

def Lab.ok (n : Int) : Bool := decide (0 ≤ n ∧ n ≤ 5)

/-- the name of label n; empty if n is no label -/
def Lab.name (n : Int) : ByteArray := if Lab.ok n then Lab.names.getD n.toNat ⟨#[]⟩ else ⟨#[]⟩

theorem Lab.name_no {n : Int} (h : ¬ (0 ≤ n ∧ n ≤ 5)) : Lab.name n = ⟨#[]⟩ := by simp [Lab.name, Lab.ok, h]

/-- the label of that name, or -1 -/
def Lab.of (s : ByteArray) : Int :=
  if s = Lab.name 0 then 0 else if s = Lab.name 1 then 1 else if s = Lab.name 2 then 2 else if s = Lab.name 3 then 3 else if s = Lab.name 4 then 4 else if s = Lab.name 5 then 5 else -1

theorem Lab.of_none {s : ByteArray} (h : ∀ j : Nat, j < 6 → Lab.name j ≠ s) : Lab.of s = -1 := by
  have e (j : Nat) (hj : j < 6) : ¬ s = Lab.name j := fun e => h j hj e.symm
  have e0 : ¬ s = Lab.name 0 := e 0 (by omega)
  have e1 : ¬ s = Lab.name 1 := e 1 (by omega)
  have e2 : ¬ s = Lab.name 2 := e 2 (by omega)
  have e3 : ¬ s = Lab.name 3 := e 3 (by omega)
  have e4 : ¬ s = Lab.name 4 := e 4 (by omega)
  have e5 : ¬ s = Lab.name 5 := e 5 (by omega)
  unfold Lab.of
  rw [if_neg e0, if_neg e1, if_neg e2, if_neg e3, if_neg e4, if_neg e5]

theorem Lab.of_name (j : Nat) (hj : j < 6) : Lab.of (Lab.name j) = j := by
  have h : j = 0 ∨ j = 1 ∨ j = 2 ∨ j = 3 ∨ j = 4 ∨ j = 5 := by omega
  rcases h with rfl | rfl | rfl | rfl | rfl | rfl <;> decide

end Go.Proofs.Ytlndaflhlkbedaa
