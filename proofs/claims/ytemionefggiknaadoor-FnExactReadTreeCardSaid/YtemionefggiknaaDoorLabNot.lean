/- Plain mathematics of chapter 2: a search of the names. -/
import Derived.Test.YtemionefggiknaaDoorLab
namespace Go.Proofs.YtemionefggiknaaDoor
set_option linter.unusedVariables false

/-- no name ahead of k is s -/
def Lab.NotBefore (s : ByteArray) (k : Nat) : Prop := ∀ j : Nat, j < k → Lab.name j ≠ s
theorem Lab.NotBefore.next {s : ByteArray} {k : Nat} (h : Lab.NotBefore s k) (hk : Lab.name k ≠ s) : Lab.NotBefore s (k + 1) := fun j hj => by
  rcases Nat.lt_or_ge j k with h' | h'
  · exact h j h'
  · obtain rfl : j = k := by omega
    exact hk

end Go.Proofs.YtemionefggiknaaDoor
