/- Contracts (Tur). -/
import Derived.Test.YtlndaflhlkbedaaTr
namespace Go.Proofs.Ytlndaflhlkbedaa
open Go.RowKit
set_option linter.unusedVariables false

/-- the first pair is that of the roots -/
def Tr.rooted (xs : Tr) : Bool := decide (0 < xs.length) && (decide (Tr.l xs 0 = 0) && decide (Tr.d xs 0 = 0))
/-- each pair the other way round -/
def Tr.turn (xs : Tr) : Tr := xs.map (fun q => (q.2, q.1))
theorem Tr.turn_length (xs : Tr) : (Tr.turn xs).length = xs.length := by simp [Tr.turn]
theorem Tr.turn_l (xs : Tr) {k : Nat} (hk : k < xs.length) : Tr.l (Tr.turn xs) k = Tr.d xs k := by simp [Tr.turn, Tr.l, Tr.d, List.getD_eq_getElem?_getD, hk]
theorem Tr.turn_d (xs : Tr) {k : Nat} (hk : k < xs.length) : Tr.d (Tr.turn xs) k = Tr.l xs k := by simp [Tr.turn, Tr.l, Tr.d, List.getD_eq_getElem?_getD, hk]
def Tr.turnTo (xs : Tr) (k : Nat) : Tr := (Tr.turn xs).take k
theorem Tr.turnTo_length (xs : Tr) {k : Nat} (hk : k ≤ xs.length) : (Tr.turnTo xs k).length = k := by simp [Tr.turnTo, Tr.turn]; omega
theorem Tr.turnTo_succ (xs : Tr) {k : Nat} (hk : k < xs.length) : Tr.turnTo xs (k + 1) = Tr.turnTo xs k ++ [(Tr.d xs k, Tr.l xs k)] := by
  unfold Tr.turnTo
  rw [List.take_succ_eq_append_getElem (by rw [Tr.turn_length]; exact hk)]
  congr 1
  simp [Tr.turn, Tr.l, Tr.d, List.getD_eq_getElem?_getD, hk]
theorem Tr.turnTo_all (xs : Tr) : Tr.turnTo xs xs.length = Tr.turn xs := by unfold Tr.turnTo; rw [← Tr.turn_length, List.take_length]

end Go.Proofs.Ytlndaflhlkbedaa
