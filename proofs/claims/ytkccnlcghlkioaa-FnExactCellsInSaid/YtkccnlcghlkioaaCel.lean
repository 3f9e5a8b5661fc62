/- Contracts (Cel). -/
import Derived.Test.YtkccnlcghlkioaaDst
namespace Go.Proofs.Ytkccnlcghlkioaa
open Go.RowKit
set_option linter.unusedVariables false

/-! How many cells the tables of all pairs of key roots have. -/
def Tr.kz (xs : Tr) (a : Nat) : Int := (Tr.kr xs a : Int) - (Tr.la xs (Tr.kr xs a) : Int) + 1
def Tr.keyTo (xs : Tr) : Nat → Int
  | 0 => 0
  | j + 1 => Tr.keyTo xs j + Tr.kz xs j
def Tr.keySz (xs : Tr) : Int := Tr.keyTo xs (Tr.krs xs).length
def Tr.cells8 (xs ys : Tr) : Int := Tr.keySz xs * Tr.keySz ys
theorem Tr.krs_no {xs : Tr} (h : Tr.ok xs = false) : Tr.krs xs = [] := by
  have e : Tr.post xs = [] := by unfold Tr.post; rw [h]; rfl
  unfold Tr.krs Tr.krTo Tr.lfs
  rw [e]
  rfl
theorem Tr.lfs_no {xs : Tr} (h : Tr.ok xs = false) : Tr.lfs xs = [] := by
  have e : Tr.post xs = [] := by unfold Tr.post; rw [h]; rfl
  unfold Tr.lfs
  rw [e]
  rfl
theorem Tr.keySz_no {xs : Tr} (h : Tr.ok xs = false) : Tr.keySz xs = 0 := by
  unfold Tr.keySz
  rw [Tr.krs_no h]
  rfl
theorem Tr.krs_le {xs : Tr} (h : Tr.ok xs = true) : (Tr.krs xs).length ≤ xs.length := by
  have h1 := Tr.krTo_le xs (Tr.lfs xs).length
  have h2 := Tr.lfs_len h
  unfold Tr.krs
  omega
theorem Tr.kz_bound {xs : Tr} (h : Tr.ok xs = true) {a : Nat} (ha : a < (Tr.krs xs).length) : 1 ≤ Tr.kz xs a ∧ Tr.kz xs a ≤ xs.length := by
  have h1 := Tr.krs_lt h (Tr.kr_mem ha)
  have h2 := (Tr.la_nest h _ h1).1
  unfold Tr.kz
  omega
theorem Tr.keyTo_bound {xs : Tr} (h : Tr.ok xs = true) : ∀ j, j ≤ (Tr.krs xs).length → 0 ≤ Tr.keyTo xs j ∧ Tr.keyTo xs j ≤ 24 * (j : Int) := by
  intro j
  induction j with
  | zero => intro _; simp [Tr.keyTo]
  | succ j ih =>
    intro hj
    have h1 := ih (by omega)
    have h2 := Tr.kz_bound h (a := j) (by omega)
    have h3 := (Tr.len24 h).2
    simp only [Tr.keyTo]
    omega
theorem Tr.keySz_bound (xs : Tr) : 0 ≤ Tr.keySz xs ∧ Tr.keySz xs ≤ 576 := by
  cases h : Tr.ok xs with
  | false => rw [Tr.keySz_no h]; omega
  | true =>
    have h1 := Tr.keyTo_bound h _ (Nat.le_refl _)
    have h2 := Tr.krs_le h
    have h3 := (Tr.len24 h).2
    unfold Tr.keySz
    omega

end Go.Proofs.Ytkccnlcghlkioaa
