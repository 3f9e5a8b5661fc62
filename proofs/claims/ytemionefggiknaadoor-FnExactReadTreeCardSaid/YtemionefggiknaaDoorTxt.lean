/- Contracts (Txt). -/
import Derived.Test.YtemionefggiknaaDoorTr
import Derived.Test.YtemionefggiknaaDoorKit
namespace Go.Proofs.YtemionefggiknaaDoor
open Go.RowKit
set_option linter.unusedVariables false

/-- n closing brackets -/
def Txt.close : Nat → ByteArray
  | 0 => ⟨#[]⟩
  | n + 1 => Txt.close n ++ ⟨#[41]⟩
theorem Txt.close_size (n : Nat) : (Txt.close n).size = n := by
  induction n with
  | zero => rfl
  | succ n ih => simp only [Txt.close, ByteArray.size_append, ih]; rfl
/-- the text up to node k, without the brackets behind it -/
def Tr.txtTo (xs : Tr) : Nat → ByteArray
  | 0 => ⟨#[]⟩
  | k + 1 => (if k = 0 then Tr.txtTo xs k else Tr.txtTo xs k ++ Txt.close (Tr.d xs (k - 1) - Tr.d xs k).toNat ++ (if Tr.d xs (k - 1) < Tr.d xs k then ⟨#[40]⟩ else ⟨#[32]⟩)) ++ Lab.name (Tr.l xs k)
def Tr.txt (xs : Tr) : ByteArray := if Tr.ok xs then Tr.txtTo xs xs.length ++ Txt.close (Tr.d xs (xs.length - 1)).toNat else ⟨#[]⟩
theorem Lab.name_size (n : Int) : (Lab.name n).size ≤ 3 := by
  by_cases h : 0 ≤ n ∧ n ≤ 5
  · have : n = 0 ∨ n = 1 ∨ n = 2 ∨ n = 3 ∨ n = 4 ∨ n = 5 := by omega
    rcases this with rfl | rfl | rfl | rfl | rfl | rfl <;> decide
  · rw [Lab.name_no h]; decide
theorem Tr.txtTo_size {xs : Tr} (h : ∀ j, j < xs.length → 0 ≤ Tr.d xs j ∧ Tr.d xs j ≤ 12) (k : Nat) (hk : k ≤ xs.length) : (Tr.txtTo xs k).size ≤ 16 * k := by
  induction k with
  | zero => exact Nat.le_refl _
  | succ k ih =>
    have ih := ih (by omega)
    have hn := Lab.name_size (Tr.l xs k)
    unfold Tr.txtTo
    by_cases h0 : k = 0
    · rw [if_pos h0, ByteArray.size_append]
      omega
    · have h1 := h (k - 1) (by omega)
      have h2 := h k (by omega)
      have hs : (if Tr.d xs (k - 1) < Tr.d xs k then (⟨#[40]⟩ : ByteArray) else ⟨#[32]⟩).size = 1 := by split <;> rfl
      rw [if_neg h0, ByteArray.size_append, ByteArray.size_append, ByteArray.size_append, Txt.close_size, hs]
      omega
theorem Tr.txtTo_first {xs : Tr} {k : Nat} (h : k = 0) : Tr.txtTo xs (k + 1) = Tr.txtTo xs k ++ Lab.name (Tr.l xs k) := by subst h; rfl
theorem Txt.nil (b : ByteArray) : b ++ Txt.close 0 = b := by show b ++ ByteArray.empty = b; simp
theorem Txt.snoc (b : ByteArray) (n : Nat) : b ++ Txt.close n ++ ⟨#[41]⟩ = b ++ Txt.close (n + 1) := by simp only [Txt.close, ByteArray.append_assoc]
theorem Tr.txtTo_down {xs : Tr} {k : Nat} (h0 : 0 < k) (h : Tr.d xs (k - 1) < Tr.d xs k) : Tr.txtTo xs (k + 1) = Tr.txtTo xs k ++ Txt.close (Tr.d xs (k - 1) - Tr.d xs k).toNat ++ ⟨#[40]⟩ ++ Lab.name (Tr.l xs k) := by
  show (if k = 0 then Tr.txtTo xs k else _) ++ _ = _
  rw [if_neg (by omega), if_pos h]
theorem Tr.txtTo_on {xs : Tr} {k : Nat} (h0 : 0 < k) (h : ¬ Tr.d xs (k - 1) < Tr.d xs k) : Tr.txtTo xs (k + 1) = Tr.txtTo xs k ++ Txt.close (Tr.d xs (k - 1) - Tr.d xs k).toNat ++ ⟨#[32]⟩ ++ Lab.name (Tr.l xs k) := by
  show (if k = 0 then Tr.txtTo xs k else _) ++ _ = _
  rw [if_neg (by omega), if_neg h]
theorem Tr.txt_no {xs : Tr} (h : Tr.ok xs = false) : Tr.txt xs = ⟨#[]⟩ := by unfold Tr.txt; rw [h]; rfl
theorem Tr.txt_yes {xs : Tr} (h : Tr.ok xs = true) : Tr.txt xs = Tr.txtTo xs xs.length ++ Txt.close (Tr.d xs (xs.length - 1)).toNat := by unfold Tr.txt; rw [h]; rfl
theorem Tr.txt_size (xs : Tr) : (Tr.txt xs).size ≤ 400 := by
  rcases h : Tr.ok xs with _ | _
  · rw [Tr.txt_no h]; decide
  · have hk := Tr.ok_iff.1 h
    have h1 := Tr.txtTo_size (xs := xs) (fun j hj => (Tr.ok_at h hj).2.1) xs.length (Nat.le_refl _)
    have h2 := (Tr.ok_at h (k := xs.length - 1) (by omega)).2.1
    rw [Tr.txt_yes h, ByteArray.size_append, Txt.close_size]
    omega

end Go.Proofs.YtemionefggiknaaDoor
