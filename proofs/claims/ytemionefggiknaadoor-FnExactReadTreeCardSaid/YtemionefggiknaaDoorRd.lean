/- Contracts (Rd). -/
import Derived.Test.YtemionefggiknaaDoorTxt
import Derived.Test.YtemionefggiknaaDoorLab
namespace Go.Proofs.YtemionefggiknaaDoor
open Go.RowKit
set_option linter.unusedVariables false

/-- a word that is done: the node that it names -/
def Rd.flush (p : Tr × Int × ByteArray) : Tr := if p.2.2.toList.isEmpty = true then p.1 else p.1 ++ [(Lab.of p.2.2, p.2.1)]
/-- what is read of the first k bytes: the nodes, the depth, the word under way -/
def Rd.st (s : ByteArray) : Nat → Tr × Int × ByteArray
  | 0 => ([], 0, ⟨#[]⟩)
  | k + 1 =>
    if (s.data.toList.getD k 0).toNat ≠ 40 ∧ (s.data.toList.getD k 0).toNat ≠ 41 ∧ (s.data.toList.getD k 0).toNat ≠ 32 then ((Rd.st s k).1, (Rd.st s k).2.1, (Rd.st s k).2.2 ++ s.extract k (k + 1))
    else (Rd.flush (Rd.st s k), (Rd.st s k).2.1 + (if (s.data.toList.getD k 0).toNat = 40 then 1 else if (s.data.toList.getD k 0).toNat = 41 then -1 else 0), ⟨#[]⟩)
def Rd.parse (s : ByteArray) : Tr := Rd.flush (Rd.st s s.size)
def Rd.read (s : ByteArray) : Tr × Bool := if Tr.ok (Rd.parse s) = true ∧ Tr.txt (Rd.parse s) = s then (Rd.parse s, true) else ([], false)
section
variable {s : ByteArray} {k : Nat} {X : Tr} {d : Int} {wd : ByteArray}
theorem Rd.st_word (h : Rd.st s k = (X, d, wd)) (hk : k < s.size) (h1 : s[k].toNat ≠ 40) (h2 : s[k].toNat ≠ 41) (h3 : s[k].toNat ≠ 32) : Rd.st s (k + 1) = (X, d, wd ++ s.extract k (k + 1)) := by
  have e : s.data.toList.getD k 0 = s[k] := by simp [List.getD_eq_getElem?_getD, hk]; rfl
  unfold Rd.st
  rw [h, e, if_pos ⟨h1, h2, h3⟩]
theorem Rd.st_open (h : Rd.st s k = (X, d, wd)) (hk : k < s.size) (h1 : s[k].toNat = 40) : Rd.st s (k + 1) = (Rd.flush (X, d, wd), d + 1, ⟨#[]⟩) := by
  have e : s.data.toList.getD k 0 = s[k] := by simp [List.getD_eq_getElem?_getD, hk]; rfl
  unfold Rd.st
  rw [h, e, if_neg (by omega), if_pos h1]
theorem Rd.st_close (h : Rd.st s k = (X, d, wd)) (hk : k < s.size) (h1 : s[k].toNat = 41) : Rd.st s (k + 1) = (Rd.flush (X, d, wd), d - 1, ⟨#[]⟩) := by
  have e : s.data.toList.getD k 0 = s[k] := by simp [List.getD_eq_getElem?_getD, hk]; rfl
  unfold Rd.st
  rw [h, e, if_neg (by omega), if_neg (by omega), if_pos h1]
  rfl
theorem Rd.st_blank (h : Rd.st s k = (X, d, wd)) (hk : k < s.size) (h1 : s[k].toNat = 32) : Rd.st s (k + 1) = (Rd.flush (X, d, wd), d, ⟨#[]⟩) := by
  have e : s.data.toList.getD k 0 = s[k] := by simp [List.getD_eq_getElem?_getD, hk]; rfl
  unfold Rd.st
  rw [h, e, if_neg (by omega), if_neg (by omega), if_neg (by omega)]
  simp
theorem Rd.flush_no (h : wd.toList.isEmpty = true) : Rd.flush (X, d, wd) = X := if_pos h
theorem Rd.flush_yes (h : wd.toList.isEmpty = false) : Rd.flush (X, d, wd) = X ++ [(Lab.of wd, d)] := if_neg (by simp [h])
theorem Rd.flush_len : (Rd.flush (X, d, wd)).length ≤ X.length + wd.size := by
  unfold Rd.flush
  split
  · simp
  · rename_i h
    have : wd.size ≠ 0 := by
      intro e
      apply h
      have := ByteArray.size_eq_zero_iff.1 e
      rw [this]
      show ByteArray.empty.toList.isEmpty = true
      rw [ByteArray.toList_eq]; rfl
    simp; omega
end
theorem Rd.st_bd (s : ByteArray) (k : Nat) (hk : k ≤ s.size) : (Rd.st s k).1.length + (Rd.st s k).2.2.size ≤ k ∧ -(k : Int) ≤ (Rd.st s k).2.1 ∧ (Rd.st s k).2.1 ≤ k := by
  induction k with
  | zero => exact ⟨Nat.le_refl _, by simp [Rd.st], by simp [Rd.st]⟩
  | succ k ih =>
    have ih := ih (by omega)
    have hlt : k < s.size := by omega
    rcases hst : Rd.st s k with ⟨X, d, wd⟩
    rw [hst] at ih
    have hf := Rd.flush_len (X := X) (d := d) (wd := wd)
    simp only at ih
    by_cases h1 : s[k].toNat = 40
    · rw [Rd.st_open hst hlt h1]
      show (Rd.flush (X, d, wd)).length + 0 ≤ _ ∧ _
      simp only
      omega
    · by_cases h2 : s[k].toNat = 41
      · rw [Rd.st_close hst hlt h2]
        show (Rd.flush (X, d, wd)).length + 0 ≤ _ ∧ _
        simp only
        omega
      · by_cases h3 : s[k].toNat = 32
        · rw [Rd.st_blank hst hlt h3]
          show (Rd.flush (X, d, wd)).length + 0 ≤ _ ∧ _
          simp only
          omega
        · rw [Rd.st_word hst hlt h1 h2 h3]
          simp only [ByteArray.size_append, ByteArray.size_extract]
          omega
theorem Rd.parse_len (s : ByteArray) : (Rd.parse s).length ≤ s.size := by
  have h := Rd.st_bd s s.size (Nat.le_refl _)
  unfold Rd.parse
  rcases hst : Rd.st s s.size with ⟨X, d, wd⟩
  rw [hst] at h
  have hf := Rd.flush_len (X := X) (d := d) (wd := wd)
  simp only at h
  omega
theorem Rd.read_len (s : ByteArray) : (Rd.read s).1.length ≤ s.size := by
  unfold Rd.read
  split
  · exact Rd.parse_len s
  · simp
theorem Rd.read_no1 {s : ByteArray} {X : Tr} (h : Rd.parse s = X) (h1 : Tr.ok X = false) : Rd.read s = ([], false) := by unfold Rd.read; rw [h, if_neg (by simp [h1])]
theorem Rd.read_no2 {s : ByteArray} {X : Tr} (h : Rd.parse s = X) (h1 : ¬ Tr.txt X = s) : Rd.read s = ([], false) := by unfold Rd.read; rw [h, if_neg (fun e => h1 e.2)]
theorem Rd.read_yes {s : ByteArray} {X : Tr} (h : Rd.parse s = X) (h1 : Tr.ok X = true) (h2 : Tr.txt X = s) : Rd.read s = (X, true) := by unfold Rd.read; rw [h, if_pos ⟨h1, h2⟩]

end Go.Proofs.YtemionefggiknaaDoor
