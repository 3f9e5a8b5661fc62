/- Contracts (Txt2). -/
import Derived.Test.YtemionefggiknaaDoorTxt
import Derived.Test.YtemionefggiknaaDoorRd
import Derived.Lib.Repeat
import Derived.Lib.MapLaws
import Derived.Laws.RangeAny
namespace Go.Proofs.YtemionefggiknaaDoor
open Go.RowKit
set_option linter.unusedVariables false

/-- copies of a closing bracket -/
theorem Txt.close_rep (n : Nat) : (⟨(Lib.repeatL [41] n).toArray⟩ : ByteArray) = Txt.close n := by
  induction n with
  | zero => rfl
  | succ n ih =>
    rw [Lib.repeatL_add, Lib.repeatL_one, Txt.close, ← ih, ← ByteArray.mk_append_mk]

theorem Rd.get_byte (s : ByteArray) (p : Nat) (h : p < s.size) : s.get! p = s[p] := by
  have := get_at s p h
  simpa using this
/-- the bytes of a rune that is no ASCII are no ASCII -/
theorem Rd.rune_bytes (s : ByteArray) (p : Nat) (hp : p < s.size) (ha : 128 ≤ s[p].toNat) :
    1 ≤ (Utf8.decode s p).2 ∧ p + (Utf8.decode s p).2 ≤ s.size ∧ ∀ j (hj : j < s.size), p ≤ j → j < p + (Utf8.decode s p).2 → 128 ≤ s[j].toNat := by
  have g0 := Rd.get_byte s p hp
  rw [← g0] at ha
  have one : (h : (Utf8.decode s p).2 = 1) → 1 ≤ (Utf8.decode s p).2 ∧ p + (Utf8.decode s p).2 ≤ s.size ∧ ∀ j (hj : j < s.size), p ≤ j → j < p + (Utf8.decode s p).2 → 128 ≤ s[j].toNat := by
    intro h
    refine ⟨by omega, by omega, fun j hj h1 h2 => ?_⟩
    rw [h] at h2
    obtain rfl : j = p := by omega
    rw [← Rd.get_byte s j hj]; exact ha
  have e0 := Lib.decode_at s p
  rcases Lib.decodeN_shape (s.size - p) (s.get! p).toNat (s.get! (p + 1)).toNat (s.get! (p + 2)).toNat (s.get! (p + 3)).toNat with ⟨c, e⟩ | ⟨c1, c2, c3, _, e⟩ | ⟨c1, c2, c3, c4, _, _, e⟩ | ⟨c1, c2, c3, c4, c5, _, _, e⟩ | e
  · omega
  · have w2 : (Utf8.decode s p).2 = 2 := by rw [e0, e]
    refine ⟨by omega, by omega, fun j hj h1 h2 => ?_⟩
    rw [← Rd.get_byte s j hj]
    have : j = p ∨ j = p + 1 := by omega
    rcases this with rfl | rfl <;> omega
  · have w2 : (Utf8.decode s p).2 = 3 := by rw [e0, e]
    refine ⟨by omega, by omega, fun j hj h1 h2 => ?_⟩
    rw [← Rd.get_byte s j hj]
    have : j = p ∨ j = p + 1 ∨ j = p + 2 := by omega
    rcases this with rfl | rfl | rfl <;> omega
  · have w2 : (Utf8.decode s p).2 = 4 := by rw [e0, e]
    refine ⟨by omega, by omega, fun j hj h1 h2 => ?_⟩
    rw [← Rd.get_byte s j hj]
    have : j = p ∨ j = p + 1 ∨ j = p + 2 ∨ j = p + 3 := by omega
    rcases this with rfl | rfl | rfl | rfl <;> omega
  · exact one (by rw [e0, e])

section
variable {s : ByteArray} {X : Tr} {d : Int} {a p : Nat}
theorem Rd.ext_snoc (h : a ≤ p) : s.extract a p ++ s.extract p (p + 1) = s.extract a (p + 1) := by
  rw [ByteArray.extract_append_extract, Nat.min_eq_left h, Nat.max_eq_right (by omega)]
theorem Rd.ext_nil (a : Nat) : s.extract a a = ⟨#[]⟩ := ByteArray.extract_same
/-- bytes that are no ASCII go on with the word -/
theorem Rd.st_skip (h : Rd.st s p = (X, d, s.extract a p)) (hap : a ≤ p) (k : Nat) (hk : p + k ≤ s.size) (hb : ∀ j (hj : j < s.size), p ≤ j → j < p + k → 128 ≤ s[j].toNat) :
    Rd.st s (p + k) = (X, d, s.extract a (p + k)) := by
  induction k with
  | zero => exact h
  | succ k ih =>
    have h1 := ih (by omega) (fun j hj h1 h2 => hb j hj h1 (by omega))
    have hlt : p + k < s.size := by omega
    have h2 := hb (p + k) hlt (by omega) (by omega)
    have h3 := Rd.st_word h1 hlt (by omega) (by omega) (by omega)
    rw [Rd.ext_snoc (by omega)] at h3
    exact h3
end
/-- one byte more: no node goes -/
theorem Rd.st_up (s : ByteArray) (k : Nat) (hk : k < s.size) : (Rd.st s k).1.length ≤ (Rd.st s (k + 1)).1.length := by
  rcases hst : Rd.st s k with ⟨X, d, wd⟩
  have hf : X.length ≤ (Rd.flush (X, d, wd)).length := by unfold Rd.flush; split <;> simp
  by_cases h1 : s[k].toNat = 40
  · rw [Rd.st_open hst hk h1]; exact hf
  · by_cases h2 : s[k].toNat = 41
    · rw [Rd.st_close hst hk h2]; exact hf
    · by_cases h3 : s[k].toNat = 32
      · rw [Rd.st_blank hst hk h3]; exact hf
      · rw [Rd.st_word hst hk h1 h2 h3]; exact Nat.le_refl _
theorem Rd.st_mono (s : ByteArray) (k j : Nat) (hk : k + j ≤ s.size) : (Rd.st s k).1.length ≤ (Rd.st s (k + j)).1.length := by
  induction j with
  | zero => exact Nat.le_refl _
  | succ j ih => exact Nat.le_trans (ih (by omega)) (Rd.st_up s (k + j) (by omega))
theorem Rd.parse_ge (s : ByteArray) (k : Nat) (hk : k ≤ s.size) : (Rd.st s k).1.length ≤ (Rd.parse s).length := by
  obtain ⟨j, hj⟩ := Nat.exists_eq_add_of_le hk
  have h := Rd.st_mono s k j (by omega)
  rw [← hj] at h
  unfold Rd.parse
  rcases hst : Rd.st s s.size with ⟨X, d, wd⟩
  rw [hst] at h
  have hf : X.length ≤ (Rd.flush (X, d, wd)).length := by unfold Rd.flush; split <;> simp
  simp only at h
  omega

end Go.Proofs.YtemionefggiknaaDoor
