/- Contracts (FrT). -/
import Derived.Test.YtkccnlcghlkioaaFr
import Derived.Test.YtkccnlcghlkioaaIdxP
namespace Go.Proofs.Ytkccnlcghlkioaa
open Go.RowKit
set_option linter.unusedVariables false

/-! The first leaves of a right tree nest; its key roots. -/
def Tr.la (xs : Tr) (p : Nat) : Nat := (Tr.lfs xs).getD p 0
def Tr.lab (xs : Tr) : List Int := (Tr.post xs).map fun i => Tr.l xs i
def Tr.xa (xs : Tr) (p : Nat) : Int := (Tr.lab xs).getD p 0
theorem Tr.lab_length (xs : Tr) : (Tr.lab xs).length = (Tr.post xs).length := by simp [Tr.lab]
section
variable {xs : Tr} (hok : Tr.ok xs = true)
include hok
theorem Tr.la_at {p : Nat} (hp : p < xs.length) : ∃ i, i < xs.length ∧ Tr.rk xs i = p ∧ Tr.la xs p = i - Tr.dn xs i ∧ Tr.xa xs p = Tr.l xs i ∧ (Tr.post xs)[p]? = some i := by
  obtain ⟨i, h1, h2, h3⟩ := Tr.post_get hok hp
  refine ⟨i, h1, h3, ?_, ?_, h2⟩
  · unfold Tr.la Tr.lfs
    rw [List.getD_eq_getElem?_getD, List.getElem?_map, h2]
    rfl
  · unfold Tr.xa Tr.lab
    rw [List.getD_eq_getElem?_getD, List.getElem?_map, h2]
    rfl
theorem Tr.la_nest : Nest (Tr.la xs) xs.length := by
  intro p hp
  obtain ⟨i, h1, h2, h3, _⟩ := Tr.la_at hok hp
  have a := Tr.endN_dn hok h1
  have b := Tr.dn_le hok h1
  have e : Tr.rk xs i = Tr.endN xs i - 1 - Tr.dn xs i := rfl
  refine ⟨by rw [h3, ← h2, e]; omega, fun q hq hqp => ?_⟩
  obtain ⟨j, k1, k2, k3, _⟩ := Tr.la_at hok (p := q) (by omega)
  rw [h3] at hq
  rw [h3, k3]
  have c := Tr.endN_dn hok k1
  have d := Tr.dn_le hok k1
  have e2 : Tr.rk xs j = Tr.endN xs j - 1 - Tr.dn xs j := rfl
  have hij : i < j := by
    rcases Nat.lt_trichotomy i j with h | h | h
    · exact h
    · subst h; omega
    · by_cases hu : i < Tr.endN xs j
      · have := Tr.rk_under hok k1 h hu
        omega
      · have h5 := Tr.gap_mono hok (i := Tr.endN xs j) (j := i) (by omega) h1
        rcases c.2.2.2 with h6 | ⟨h6, h7⟩
        · omega
        · omega
  have := Tr.gap_mono hok (i := i) (j := j) (by omega) k1
  omega
/-- the last place of the whole tree -/
theorem Tr.la_last : Tr.la xs (xs.length - 1) = 0 := by
  have h1 := (Tr.ok_iff.1 hok).2
  obtain ⟨i, a, b, c, _⟩ := Tr.la_at hok (p := xs.length - 1) (by omega)
  have h0 := Tr.rk_inj hok (i := 0) (j := i) (by omega) a (by
    rw [b]
    unfold Tr.rk
    rw [Tr.endN_zero hok, Tr.dn_zero hok]
    omega)
  rw [c, ← h0]
  omega
/-- each place has its key root: the last one with the same first leaf -/
theorem Tr.kr_ex {p : Nat} (hp : p < xs.length) : ∃ q, q ∈ Tr.krs xs ∧ p ≤ q ∧ q < xs.length ∧ Tr.la xs q = Tr.la xs p := by
  have hlen : (Tr.lfs xs).length = xs.length := by rw [Tr.lfs_length, Tr.post_length hok]
  have key : ∀ r p, xs.length - p = r → p < xs.length → ∃ q, p ≤ q ∧ q < xs.length ∧ Zs.lastTo (Tr.lfs xs) q xs.length = true ∧ Tr.la xs q = Tr.la xs p := by
    intro r
    induction r using Nat.strongRecOn with
    | ind r ih =>
      intro p hr hp
      by_cases h : Zs.lastTo (Tr.lfs xs) p xs.length = true
      · exact ⟨p, Nat.le_refl _, hp, h, rfl⟩
      · have h2 : ∃ j, j < xs.length ∧ p < j ∧ (Tr.lfs xs).getD j 0 = (Tr.lfs xs).getD p 0 := by
          refine Classical.byContradiction fun hn => h ((Zs.last_iff _ p _).2 fun j h1 h3 e => hn ⟨j, h1, h3, e⟩)
        obtain ⟨j, h3, h4, h5⟩ := h2
        obtain ⟨q, q1, q2, q3, q4⟩ := ih (xs.length - j) (by omega) j rfl h3
        exact ⟨q, by omega, q2, q3, q4.trans h5⟩
  obtain ⟨q, h1, h2, h3, h4⟩ := key _ p rfl hp
  refine ⟨q, ?_, h1, h2, h4⟩
  unfold Tr.krs Tr.krTo
  rw [hlen]
  simp [h2, h3]
theorem Tr.kr_last {q j : Nat} (hq : q ∈ Tr.krs xs) (hj : j < xs.length) (hqj : q < j) : Tr.la xs j ≠ Tr.la xs q := by
  have hlen : (Tr.lfs xs).length = xs.length := by rw [Tr.lfs_length, Tr.post_length hok]
  unfold Tr.krs Tr.krTo at hq
  rw [hlen] at hq
  simp only [List.mem_filter, List.mem_range] at hq
  exact (Zs.last_iff _ _ _).1 hq.2 j hj hqj
/-- of a place under key root i that begins later, the key root stands ahead of i -/
theorem Tr.kr_under {i p q : Nat} (hi : i < xs.length) (hp1 : Tr.la xs i ≤ p) (hp2 : p ≤ i) (hla : Tr.la xs p ≠ Tr.la xs i) (hq : q < xs.length) (hqp : p ≤ q) (hql : Tr.la xs q = Tr.la xs p) : q < i := by
  have hN := Tr.la_nest hok
  have h1 : Tr.la xs i ≤ Tr.la xs p := by
    rcases Nat.lt_or_ge p i with h | h
    · exact (hN i hi).2 p hp1 h
    · have : p = i := by omega
      subst this; exact absurd rfl hla
  rcases Nat.lt_trichotomy q i with h | h | h
  · exact h
  · subst h; omega
  · have h2 := (hN q hq).2 i (by have := (hN p (by omega)).1; omega) h
    omega
end

end Go.Proofs.Ytkccnlcghlkioaa
