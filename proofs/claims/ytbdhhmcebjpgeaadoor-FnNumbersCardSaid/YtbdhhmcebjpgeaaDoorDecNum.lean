/- Plain mathematics of ReadDec: which strings are decimal numerals of at most nine digits. -/
import Derived.Test.YtbdhhmcebjpgeaaDoorKit
import Derived.Lib.ItoaLen
import Derived.Lib.ItoaMem
import Derived.Lib.AtoiAll
import Derived.Lib.Strings
namespace Go.Proofs.YtbdhhmcebjpgeaaDoor
open Go.RowKit

def Num.isDig (b : UInt8) : Bool := decide (48 ≤ b.toNat ∧ b.toNat ≤ 57)
/-- what the digits of l spell, other bytes passed over -/
def Num.numF (l : List UInt8) : Nat := l.foldl (fun n b => if Num.isDig b then n * 10 + (b.toNat - 48) else n) 0
def Num.cntF (l : List UInt8) : Nat := l.countP Num.isDig
theorem Num.numF_dig (l : List UInt8) {b : UInt8} (h : Num.isDig b = true) : Num.numF (l ++ [b]) = Num.numF l * 10 + (b.toNat - 48) := by simp [Num.numF, h]
theorem Num.numF_other (l : List UInt8) {b : UInt8} (h : Num.isDig b = false) : Num.numF (l ++ [b]) = Num.numF l := by simp [Num.numF, h]
theorem Num.cntF_dig (l : List UInt8) {b : UInt8} (h : Num.isDig b = true) : Num.cntF (l ++ [b]) = Num.cntF l + 1 := by simp [Num.cntF, h]
theorem Num.cntF_other (l : List UInt8) {b : UInt8} (h : Num.isDig b = false) : Num.cntF (l ++ [b]) = Num.cntF l := by simp [Num.cntF, h]
theorem Num.numF_lt (l : List UInt8) : Num.numF l < 10 ^ l.length := by
  refine Kit.snoc_rec (P := fun l => Num.numF l < 10 ^ l.length) (by simp [Num.numF]) (fun l b ih => ?_) l
  simp only [List.length_append, List.length_singleton, Nat.pow_succ]
  cases hb : Num.isDig b with
  | true =>
    rw [Num.numF_dig l hb]
    have : b.toNat ≤ 57 := by
      unfold Num.isDig at hb
      exact (of_decide_eq_true hb).2
    omega
  | false => rw [Num.numF_other l hb]; omega
theorem Num.numF_small (l : List UInt8) (h : l.length ≤ 11) : Num.numF l ≤ 99999999999 := by
  have h1 := Num.numF_lt l
  have h2 : 10 ^ l.length ≤ 10 ^ 11 := Nat.pow_le_pow_right (by omega) h
  omega
theorem Num.cntF_le (l : List UInt8) : Num.cntF l ≤ l.length := List.countP_le_length

theorem Num.dig_of {d : Nat} (h : d < 10) : Num.isDig (UInt8.ofNat (48 + d)) = true ∧ (UInt8.ofNat (48 + d)).toNat = 48 + d := by
  have hb : (UInt8.ofNat (48 + d)).toNat = 48 + d := by rw [UInt8.toNat_ofNat']; omega
  exact ⟨by unfold Num.isDig; rw [hb]; simp; omega, hb⟩
theorem Num.numF_dec (u : Nat) : Num.numF (Lib.decDigits u) = u ∧ Num.cntF (Lib.decDigits u) = (Lib.decDigits u).length := by
  induction u using Nat.strongRecOn with
  | _ u ih =>
    by_cases h : u < 10
    · rw [Lib.decDigits, dif_pos h]
      obtain ⟨h1, h2⟩ := Num.dig_of h
      have a := Num.numF_dig [] h1
      have b := Num.cntF_dig [] h1
      simp only [List.nil_append] at a b
      exact ⟨by rw [a, h2]; simp [Num.numF], by rw [b]; simp [Num.cntF]⟩
    · rw [Lib.decDigits, dif_neg h]
      obtain ⟨i1, i2⟩ := ih (u / 10) (by omega)
      obtain ⟨h1, h2⟩ := Num.dig_of (d := u % 10) (by omega)
      exact ⟨by rw [Num.numF_dig _ h1, h2, i1]; omega, by rw [Num.cntF_dig _ h1, i2]; simp⟩
theorem Num.decDigits_ne (u : Nat) : Lib.decDigits u ≠ [] := by
  intro h
  have := Lib.decDigits_length u
  rw [h] at this
  have := Lib.nDigits_pos u
  simp at *
  omega
theorem Num.decDigits_head (u : Nat) : ∃ b l, Lib.decDigits u = b :: l ∧ Num.isDig b = true := by
  induction u using Nat.strongRecOn with
  | _ u ih =>
    by_cases h : u < 10
    · rw [Lib.decDigits, dif_pos h]
      exact ⟨_, _, rfl, (Num.dig_of h).1⟩
    · rw [Lib.decDigits, dif_neg h]
      obtain ⟨b, l, h1, h2⟩ := ih (u / 10) (by omega)
      rw [h1]
      exact ⟨b, _, rfl, h2⟩

/-- the number that the model reads -/
def Num.specN (l : List UInt8) : Int := if l.head? = some 45 then -(Num.numF (l.take 11) : Int) else Num.numF (l.take 11)
/-- what ReadDec gives -/
def Num.rdec (l : List UInt8) : Option Int := if Num.cntF (l.take 11) ≤ 9 ∧ l.length ≤ 10 ∧ Lib.itoa (Num.specN l) = l then some (Num.specN l) else none

theorem Num.take_all {l : List UInt8} (h : l.length ≤ 11) : l.take 11 = l := List.take_of_length_le h
theorem Num.cons45 (l : List UInt8) : Num.numF (45 :: l) = Num.numF l ∧ Num.cntF (45 :: l) = Num.cntF l := by
  have h : Num.isDig 45 = false := by decide
  exact ⟨by simp [Num.numF, h], by simp [Num.cntF, h]⟩
/-- a numeral's number, digits and strip -/
theorem Num.itoa_facts (n : Int) : Num.cntF (Lib.itoa n) = (Lib.trimPrefix (Lib.itoa n) [45]).length ∧ (Lib.itoa n).length ≤ (Lib.trimPrefix (Lib.itoa n) [45]).length + 1 ∧
    ((Lib.itoa n).length ≤ 11 → Num.specN (Lib.itoa n) = n) := by
  unfold Lib.itoa Num.specN
  by_cases hn : n < 0
  · obtain ⟨h1, h2⟩ := Num.numF_dec n.natAbs
    obtain ⟨c1, c2⟩ := Num.cons45 (Lib.decDigits n.natAbs)
    have ht : Lib.trimPrefix (45 :: Lib.decDigits n.natAbs) [45] = Lib.decDigits n.natAbs := by simp [Lib.trimPrefix, Lib.hasPrefix]
    rw [if_pos hn, ht]
    refine ⟨by rw [c2, h2], by simp, fun hl => ?_⟩
    rw [Num.take_all hl, if_pos (by rfl), c1, h1]
    omega
  · obtain ⟨h1, h2⟩ := Num.numF_dec n.toNat
    obtain ⟨b, l, hb, hd⟩ := Num.decDigits_head n.toNat
    have hb45 : b ≠ 45 := by intro h; subst h; exact absurd hd (by decide)
    have ht : Lib.trimPrefix (Lib.decDigits n.toNat) [45] = Lib.decDigits n.toNat := by
      rw [hb]; simp [Lib.trimPrefix, Lib.hasPrefix, Ne.symm hb45]
    rw [if_neg hn, ht]
    refine ⟨h2, by omega, fun hl => ?_⟩
    rw [Num.take_all hl, if_neg (by rw [hb]; simpa using hb45), h1]
    omega
theorem Num.rdec_of {l : List UInt8} {n : Int} (h : Lib.itoa n = l) (hl : (Lib.trimPrefix l [45]).length ≤ 9) : Num.rdec l = some n := by
  subst h
  obtain ⟨h1, h2, h3⟩ := Num.itoa_facts n
  have e := h3 (by omega)
  unfold Num.rdec
  rw [e, Num.take_all (by omega), if_pos ⟨by omega, by omega, rfl⟩]

theorem Num.parse_append (l m : List UInt8) : ∀ acc a, Lib.parseUint10 acc l = .ok a → Lib.parseUint10 acc (l ++ m) = Lib.parseUint10 a m := by
  induction l with
  | nil => intro acc a h; simp only [Lib.parseUint10] at h; injection h with h; subst h; rfl
  | cons c l ih =>
    intro acc a h
    simp only [Lib.parseUint10, List.cons_append] at h ⊢
    split at h
    · split at h
      · cases h
      · split at h
        · cases h
        · rename_i c1 c2 c3
          rw [if_pos c1, if_neg c2, if_neg c3]
          exact ih _ _ h
    · cases h
theorem Num.parse_dec (u : Nat) (hu : u < 1000000000000000000) : Lib.parseUint10 0 (Lib.decDigits u) = .ok u := by
  induction u using Nat.strongRecOn with
  | _ u ih =>
    have one : ∀ acc d, d < 10 → acc < 100000000000000000 → Lib.parseUint10 acc [UInt8.ofNat (48 + d)] = .ok (acc * 10 + d) := by
      intro acc d hd ha
      have hb := (Num.dig_of hd).2
      simp only [Lib.parseUint10, hb]
      rw [if_pos (by omega), if_neg (by omega), if_neg (by omega)]
      congr 1; omega
    by_cases h : u < 10
    · rw [Lib.decDigits, dif_pos h, one 0 u h (by omega)]; simp
    · rw [Lib.decDigits, dif_neg h, Num.parse_append _ _ _ _ (ih (u / 10) (by omega) (by omega)), one _ _ (by omega) (by omega)]
      congr 1; omega
theorem Num.atoi_itoa (n : Int) (h0 : -1000000000000000000 < n) (h1 : n < 1000000000000000000) : Lib.atoiAll (Lib.itoa n) = .ok n := by
  unfold Lib.itoa
  by_cases hn : n < 0
  · rw [if_pos hn]
    have hp := Num.parse_dec n.natAbs (by omega)
    have hm : Lib.parseMag (Lib.decDigits n.natAbs) = .ok n.natAbs := by unfold Lib.parseMag; rw [if_neg (Num.decDigits_ne _), hp]
    have h45 : (45 : UInt8).toNat = 45 := rfl
    simp only [Lib.atoiAll, h45]
    rw [if_pos (Or.inr trivial), hm]
    simp only []
    rw [if_neg (by simp), if_neg (by omega)]
    simp; omega
  · rw [if_neg hn]
    have hp := Num.parse_dec n.toNat (by omega)
    have hm : Lib.parseMag (Lib.decDigits n.toNat) = .ok n.toNat := by unfold Lib.parseMag; rw [if_neg (Num.decDigits_ne _), hp]
    obtain ⟨b, l, hb, hd⟩ := Num.decDigits_head n.toNat
    have hbd : 48 ≤ b.toNat ∧ b.toNat ≤ 57 := by unfold Num.isDig at hd; exact of_decide_eq_true hd
    rw [hb] at hm ⊢
    simp only [Lib.atoiAll]
    rw [if_neg (by omega), hm]
    simp only []
    rw [if_neg (by omega), if_neg (by omega), if_neg (by omega)]
    congr 1; omega
theorem Num.rdec_inv {l : List UInt8} {n : Int} (h : Num.rdec l = some n) : (Lib.trimPrefix l [45]).length ≤ 9 ∧ Lib.atoiAll l = .ok n ∧ Lib.itoa n = l := by
  unfold Num.rdec at h
  split at h
  · rename_i hc
    obtain ⟨c1, c2, c3⟩ := hc
    injection h with h
    rw [h] at c3
    obtain ⟨h1, h2, h3⟩ := Num.itoa_facts n
    rw [c3] at h1 h2 h3
    rw [Num.take_all (by omega)] at c1
    have hs := Num.numF_small (l.take 11) (List.length_take_le _ _)
    refine ⟨by omega, ?_, c3⟩
    rw [← c3]
    refine Num.atoi_itoa n ?_ ?_
    · rw [← h]; unfold Num.specN; split <;> omega
    · rw [← h]; unfold Num.specN; split <;> omega
  · cases h

end Go.Proofs.YtbdhhmcebjpgeaaDoor
