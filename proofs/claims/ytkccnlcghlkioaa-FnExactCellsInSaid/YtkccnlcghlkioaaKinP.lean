/- Contracts (KinP). -/
import Derived.Test.YtkccnlcghlkioaaPst2
import Derived.Test.YtkccnlcghlkioaaRes
namespace Go.Proofs.Ytkccnlcghlkioaa
open Go.RowKit
set_option linter.unusedVariables false

/-! mathematics of the laws on kin -/
theorem Tr.has_nat {xs : Tr} {i : Nat} (hok : Tr.ok xs = true) (hi : i < xs.length) : Tr.has xs (i : Int) = true := Tr.has_iff.2 ⟨hok, Int.natCast_nonneg i, Int.ofNat_lt.2 hi⟩
theorem Tr.under_nat {xs : Tr} {i j : Nat} (hok : Tr.ok xs = true) (hi : i < xs.length) (hj : j < xs.length) : Tr.under xs i j = decide (i < j ∧ j < Tr.endN xs i) := by
  unfold Tr.under
  rw [Tr.has_nat hok hi, Tr.has_nat hok hj, Tr.endOf_yes (Tr.has_nat hok hi), Bool.eq_iff_iff]
  simp
theorem Tr.leftOf_nat {xs : Tr} {i j : Nat} (hok : Tr.ok xs = true) (hi : i < xs.length) (hj : j < xs.length) : Tr.leftOf xs i j = decide (Tr.endN xs i ≤ j) := by
  unfold Tr.leftOf
  rw [Tr.has_nat hok hi, Tr.has_nat hok hj, Tr.endOf_yes (Tr.has_nat hok hi), Bool.eq_iff_iff]
  simp
theorem Tr.under_no {xs : Tr} {i j : Int} (h : ¬ (Tr.has xs i = true ∧ Tr.has xs j = true)) : Tr.under xs i j = false ∧ Tr.leftOf xs i j = false := by
  unfold Tr.under Tr.leftOf
  rcases h1 : Tr.has xs i with _ | _
  · exact ⟨rfl, rfl⟩
  · rcases h2 : Tr.has xs j with _ | _
    · exact ⟨rfl, rfl⟩
    · exact absurd ⟨h1, h2⟩ h
/-- the five ways in which two nodes stand to one another -/
def Tr.ways (xs : Tr) (i j : Nat) : List Bool := [decide ((i : Int) = j), Tr.under xs i j, Tr.under xs j i, Tr.leftOf xs i j, Tr.leftOf xs j i]
def Bs.count (bs : List Bool) (k : Nat) : Nat := (bs.take k).countP id
theorem Bs.count_succ (bs : List Bool) (k : Nat) (h : k < bs.length) : Bs.count bs (k + 1) = if bs.getD k false = true then Bs.count bs k + 1 else Bs.count bs k := by
  unfold Bs.count
  rw [List.take_succ_eq_append_getElem h, List.countP_append]
  have e : bs.getD k false = bs[k] := by simp [List.getD_eq_getElem?_getD, h]
  rw [e]
  rcases bs[k] with _ | _ <;> simp
theorem Bs.count_le (bs : List Bool) (k : Nat) : Bs.count bs k ≤ k := by
  have := List.countP_le_length (p := id) (l := bs.take k)
  have h2 := List.length_take_le k bs
  unfold Bs.count
  omega
theorem Tr.one_way {xs : Tr} {i j : Nat} (hok : Tr.ok xs = true) (hi : i < xs.length) (hj : j < xs.length) : Bs.count (Tr.ways xs i j) 5 = 1 := by
  have a := Tr.endN_dn hok hi
  have b := Tr.endN_dn hok hj
  unfold Tr.ways Bs.count
  rw [Tr.under_nat hok hi hj, Tr.under_nat hok hj hi, Tr.leftOf_nat hok hi hj, Tr.leftOf_nat hok hj hi]
  rcases Nat.lt_trichotomy i j with h | h | h
  · by_cases q : j < Tr.endN xs i
    · have e0 : decide ((i : Int) = j) = false := by simp only [decide_eq_false_iff_not]; omega
      have e1 : decide (i < j ∧ j < Tr.endN xs i) = true := by simp only [decide_eq_true_eq]; omega
      have e2 : decide (j < i ∧ i < Tr.endN xs j) = false := by simp only [decide_eq_false_iff_not]; omega
      have e3 : decide (Tr.endN xs i ≤ j) = false := by simp only [decide_eq_false_iff_not]; omega
      have e4 : decide (Tr.endN xs j ≤ i) = false := by simp only [decide_eq_false_iff_not]; omega
      rw [e0, e1, e2, e3, e4]; rfl
    · have e0 : decide ((i : Int) = j) = false := by simp only [decide_eq_false_iff_not]; omega
      have e1 : decide (i < j ∧ j < Tr.endN xs i) = false := by simp only [decide_eq_false_iff_not]; omega
      have e2 : decide (j < i ∧ i < Tr.endN xs j) = false := by simp only [decide_eq_false_iff_not]; omega
      have e3 : decide (Tr.endN xs i ≤ j) = true := by simp only [decide_eq_true_eq]; omega
      have e4 : decide (Tr.endN xs j ≤ i) = false := by simp only [decide_eq_false_iff_not]; omega
      rw [e0, e1, e2, e3, e4]; rfl
  · have e0 : decide ((i : Int) = j) = true := by simp only [decide_eq_true_eq]; omega
    have e1 : decide (i < j ∧ j < Tr.endN xs i) = false := by simp only [decide_eq_false_iff_not]; omega
    have e2 : decide (j < i ∧ i < Tr.endN xs j) = false := by simp only [decide_eq_false_iff_not]; omega
    have e3 : decide (Tr.endN xs i ≤ j) = false := by simp only [decide_eq_false_iff_not]; omega
    have e4 : decide (Tr.endN xs j ≤ i) = false := by simp only [decide_eq_false_iff_not]; omega
    rw [e0, e1, e2, e3, e4]; rfl
  · by_cases q : i < Tr.endN xs j
    · have e0 : decide ((i : Int) = j) = false := by simp only [decide_eq_false_iff_not]; omega
      have e1 : decide (i < j ∧ j < Tr.endN xs i) = false := by simp only [decide_eq_false_iff_not]; omega
      have e2 : decide (j < i ∧ i < Tr.endN xs j) = true := by simp only [decide_eq_true_eq]; omega
      have e3 : decide (Tr.endN xs i ≤ j) = false := by simp only [decide_eq_false_iff_not]; omega
      have e4 : decide (Tr.endN xs j ≤ i) = false := by simp only [decide_eq_false_iff_not]; omega
      rw [e0, e1, e2, e3, e4]; rfl
    · have e0 : decide ((i : Int) = j) = false := by simp only [decide_eq_false_iff_not]; omega
      have e1 : decide (i < j ∧ j < Tr.endN xs i) = false := by simp only [decide_eq_false_iff_not]; omega
      have e2 : decide (j < i ∧ i < Tr.endN xs j) = false := by simp only [decide_eq_false_iff_not]; omega
      have e3 : decide (Tr.endN xs i ≤ j) = false := by simp only [decide_eq_false_iff_not]; omega
      have e4 : decide (Tr.endN xs j ≤ i) = true := by simp only [decide_eq_true_eq]; omega
      rw [e0, e1, e2, e3, e4]; rfl
theorem Tr.back_is {xs : Tr} {dep : Int} {p : Nat} (hp : Tr.d xs p < dep) : ∀ j, p < j → (∀ m, p < m → m < j → dep ≤ Tr.d xs m) → Tr.back xs dep j = p := by
  intro j
  induction j with
  | zero => intro h _; omega
  | succ j ih =>
    intro h hall
    unfold Tr.back
    by_cases e : j = p
    · subst e; rw [if_pos hp]
    · have := hall j (by omega) (by omega)
      rw [if_neg (by omega)]
      exact ih (by omega) (fun m h1 h2 => hall m h1 (by omega))
theorem Tr.back_ex {xs : Tr} {dep : Int} : ∀ j, (∃ q, q < j ∧ Tr.d xs q < dep) → ∃ p, p < j ∧ Tr.d xs p < dep ∧ ∀ m, p < m → m < j → dep ≤ Tr.d xs m := by
  intro j
  induction j with
  | zero => rintro ⟨q, h, _⟩; omega
  | succ j ih =>
    rintro ⟨q, h1, h2⟩
    by_cases e : Tr.d xs j < dep
    · exact ⟨j, by omega, e, fun m a b => by omega⟩
    · have hq : q ≠ j := fun r => by subst r; exact e h2
      obtain ⟨p, a, b, c⟩ := ih ⟨q, by omega, h2⟩
      refine ⟨p, by omega, b, fun m d1 d2 => ?_⟩
      by_cases r : m = j
      · subst r; omega
      · exact c m d1 (by omega)
theorem Tr.kid_in {xs : Tr} {p j : Nat} (hpj : p < j) (hje : j < Tr.endN xs p) (hd : Tr.d xs j = Tr.d xs p + 1) : j ∈ Tr.kidsTo xs p (Tr.endN xs p) := by
  unfold Tr.kidsTo
  simp [hje, hpj, hd]
section
variable {xs : Tr} (hok : Tr.ok xs = true)
include hok
theorem Tr.parent_zero : Tr.parentOf xs ((0 : Nat) : Int) = -1 := by
  have h0 := (Tr.ok_iff.1 hok).2
  unfold Tr.parentOf
  rw [Tr.has_nat hok (by omega)]
  rfl
theorem Tr.parent_pos {j : Nat} (hj : j < xs.length) (h0 : 0 < j) : ∃ p : Nat, p < j ∧ Tr.parentOf xs (j : Int) = (p : Int) ∧ Tr.d xs p = Tr.d xs j - 1 ∧ j < Tr.endN xs p := by
  have hz := Tr.dn_zero hok
  have hz2 := Tr.dn_eq hok (i := 0) (by omega)
  have hk := (Tr.ok_at hok hj).2
  obtain ⟨p, h1, h2, h3⟩ := Tr.back_ex (xs := xs) (dep := Tr.d xs j) j ⟨0, h0, by
    have : ¬ Tr.d xs j = 0 := fun e => by have := hk.2.1.1 e; omega
    omega⟩
  have hb := Tr.back_is h2 j h1 h3
  have hp := Tr.endN_dn hok (i := p) (by omega)
  have hd1 := Tr.dn_eq hok (i := p) (by omega)
  have hd2 := Tr.dn_eq hok hj
  refine ⟨p, h1, ?_, ?_, ?_⟩
  · unfold Tr.parentOf
    rw [Tr.has_nat hok hj]
    exact hb
  · have hs := (Tr.dn_succ hok (i := p) (by omega)).2
    have hd3 := Tr.dn_eq hok (i := p + 1) (by omega)
    by_cases e : p + 1 = j
    · rw [e] at hs hd3; omega
    · have := h3 (p + 1) (by omega) (by omega)
      omega
  · by_cases e : j < Tr.endN xs p
    · exact e
    · exfalso
      rcases hp.2.2.2 with q | ⟨q1, q2⟩
      · omega
      · by_cases r : Tr.endN xs p = j
        · rw [r] at q2; omega
        · have := h3 (Tr.endN xs p) (by omega) (by omega)
          have := Tr.dn_eq hok (i := Tr.endN xs p) (by omega)
          omega
theorem Tr.rank_pos {j : Nat} (hj : j < xs.length) : 0 ≤ Tr.kidRank xs (j : Int) ↔ 0 < j := by
  have find_mem : ∀ (zs : List Int) (i : Int) (k : Nat), i ∈ zs → 0 ≤ Zs.find zs i k := by
    intro zs i
    induction zs with
    | nil => intro k h; cases h
    | cons z zs ih =>
      intro k h
      unfold Zs.find
      by_cases e : z = i
      · rw [if_pos e]; omega
      · rw [if_neg e]
        rcases List.mem_cons.1 h with r | r
        · exact absurd r.symm e
        · exact ih _ r
  constructor
  · intro h
    by_cases e : j = 0
    · subst e
      unfold Tr.kidRank at h
      rw [Tr.parent_zero hok] at h
      simp at h
    · omega
  · intro h
    obtain ⟨p, h1, h2, h3, h4⟩ := Tr.parent_pos hok hj h
    unfold Tr.kidRank
    rw [h2, if_neg (by omega)]
    refine find_mem _ _ _ ?_
    rw [show Tr.kidsOf xs (p : Int) = Tr.kidsTo xs p (Tr.endN xs p) by unfold Tr.kidsOf; rw [Tr.has_nat hok (by omega)]; rfl]
    exact List.mem_map.2 ⟨j, Tr.kid_in h1 h4 (by omega), rfl⟩
end

end Go.Proofs.Ytkccnlcghlkioaa
