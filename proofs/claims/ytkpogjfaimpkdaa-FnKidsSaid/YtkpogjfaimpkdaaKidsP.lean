/- Contracts (KidsP). -/
import Derived.Test.YtkpogjfaimpkdaaKinP
namespace Go.Proofs.Ytkpogjfaimpkdaa
open Go.RowKit
set_option linter.unusedVariables false

theorem Tr.kidsTo_more (xs : Tr) (i k : Nat) : ∀ m, k ≤ m → ∃ r, Tr.kidsTo xs i m = Tr.kidsTo xs i k ++ r := by
  intro m
  induction m with
  | zero => intro h; obtain rfl : k = 0 := by omega
            exact ⟨[], by simp⟩
  | succ m ih =>
    intro h
    by_cases e : k = m + 1
    · subst e; exact ⟨[], by simp⟩
    · obtain ⟨r, hr⟩ := ih (by omega)
      refine ⟨r ++ ([m].filter fun j => decide (i < j) && decide (Tr.d xs j = Tr.d xs i + 1)), ?_⟩
      rw [← List.append_assoc, ← hr]
      unfold Tr.kidsTo
      rw [List.range_succ, List.filter_append]
theorem Zs.find_mid (A r : List Int) (b : Int) (k : Nat) (h : ∀ a ∈ A, a ≠ b) : Zs.find (A ++ b :: r) b k = ((k + A.length : Nat) : Int) := by
  induction A generalizing k with
  | nil => simp [Zs.find]
  | cons a A ih =>
    have ha : a ≠ b := h a List.mem_cons_self
    simp only [List.cons_append, Zs.find]
    rw [if_neg ha, ih (k + 1) (fun x hx => h x (List.mem_cons_of_mem _ hx))]
    simp
    omega
section
variable {xs : Tr} (hok : Tr.ok xs = true)
include hok
/-- at place b of the children's row of i, b itself is the next kid -/
theorem Tr.kid_next {i b : Nat} (hi : i < xs.length) (hb : Tr.bound xs i b) (hlt : b < Tr.endN xs i) : ∃ r, Tr.kidsTo xs i (Tr.endN xs i) = Tr.kidsTo xs i b ++ b :: r := by
  obtain ⟨hn, hl⟩ := Tr.bound_next hok hi hb hlt
  obtain ⟨r, hr⟩ := Tr.kidsTo_more xs i (Tr.endN xs b) (Tr.endN xs i) hn.2.1
  exact ⟨r, by rw [hr, Tr.kids_in hok hi hb hlt hl (Nat.le_refl _), List.append_assoc]; rfl⟩
theorem Tr.kid_parent {i b : Nat} (hi : i < xs.length) (hb : Tr.bound xs i b) (hlt : b < Tr.endN xs i) : Tr.parentOf xs (b : Int) = (i : Int) := by
  have a := Tr.endN_dn hok hi
  have hbn : b < xs.length := by omega
  have hd := hb.2.2 hlt
  have h1 := Tr.dn_eq hok hi
  have h2 := Tr.dn_eq hok hbn
  unfold Tr.parentOf
  rw [Tr.has_nat hok hbn]
  refine Tr.back_is (xs := xs) (p := i) (by simp; omega) b hb.1 (fun m q1 q2 => ?_)
  have := a.2.2.1 m q1 (by omega)
  have := Tr.dn_eq hok (i := m) (by omega)
  simp
  omega
theorem Tr.kid_rank {i b : Nat} (hi : i < xs.length) (hb : Tr.bound xs i b) (hlt : b < Tr.endN xs i) : Tr.kidRank xs (b : Int) = ((Tr.kidsTo xs i b).length : Nat) := by
  unfold Tr.kidRank
  rw [Tr.kid_parent hok hi hb hlt, if_neg (by omega)]
  obtain ⟨r, hr⟩ := Tr.kid_next hok hi hb hlt
  rw [show Tr.kidsOf xs (i : Int) = Tr.kidsTo xs i (Tr.endN xs i) by unfold Tr.kidsOf; rw [Tr.has_nat hok hi]; rfl, hr, List.map_append, List.map_cons, Zs.find_mid]
  · simp
  · intro a ha
    obtain ⟨m, hm, rfl⟩ := List.mem_map.1 ha
    unfold Tr.kidsTo at hm
    simp only [List.mem_filter, List.mem_range] at hm
    omega
/-- one round over the children: the j-th kid stands at b -/
theorem Tr.kid_round {i b j : Nat} (hi : i < xs.length) (hb : Tr.bound xs i b) (hj : (Tr.kidsTo xs i b).length = j) (hlt : j < (Tr.kidsTo xs i (Tr.endN xs i)).length) :
    b < xs.length ∧ Zs.at (Tr.kidsI xs (i : Int)) j = (b : Int) ∧ Tr.parentOf xs (b : Int) = (i : Int) ∧ Tr.kidRank xs (b : Int) = (j : Int) ∧
    (Tr.subTree xs (b : Int)).length = Tr.endN xs b - b ∧ Tr.bound xs i (Tr.endN xs b) ∧ (Tr.kidsTo xs i (Tr.endN xs b)).length = j + 1 ∧ b < Tr.endN xs b ∧ Tr.endN xs b ≤ xs.length ∧ i < b := by
  have a := Tr.endN_dn hok hi
  have hbe : b < Tr.endN xs i := by
    have := hb.2.1
    by_cases e : b = Tr.endN xs i
    · rw [e] at hj; omega
    · omega
  have hbn : b < xs.length := by omega
  obtain ⟨r, hr⟩ := Tr.kid_next hok hi hb hbe
  obtain ⟨hn, hl⟩ := Tr.bound_next hok hi hb hbe
  refine ⟨hbn, ?_, Tr.kid_parent hok hi hb hbe, by rw [Tr.kid_rank hok hi hb hbe, hj], ?_, hn, ?_, hl, (Tr.endN_dn hok hbn).2.1, hb.1⟩
  · rw [Tr.kidsI_yes (Tr.has_nat hok hi)]
    unfold Tr.kidsZ
    rw [hr]
    simp [Zs.at, List.getD_eq_getElem?_getD, ← hj]
  · rw [Tr.subTree_yes (Tr.has_nat hok hbn), Tr.subTo_length]
  · rw [Tr.kids_in hok hi hb hbe hl (Nat.le_refl _), List.length_append, hj]; rfl
theorem Tr.kid_last {i b j : Nat} (hi : i < xs.length) (hb : Tr.bound xs i b) (hj : (Tr.kidsTo xs i b).length = j) (hlt : j = (Tr.kidsTo xs i (Tr.endN xs i)).length) : b = Tr.endN xs i := by
  have := hb.2.1
  by_cases e : b = Tr.endN xs i
  · exact e
  · obtain ⟨r, hr⟩ := Tr.kid_next hok hi hb (by omega)
    rw [hr, List.length_append, List.length_cons] at hlt
    omega
theorem Tr.sub_ok {i : Nat} (hi : i < xs.length) : Tr.ok (Tr.subTree xs (i : Int)) = true := by
  have a := Tr.endN_dn hok hi
  have hn := (Tr.ok_iff.1 hok).2
  rw [Tr.subTree_yes (Tr.has_nat hok hi)]
  rw [Tr.ok_iff, Tr.subTo_length]
  have hl : ∀ t, t < Tr.endN xs i - i → Tr.l (Tr.subTo xs i (Tr.endN xs i)) t = Tr.l xs (i + t) := fun t ht => by simp [Tr.l, Tr.subTo, List.getD_eq_getElem?_getD, ht]
  have hd : ∀ t, t < Tr.endN xs i - i → Tr.d (Tr.subTo xs i (Tr.endN xs i)) t = Tr.d xs (i + t) - Tr.d xs i := fun t ht => by simp [Tr.d, Tr.subTo, List.getD_eq_getElem?_getD, ht]
  refine ⟨fun t ht => ?_, by omega, by omega⟩
  have h1 := Tr.ok_at hok (k := i + t) (by omega)
  have h2 := Tr.ok_at hok hi
  have h3 := Tr.dn_eq hok hi
  have h4 := Tr.dn_eq hok (i := i + t) (by omega)
  unfold Tr.okAt
  rw [decide_eq_true_eq, hl t ht, hd t ht]
  refine ⟨h1.1, ?_, ?_, ?_⟩
  · by_cases e : t = 0
    · subst e; simp
    · have := a.2.2.1 (i + t) (by omega) (by omega)
      omega
  · by_cases e : t = 0
    · subst e; simp
    · have := a.2.2.1 (i + t) (by omega) (by omega)
      omega
  · by_cases e : t = 0
    · exact .inl e
    · refine .inr ?_
      rw [hd (t - 1) (by omega), show i + (t - 1) = i + t - 1 by omega]
      rcases h1.2.2.2 with q | q
      · omega
      · omega
end

end Go.Proofs.Ytkpogjfaimpkdaa
