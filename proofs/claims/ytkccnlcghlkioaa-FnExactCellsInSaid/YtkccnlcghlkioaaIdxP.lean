/- Contracts (IdxP). -/
import Derived.Test.YtkccnlcghlkioaaKinP
namespace Go.Proofs.Ytkccnlcghlkioaa
open Go.RowKit
set_option linter.unusedVariables false

theorem Zs.last_iff (F : List Nat) (k m : Nat) : Zs.lastTo F k m = true ↔ ∀ j, j < m → k < j → F.getD j 0 ≠ F.getD k 0 := by
  simp only [Zs.lastTo, List.all_eq_true, List.mem_range, Bool.or_eq_true, decide_eq_true_eq]
  constructor
  · intro h j h1 h2
    rcases h j h1 with q | q
    · omega
    · exact q
  · intro h j h1
    by_cases q : j ≤ k
    · exact .inl q
    · exact .inr (h j h1 (by omega))
theorem Zs.last_ex (F : List Nat) (m : Nat) : ∀ r p, m - p = r → p < m → ∃ q, q < m ∧ Zs.lastTo F q m = true ∧ F.getD q 0 = F.getD p 0 := by
  intro r
  induction r using Nat.strongRecOn with
  | ind r ih =>
    intro p hr hp
    by_cases h : Zs.lastTo F p m = true
    · exact ⟨p, hp, h, rfl⟩
    · have h2 : ∃ j, j < m ∧ p < j ∧ F.getD j 0 = F.getD p 0 := by
        refine Classical.byContradiction fun hn => h ((Zs.last_iff F p m).2 fun j h1 h3 e => hn ⟨j, h1, h3, e⟩)
      obtain ⟨j, h3, h4, h5⟩ := h2
      obtain ⟨q, q1, q2, q3⟩ := ih (m - j) (by omega) j rfl h3
      exact ⟨q, q1, q2, q3.trans h5⟩
theorem Tr.leaves_list (xs : Tr) (k : Nat) : Tr.leavesTo xs k = ((List.range k).filter fun j => decide (Tr.endN xs j = j + 1)).length := by
  induction k with
  | zero => rfl
  | succ k ih =>
    rw [Tr.leavesTo_succ, List.range_succ, List.filter_append, List.length_append, ih]
    by_cases h : Tr.endN xs k = k + 1 <;> simp [h]
section
variable {xs : Tr} (hok : Tr.ok xs = true)
include hok
theorem Tr.leaf_ex : ∀ r i, i < xs.length → Tr.endN xs i - i = r → ∃ l, i ≤ l ∧ l < Tr.endN xs i ∧ Tr.endN xs l = l + 1 ∧ l + Tr.dn xs i = i + Tr.dn xs l := by
  intro r
  induction r using Nat.strongRecOn with
  | ind r ih =>
    intro i hi hr
    have a := Tr.endN_dn hok hi
    by_cases e : Tr.endN xs i = i + 1
    · exact ⟨i, Nat.le_refl _, a.1, e, rfl⟩
    · have h1 := a.2.2.1 (i + 1) (by omega) (by omega)
      have h2 := (Tr.dn_succ hok (i := i) (by omega)).2
      have h3 := Tr.endN_in hok hi (j := i + 1) (by omega) (by omega)
      have h4 := (Tr.endN_dn hok (i := i + 1) (by omega)).1
      obtain ⟨l, l1, l2, l3, l4⟩ := ih (Tr.endN xs (i + 1) - (i + 1)) (by omega) (i + 1) (by omega) rfl
      exact ⟨l, by omega, by omega, l3, by omega⟩
theorem Tr.lf_at {p : Nat} (hp : p < xs.length) : ∃ i, i < xs.length ∧ Tr.rk xs i = p ∧ (Tr.lfs xs).getD p 0 = i - Tr.dn xs i := by
  obtain ⟨i, h1, h2, h3⟩ := Tr.post_get hok hp
  refine ⟨i, h1, h3, ?_⟩
  unfold Tr.lfs
  rw [List.getD_eq_getElem?_getD, List.getElem?_map, h2]
  rfl
theorem Tr.lf_rk {i : Nat} (hi : i < xs.length) : (Tr.lfs xs).getD (Tr.rk xs i) 0 = i - Tr.dn xs i := by
  obtain ⟨j, h1, h2, h3⟩ := Tr.lf_at hok (Tr.rk_lt hok hi)
  rw [h3, Tr.rk_inj hok h1 hi h2]
theorem Tr.krs_leaves : (Tr.krs xs).length = Tr.leavesTo xs xs.length := by
  have hlen : (Tr.lfs xs).length = xs.length := by rw [Tr.lfs_length, Tr.post_length hok]
  obtain ⟨F, hF⟩ : ∃ F, F = Tr.lfs xs := ⟨_, rfl⟩
  have hkr : Tr.krs xs = (List.range xs.length).filter fun j => Zs.lastTo F j xs.length := by
    unfold Tr.krs Tr.krTo
    rw [← hF] at hlen ⊢
    rw [hlen]
  have hmem : ∀ p, p ∈ Tr.krs xs ↔ p < xs.length ∧ Zs.lastTo F p xs.length = true := fun p => by rw [hkr]; simp
  have nd1 : ((Tr.krs xs).map fun p => F.getD p 0).Nodup := by
    unfold List.Nodup
    rw [List.pairwise_map]
    have hpw : List.Pairwise (· < ·) (Tr.krs xs) := by rw [hkr]; exact List.pairwise_lt_range.filter _
    refine List.Pairwise.imp_of_mem (fun {a b} ha hb hab e => ?_) hpw
    exact (Zs.last_iff F a xs.length).1 ((hmem a).1 ha).2 b ((hmem b).1 hb).1 hab e.symm
  have nd2 : (((List.range xs.length).filter fun j => decide (Tr.endN xs j = j + 1)).map (Tr.rk xs)).Nodup := by
    unfold List.Nodup
    rw [List.pairwise_map]
    have hpw : List.Pairwise (· < ·) ((List.range xs.length).filter fun j => decide (Tr.endN xs j = j + 1)) := List.pairwise_lt_range.filter _
    refine List.Pairwise.imp_of_mem (fun {a b} ha hb hab e => ?_) hpw
    simp only [List.mem_filter, List.mem_range] at ha hb
    have := Tr.rk_inj hok ha.1 hb.1 e
    omega
  have hperm := (List.perm_ext_iff_of_nodup nd1 nd2).2 fun v => by
    simp only [List.mem_map, List.mem_filter, List.mem_range, decide_eq_true_eq]
    constructor
    · rintro ⟨p, hp, rfl⟩
      obtain ⟨i, h1, h2, h3⟩ := Tr.lf_at hok ((hmem p).1 hp).1
      obtain ⟨l, l1, l2, l3, l4⟩ := Tr.leaf_ex hok _ i h1 rfl
      have hln : l < xs.length := by have := (Tr.endN_dn hok h1).2.1; omega
      refine ⟨l, ⟨hln, l3⟩, ?_⟩
      have q1 := Tr.dn_le hok h1
      have q2 := Tr.dn_le hok hln
      rw [hF, h3]
      unfold Tr.rk
      rw [l3]
      omega
    · rintro ⟨l, ⟨hln, l3⟩, rfl⟩
      have h3 := Tr.lf_rk hok hln
      obtain ⟨q, q1, q2, q3⟩ := Zs.last_ex F xs.length _ (Tr.rk xs l) rfl (Tr.rk_lt hok hln)
      refine ⟨q, (hmem q).2 ⟨q1, q2⟩, ?_⟩
      rw [q3, hF, h3]
      unfold Tr.rk
      rw [l3]
      omega
  have := hperm.length_eq
  rw [List.length_map, List.length_map, ← Tr.leaves_list] at this
  exact this
theorem Tr.krs_last : ∃ r, Tr.krs xs = r ++ [xs.length - 1] := by
  have hlen : (Tr.lfs xs).length = xs.length := by rw [Tr.lfs_length, Tr.post_length hok]
  have h1 := (Tr.ok_iff.1 hok).2
  refine ⟨Tr.krTo xs (xs.length - 1), ?_⟩
  unfold Tr.krs
  have := Tr.krTo_succ xs (xs.length - 1)
  rw [show xs.length - 1 + 1 = xs.length by omega, hlen] at this
  rw [hlen, this, if_pos ((Zs.last_iff _ _ _).2 fun j h2 h3 => by omega)]
end
theorem Tr.krs_rise {xs : Tr} {a b : Nat} (hab : a < b) (hb : b < (Tr.krs xs).length) : (Tr.krs xs)[a] < (Tr.krs xs)[b] := by
  have hpw : List.Pairwise (· < ·) (Tr.krs xs) := by unfold Tr.krs Tr.krTo; exact List.pairwise_lt_range.filter _
  exact List.pairwise_iff_getElem.1 hpw a b (by omega) hb hab

end Go.Proofs.Ytkccnlcghlkioaa
