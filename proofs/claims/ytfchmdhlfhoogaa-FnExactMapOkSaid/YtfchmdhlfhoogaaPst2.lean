/- Contracts (Pst2). -/
import Derived.Test.YtfchmdhlfhoogaaPst
namespace Go.Proofs.Ytfchmdhlfhoogaa
open Go.RowKit
set_option linter.unusedVariables false

/-- a map of [0, n) into itself that tells all apart meets all -/
theorem pigeon : ∀ (n : Nat) (f : Nat → Nat), (∀ i, i < n → f i < n) → (∀ i j, i < n → j < n → f i = f j → i = j) → ∀ q, q < n → ∃ i, i < n ∧ f i = q := by
  intro n
  induction n with
  | zero => intro f _ _ q hq; omega
  | succ n ih =>
    intro f hf hinj q hq
    have hg1 : ∀ i, i < n → (if f i = n then f n else f i) < n := by
      intro i hi
      split
      · rename_i e
        have := hf n (by omega)
        by_cases e2 : f n = n
        · have := hinj i n (by omega) (by omega) (by omega); omega
        · omega
      · have := hf i (by omega); omega
    have hg2 : ∀ i j, i < n → j < n → (if f i = n then f n else f i) = (if f j = n then f n else f j) → i = j := by
      intro i j hi hj e
      split at e <;> split at e
      · exact hinj i j (by omega) (by omega) (by omega)
      · have := hinj n j (by omega) (by omega) e; omega
      · have := hinj i n (by omega) (by omega) e; omega
      · exact hinj i j (by omega) (by omega) e
    have H := ih (fun i => if f i = n then f n else f i) hg1 hg2
    by_cases e : q = f n
    · exact ⟨n, by omega, e.symm⟩
    · by_cases e2 : q = n
      · obtain ⟨i, hi, h⟩ := H (f n) (by have := hf n (by omega); omega)
        split at h
        · rename_i h'; exact ⟨i, by omega, by omega⟩
        · have := hinj i n (by omega) (by omega) h; omega
      · obtain ⟨i, hi, h⟩ := H q (by omega)
        split at h
        · exact absurd h.symm e
        · exact ⟨i, by omega, h⟩
section
variable {xs : Tr} (h : Tr.ok xs = true)
include h
theorem Tr.post_get {k : Nat} (hk : k < xs.length) : ∃ i, i < xs.length ∧ (Tr.post xs)[k]? = some i ∧ Tr.rk xs i = k := by
  obtain ⟨i, hi, e⟩ := pigeon xs.length (Tr.rk xs) (fun i hi => Tr.rk_lt h hi) (fun i j hi hj e => Tr.rk_inj h hi hj e) k hk
  exact ⟨i, hi, by rw [← e]; exact Tr.post_rk h hi, e⟩
end
theorem Tr.post_none {xs : Tr} (h : Tr.ok xs = false) : Tr.post xs = [] := by unfold Tr.post; rw [h]; rfl
theorem Tr.post_len_le (xs : Tr) : (Tr.post xs).length ≤ xs.length := by
  rcases h : Tr.ok xs with _ | _
  · rw [Tr.post_none h]; exact Nat.zero_le _
  · rw [Tr.post_length h]; exact Nat.le_refl _
theorem Tr.post_ok {xs : Tr} {k : Nat} (hk : k < (Tr.post xs).length) : Tr.ok xs = true ∧ (Tr.post xs).length = xs.length := by
  rcases h : Tr.ok xs with _ | _
  · rw [Tr.post_none h] at hk; simp at hk
  · exact ⟨rfl, Tr.post_length h⟩
/-- one place of the postorder: its node -/
theorem Tr.post_at {xs : Tr} {k : Nat} (hk : k < (Tr.post xs).length) : ∃ i, i < (Tr.post xs).length ∧ (Tr.post xs)[k]? = some i ∧ Tr.rk xs i = k ∧ Tr.ok xs = true ∧ (Tr.post xs).length = xs.length := by
  obtain ⟨h1, h2⟩ := Tr.post_ok hk
  obtain ⟨i, a, b, c⟩ := Tr.post_get h1 (k := k) (by omega)
  exact ⟨i, by omega, b, c, h1, h2⟩
/-- the ranks that are known when k places are done -/
def Tr.rkTo (xs : Tr) (k : Nat) : List Nat := (List.range (Tr.post xs).length).map fun i => if Tr.rk xs i < k then Tr.rk xs i else 0
def Tr.rks (xs : Tr) : List Nat := (List.range (Tr.post xs).length).map (Tr.rk xs)
theorem Tr.rkTo_length (xs : Tr) (k : Nat) : (Tr.rkTo xs k).length = (Tr.post xs).length := by simp [Tr.rkTo]
theorem Tr.rks_length (xs : Tr) : (Tr.rks xs).length = (Tr.post xs).length := by simp [Tr.rks]
theorem Tr.rkTo_zero (xs : Tr) : Tr.rkTo xs 0 = List.replicate (Tr.post xs).length 0 := by
  unfold Tr.rkTo
  refine List.ext_getElem (by simp) fun i h1 h2 => by simp
theorem Tr.rkTo_all (xs : Tr) : Tr.rkTo xs (Tr.post xs).length = Tr.rks xs := by
  unfold Tr.rkTo Tr.rks
  refine List.map_congr_left fun i hi => ?_
  have hi := List.mem_range.1 hi
  obtain ⟨h1, h2⟩ := Tr.post_ok hi
  rw [if_pos (by rw [h2]; exact Tr.rk_lt h1 (by omega))]
theorem Tr.rkTo_set {xs : Tr} {i k : Nat} (hi : i < (Tr.post xs).length) (hk : Tr.rk xs i = k) : (Tr.rkTo xs k).set i k = Tr.rkTo xs (k + 1) := by
  obtain ⟨h1, h2⟩ := Tr.post_ok hi
  unfold Tr.rkTo
  refine List.ext_getElem (by simp) fun j a b => ?_
  simp only [List.length_map, List.length_range] at b
  by_cases e : j = i
  · subst e
    simp [hk]
  · rw [List.getElem_set_ne (by omega)]
    simp only [List.getElem_map, List.getElem_range]
    have hne : Tr.rk xs j ≠ k := fun q => e (Tr.rk_inj h1 (by omega) (by omega) (q.trans hk.symm))
    by_cases q : Tr.rk xs j < k
    · rw [if_pos q, if_pos (by omega)]
    · rw [if_neg q, if_neg (by omega)]
/-- the place of the first leaf, for each place -/
def Tr.lfs (xs : Tr) : List Nat := (Tr.post xs).map fun i => i - Tr.dn xs i
theorem Tr.lfs_length (xs : Tr) : (Tr.lfs xs).length = (Tr.post xs).length := by simp [Tr.lfs]
/-- the first leaf under i0, reached down a chain -/
theorem Tr.chain_end {xs : Tr} (h : Tr.ok xs = true) {i0 i : Nat} (hi0 : i0 ≤ i) (hi : i < Tr.endN xs i0) (h0 : i0 < xs.length) (hd : Tr.dn xs i = Tr.dn xs i0 + (i - i0)) (hend : ¬ (i + 1 < Tr.endN xs i0 ∧ Tr.d xs (i + 1) = Tr.d xs i + 1)) :
    Tr.rk xs i = i0 - Tr.dn xs i0 := by
  have a := Tr.endN_dn h h0
  have b := Tr.endN_dn h (i := i) (by omega)
  have c : Tr.endN xs i ≤ Tr.endN xs i0 := by
    by_cases e : i = i0
    · subst e; omega
    · exact Tr.endN_in h h0 (by omega) hi
  have d0 := Tr.dn_le h h0
  have e1 : Tr.endN xs i = i + 1 := by
    by_cases e : Tr.endN xs i = i + 1
    · exact e
    · have h1 := b.2.2.1 (i + 1) (by omega) (by omega)
      have h2 := (Tr.dn_succ h (i := i) (by omega)).2
      have h3 := Tr.dn_eq h (i := i) (by omega)
      have h4 := Tr.dn_eq h (i := i + 1) (by omega)
      exact absurd ⟨by omega, by omega⟩ hend
  unfold Tr.rk
  omega
/-- of a row the places whose value does not come again up to m -/
def Zs.lastTo (f : List Nat) (k m : Nat) : Bool := (List.range m).all fun j => decide (j ≤ k) || decide (f.getD j 0 ≠ f.getD k 0)
theorem Zs.lastTo_start (f : List Nat) (k : Nat) : Zs.lastTo f k (k + 1) = true := by
  simp only [Zs.lastTo, List.all_eq_true, List.mem_range]
  intro j hj
  simp; omega
theorem Zs.lastTo_succ (f : List Nat) (k m : Nat) (hm : k < m) : Zs.lastTo f k (m + 1) = (Zs.lastTo f k m && decide (f.getD m 0 ≠ f.getD k 0)) := by
  unfold Zs.lastTo
  rw [List.range_succ, List.all_append]
  have : decide (m ≤ k) = false := by simp; omega
  simp [this]
def Tr.krTo (xs : Tr) (k : Nat) : List Nat := (List.range k).filter fun j => Zs.lastTo (Tr.lfs xs) j (Tr.lfs xs).length
def Tr.krs (xs : Tr) : List Nat := Tr.krTo xs (Tr.lfs xs).length
theorem Tr.krTo_succ (xs : Tr) (k : Nat) : Tr.krTo xs (k + 1) = if Zs.lastTo (Tr.lfs xs) k (Tr.lfs xs).length = true then Tr.krTo xs k ++ [k] else Tr.krTo xs k := by
  unfold Tr.krTo
  rw [List.range_succ, List.filter_append]
  by_cases h : Zs.lastTo (Tr.lfs xs) k (Tr.lfs xs).length = true <;> simp [h]
theorem Tr.krTo_le (xs : Tr) (k : Nat) : (Tr.krTo xs k).length ≤ k := by
  have := List.length_filter_le (fun j => Zs.lastTo (Tr.lfs xs) j (Tr.lfs xs).length) (List.range k)
  simpa [Tr.krTo] using this
/-- is j under i; does j come behind i, and all under it -/
def Tr.under (xs : Tr) (i j : Int) : Bool := Tr.has xs i && Tr.has xs j && decide (i < j) && decide (j < Tr.endOf xs i)
def Tr.leftOf (xs : Tr) (i j : Int) : Bool := Tr.has xs i && Tr.has xs j && decide (Tr.endOf xs i ≤ j)
/-- the first place of i in zs, counted from k -/
def Zs.find : List Int → Int → Nat → Int
  | [], _, _ => -1
  | z :: zs, i, k => if z = i then k else Zs.find zs i (k + 1)
theorem Zs.find_step (zs : List Int) (i : Int) (k : Nat) (hk : k < zs.length) : Zs.find (zs.drop k) i k = if zs.getD k 0 = i then (k : Int) else Zs.find (zs.drop (k + 1)) i (k + 1) := by
  rw [List.drop_eq_getElem_cons hk]
  simp [Zs.find, List.getD_eq_getElem?_getD, hk]
def Tr.kidRank (xs : Tr) (i : Int) : Int := if Tr.parentOf xs i < 0 then -1 else Zs.find ((Tr.kidsOf xs (Tr.parentOf xs i)).map fun (m : Nat) => (m : Int)) i 0

end Go.Proofs.Ytfchmdhlfhoogaa
