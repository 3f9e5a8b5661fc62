/- Texts of one claim laid into one file, in build order: Pst, Pst2, Mp, LabOkI, Num, C1P. -/
import Derived.Test.YtnfjdlocmdgefaaEa1
import Derived.Lib.Bytealg
import Derived.Lib.Strings
import Derived.Test.YtnfjdlocmdgefaaRows
import Derived.WalkKit
/- Contracts (Pst). -/
namespace Go.Proofs.Ytnfjdlocmdgefaa
open Go.RowKit
set_option linter.unusedVariables false

/-! Postorder of a right tree, as plain mathematics. dn: the depth as a number; rk: a node's place in postorder, endN - 1 - dn; the place of its first leaf is i - dn i. -/
def Tr.dn (xs : Tr) (i : Nat) : Nat := (Tr.d xs i).toNat
section
variable {xs : Tr} (h : Tr.ok xs = true)
include h
theorem Tr.dn_eq {i : Nat} (hi : i < xs.length) : (Tr.dn xs i : Int) = Tr.d xs i := by
  have := (Tr.ok_at h hi).2.1
  unfold Tr.dn
  omega
theorem Tr.dn_zero : Tr.dn xs 0 = 0 := by
  have h0 := (Tr.ok_iff.1 h).2
  have h1 := (Tr.ok_at h (k := 0) (by omega)).2.2.1
  have h2 := Tr.dn_eq h (i := 0) (by omega)
  omega
theorem Tr.dn_succ {i : Nat} (hi : i + 1 < xs.length) : 1 ≤ Tr.dn xs (i + 1) ∧ Tr.dn xs (i + 1) ≤ Tr.dn xs i + 1 := by
  have h1 := Tr.ok_at h hi
  have h2 := Tr.dn_eq h hi
  have h3 := Tr.dn_eq h (i := i) (by omega)
  have h4 := h1.2.2.2
  rw [show i + 1 - 1 = i by omega] at h4
  omega
theorem Tr.gap_mono {i j : Nat} (hij : i ≤ j) (hj : j < xs.length) : i + Tr.dn xs j ≤ j + Tr.dn xs i := by
  induction j with
  | zero => obtain rfl : i = 0 := by omega
            omega
  | succ j ih =>
    by_cases e : i = j + 1
    · subst e; omega
    · have := ih (by omega) (by omega)
      have := (Tr.dn_succ h hj).2
      omega
theorem Tr.dn_le {i : Nat} (hi : i < xs.length) : Tr.dn xs i ≤ i := by
  have := Tr.gap_mono h (Nat.zero_le i) hi
  have := Tr.dn_zero h
  omega
/-- endN, with depths as numbers -/
theorem Tr.endN_dn {i : Nat} (hi : i < xs.length) : i < Tr.endN xs i ∧ Tr.endN xs i ≤ xs.length ∧ (∀ j, i < j → j < Tr.endN xs i → Tr.dn xs i < Tr.dn xs j) ∧ (Tr.endN xs i = xs.length ∨ (Tr.endN xs i < xs.length ∧ Tr.dn xs (Tr.endN xs i) ≤ Tr.dn xs i)) := by
  obtain ⟨h1, h2, h3, h4⟩ := Tr.endN_spec xs i hi
  refine ⟨h1, h2, fun j a b => ?_, ?_⟩
  · have := h3 j a b
    have := Tr.dn_eq h hi
    have := Tr.dn_eq h (i := j) (by omega)
    omega
  · rcases h4 with h4 | h4
    · exact .inl h4
    · by_cases e : Tr.endN xs i = xs.length
      · exact .inl e
      · have := Tr.dn_eq h hi
        have := Tr.dn_eq h (i := Tr.endN xs i) (by omega)
        exact .inr ⟨by omega, by omega⟩
theorem Tr.endN_in {i j : Nat} (hi : i < xs.length) (hij : i < j) (hj : j < Tr.endN xs i) : Tr.endN xs j ≤ Tr.endN xs i := by
  obtain ⟨a1, a2, a3, a4⟩ := Tr.endN_dn h hi
  obtain ⟨b1, b2, b3, b4⟩ := Tr.endN_dn h (i := j) (by omega)
  by_cases e : Tr.endN xs j ≤ Tr.endN xs i
  · exact e
  · have c1 := a3 j hij hj
    have c2 := b3 (Tr.endN xs i) hj (by omega)
    omega
end
def Tr.rk (xs : Tr) (i : Nat) : Nat := Tr.endN xs i - 1 - Tr.dn xs i
section
variable {xs : Tr} (h : Tr.ok xs = true)
include h
theorem Tr.rk_ge {i j : Nat} (hij : i ≤ j) (hj : j < xs.length) : i - Tr.dn xs i ≤ Tr.rk xs j := by
  have := Tr.gap_mono h hij hj
  have := Tr.dn_le h hj
  have := Tr.dn_le h (i := i) (by omega)
  have := (Tr.endN_dn h hj).1
  unfold Tr.rk
  omega
theorem Tr.rk_lt {i : Nat} (hi : i < xs.length) : Tr.rk xs i < xs.length := by
  have := Tr.endN_dn h hi
  unfold Tr.rk
  omega
theorem Tr.rk_under {i j : Nat} (hi : i < xs.length) (hij : i < j) (hj : j < Tr.endN xs i) : Tr.rk xs j < Tr.rk xs i := by
  have a := Tr.endN_dn h hi
  have b := Tr.endN_in h hi hij hj
  have c := a.2.2.1 j hij hj
  have d := Tr.dn_le h (i := j) (by omega)
  have e := (Tr.endN_dn h (i := j) (by omega)).1
  unfold Tr.rk
  omega
theorem Tr.rk_left {i j : Nat} (hi : i < xs.length) (hij : Tr.endN xs i ≤ j) (hj : j < xs.length) : Tr.rk xs i < Tr.rk xs j := by
  have a := Tr.endN_dn h hi
  have b := Tr.gap_mono h hij hj
  have c := Tr.dn_le h hj
  have d := Tr.dn_le h hi
  have e := (Tr.endN_dn h hj).1
  unfold Tr.rk
  omega
theorem Tr.rk_inj {i j : Nat} (hi : i < xs.length) (hj : j < xs.length) (e : Tr.rk xs i = Tr.rk xs j) : i = j := by
  rcases Nat.lt_trichotomy i j with hij | hij | hij
  · by_cases hu : j < Tr.endN xs i
    · have := Tr.rk_under h hi hij hu; omega
    · have := Tr.rk_left h hi (show Tr.endN xs i ≤ j by omega) hj; omega
  · exact hij
  · by_cases hu : i < Tr.endN xs j
    · have := Tr.rk_under h hj hij hu; omega
    · have := Tr.rk_left h hj (show Tr.endN xs j ≤ i by omega) hi; omega
end
/-- the subtree of i in postorder, by kids; the fuel is at least the number of nodes under i -/
def Tr.postF (xs : Tr) : Nat → Nat → List Nat
  | 0, i => [i]
  | f + 1, i => (Tr.kidsTo xs i (Tr.endN xs i)).flatMap (Tr.postF xs f) ++ [i]
/-- up to place k of the children's row of i, a kid stands next (or none is left) -/
def Tr.bound (xs : Tr) (i k : Nat) : Prop := i < k ∧ k ≤ Tr.endN xs i ∧ (k < Tr.endN xs i → Tr.dn xs k = Tr.dn xs i + 1)
section
variable {xs : Tr} (h : Tr.ok xs = true)
include h
theorem Tr.bound_start {i : Nat} (hi : i < xs.length) : Tr.bound xs i (i + 1) := by
  have a := Tr.endN_dn h hi
  refine ⟨by omega, by omega, fun hk => ?_⟩
  have := a.2.2.1 (i + 1) (by omega) hk
  have := Tr.dn_succ h (i := i) (by omega)
  omega
theorem Tr.bound_next {i k : Nat} (hi : i < xs.length) (hb : Tr.bound xs i k) (hk : k < Tr.endN xs i) : Tr.bound xs i (Tr.endN xs k) ∧ k < Tr.endN xs k := by
  have a := Tr.endN_dn h hi
  have b := Tr.endN_dn h (i := k) (by omega)
  have c := Tr.endN_in h hi hb.1 hk
  have d := hb.2.2 hk
  have b1 := b.1
  have b4 := b.2.2.2
  have hb1 := hb.1
  refine ⟨⟨by omega, c, fun e => ?_⟩, b.1⟩
  have := a.2.2.1 (Tr.endN xs k) (by omega) e
  omega
theorem Tr.kids_in {i k m : Nat} (hi : i < xs.length) (hb : Tr.bound xs i k) (hk : k < Tr.endN xs i) (hm : k < m) (hm2 : m ≤ Tr.endN xs k) : Tr.kidsTo xs i m = Tr.kidsTo xs i k ++ [k] := by
  have a := Tr.endN_dn h hi
  have b := Tr.endN_dn h (i := k) (by omega)
  induction m with
  | zero => omega
  | succ m ih =>
    have e1 := Tr.dn_eq h hi
    rw [Tr.kidsTo_succ xs i m (by have := hb.1; omega)]
    by_cases e : m = k
    · subst e
      have e2 := Tr.dn_eq h (i := m) (by omega)
      have := hb.2.2 hk
      rw [if_pos (by omega)]
    · have e2 := Tr.dn_eq h (i := m) (by omega)
      have e3 := b.2.2.1 m (by omega) (by omega)
      have := hb.2.2 hk
      rw [if_neg (by omega)]
      exact ih (by omega) (by omega)
theorem Tr.postF_spec (f : Nat) : ∀ i, i < xs.length → Tr.endN xs i - i ≤ f + 1 →
    (Tr.postF xs f i).length = Tr.endN xs i - i ∧ ∀ j, i ≤ j → j < Tr.endN xs i → (Tr.postF xs f i)[Tr.rk xs j - (i - Tr.dn xs i)]? = some j := by
  induction f with
  | zero =>
    intro i hi hf
    have a := Tr.endN_dn h hi
    refine ⟨by simp [Tr.postF]; omega, fun j h1 h2 => ?_⟩
    obtain rfl : j = i := by omega
    have : Tr.rk xs j - (j - Tr.dn xs j) = 0 := by
      have := Tr.dn_le h hi
      unfold Tr.rk; omega
    rw [this]; rfl
  | succ f ih =>
    intro i hi hf
    have a := Tr.endN_dn h hi
    have hdi := Tr.dn_le h hi
    have key : ∀ r k, Tr.endN xs i - k = r → Tr.bound xs i k →
        (((Tr.kidsTo xs i k).flatMap (Tr.postF xs f)).length = k - (i + 1) ∧ ∀ j, i < j → j < k → ((Tr.kidsTo xs i k).flatMap (Tr.postF xs f))[Tr.rk xs j - (i - Tr.dn xs i)]? = some j) →
        ((Tr.kidsTo xs i (Tr.endN xs i)).flatMap (Tr.postF xs f)).length = Tr.endN xs i - (i + 1) ∧ ∀ j, i < j → j < Tr.endN xs i → ((Tr.kidsTo xs i (Tr.endN xs i)).flatMap (Tr.postF xs f))[Tr.rk xs j - (i - Tr.dn xs i)]? = some j := by
      intro r
      induction r using Nat.strongRecOn with
      | ind r ihr =>
        intro k hr hb hk
        by_cases e : k = Tr.endN xs i
        · rw [← e]; exact hk
        · have hki : k < Tr.endN xs i := by have := hb.2.1; omega
          obtain ⟨hb', hlt⟩ := Tr.bound_next h hi hb hki
          have hkn : k < xs.length := by omega
          have hdk := hb.2.2 hki
          have hdk2 := Tr.dn_le h hkn
          have hik := hb.1
          have hsub := hb'.2.1
          obtain ⟨s1, s2⟩ := ih k hkn (by omega)
          refine ihr _ ?_ _ rfl hb' ?_
          · omega
          · rw [Tr.kids_in h hi hb hki hlt (Nat.le_refl _), List.flatMap_append]
            simp only [List.flatMap_cons, List.flatMap_nil, List.append_nil]
            refine ⟨by rw [List.length_append, hk.1, s1]; omega, fun j h1 h2 => ?_⟩
            by_cases hjk : j < k
            · have hc := hk.2 j h1 hjk
              have hlen := (List.getElem?_eq_some_iff.1 hc).1
              rw [List.getElem?_append_left hlen]
              exact hc
            · have hc := s2 j (by omega) h2
              have hge := Tr.rk_ge h (i := k) (j := j) (by omega) (by omega)
              rw [List.getElem?_append_right (by rw [hk.1]; omega), hk.1]
              rw [show Tr.rk xs j - (i - Tr.dn xs i) - (k - (i + 1)) = Tr.rk xs j - (k - Tr.dn xs k) by omega]
              exact hc
    have hstart := key _ (i + 1) rfl (Tr.bound_start h hi) ⟨by rw [Tr.kidsTo_start]; simp, fun j h1 h2 => by omega⟩
    obtain ⟨p1, p2⟩ := hstart
    unfold Tr.postF
    refine ⟨by rw [List.length_append, p1]; simp; omega, fun j h1 h2 => ?_⟩
    by_cases e : j = i
    · subst e
      rw [List.getElem?_append_right (by rw [p1]; unfold Tr.rk; omega), p1]
      have : Tr.rk xs j - (j - Tr.dn xs j) - (Tr.endN xs j - (j + 1)) = 0 := by unfold Tr.rk; omega
      rw [this]; rfl
    · have hc := p2 j (by omega) h2
      have hlen := (List.getElem?_eq_some_iff.1 hc).1
      rw [List.getElem?_append_left hlen]
      exact hc
end
/-- all nodes in postorder -/
def Tr.post (xs : Tr) : List Nat := if Tr.ok xs then Tr.postF xs xs.length 0 else []
section
variable {xs : Tr} (h : Tr.ok xs = true)
include h
theorem Tr.endN_zero : Tr.endN xs 0 = xs.length := by
  have h0 := (Tr.ok_iff.1 h).2
  have a := Tr.endN_dn h (i := 0) (by omega)
  rcases a.2.2.2 with e | ⟨e1, e2⟩
  · exact e
  · have h3 := Tr.dn_zero h
    have h4 := Tr.dn_succ h (i := Tr.endN xs 0 - 1) (by omega)
    rw [show Tr.endN xs 0 - 1 + 1 = Tr.endN xs 0 by omega] at h4
    omega
theorem Tr.post_length : (Tr.post xs).length = xs.length := by
  have h0 := (Tr.ok_iff.1 h).2
  have := (Tr.postF_spec h xs.length 0 (by omega) (by rw [Tr.endN_zero h]; omega)).1
  rw [Tr.post, if_pos h, this, Tr.endN_zero h]
  omega
theorem Tr.post_rk {j : Nat} (hj : j < xs.length) : (Tr.post xs)[Tr.rk xs j]? = some j := by
  have h0 := (Tr.ok_iff.1 h).2
  have := (Tr.postF_spec h xs.length 0 (by omega) (by rw [Tr.endN_zero h]; omega)).2 j (Nat.zero_le _) (by rw [Tr.endN_zero h]; exact hj)
  rw [Tr.post, if_pos h]
  simpa using this
end

end Go.Proofs.Ytnfjdlocmdgefaa

/- Contracts (Pst2). -/
namespace Go.Proofs.Ytnfjdlocmdgefaa
open Go.RowKit
set_option linter.unusedVariables false

/-- a map of [0, n) into itself that tells all apart meets all -/
theorem pigeon : ∀ (n : Nat) (f : Nat → Nat), (∀ i, i < n → f i < n) → (∀ i j, i < n → j < n → f i = f j → i = j) → ∀ q, q < n → ∃ i, i < n ∧ f i = q := by
  intro n
  induction n with
  | zero => intro f _ _ q hq; omega
  | succ n ih =>
    intro f hf hinj q hq
    have hg1 : ∀ i, i < n → (if f i = n then f n else f i) < n := by
      intro i hi
      split
      · rename_i e
        have := hf n (by omega)
        by_cases e2 : f n = n
        · have := hinj i n (by omega) (by omega) (by omega); omega
        · omega
      · have := hf i (by omega); omega
    have hg2 : ∀ i j, i < n → j < n → (if f i = n then f n else f i) = (if f j = n then f n else f j) → i = j := by
      intro i j hi hj e
      split at e <;> split at e
      · exact hinj i j (by omega) (by omega) (by omega)
      · have := hinj n j (by omega) (by omega) e; omega
      · have := hinj i n (by omega) (by omega) e; omega
      · exact hinj i j (by omega) (by omega) e
    have H := ih (fun i => if f i = n then f n else f i) hg1 hg2
    by_cases e : q = f n
    · exact ⟨n, by omega, e.symm⟩
    · by_cases e2 : q = n
      · obtain ⟨i, hi, h⟩ := H (f n) (by have := hf n (by omega); omega)
        split at h
        · rename_i h'; exact ⟨i, by omega, by omega⟩
        · have := hinj i n (by omega) (by omega) h; omega
      · obtain ⟨i, hi, h⟩ := H q (by omega)
        split at h
        · exact absurd h.symm e
        · exact ⟨i, by omega, h⟩
section
variable {xs : Tr} (h : Tr.ok xs = true)
include h
theorem Tr.post_get {k : Nat} (hk : k < xs.length) : ∃ i, i < xs.length ∧ (Tr.post xs)[k]? = some i ∧ Tr.rk xs i = k := by
  obtain ⟨i, hi, e⟩ := pigeon xs.length (Tr.rk xs) (fun i hi => Tr.rk_lt h hi) (fun i j hi hj e => Tr.rk_inj h hi hj e) k hk
  exact ⟨i, hi, by rw [← e]; exact Tr.post_rk h hi, e⟩
end
theorem Tr.post_none {xs : Tr} (h : Tr.ok xs = false) : Tr.post xs = [] := by unfold Tr.post; rw [h]; rfl
theorem Tr.post_len_le (xs : Tr) : (Tr.post xs).length ≤ xs.length := by
  rcases h : Tr.ok xs with _ | _
  · rw [Tr.post_none h]; exact Nat.zero_le _
  · rw [Tr.post_length h]; exact Nat.le_refl _
theorem Tr.post_ok {xs : Tr} {k : Nat} (hk : k < (Tr.post xs).length) : Tr.ok xs = true ∧ (Tr.post xs).length = xs.length := by
  rcases h : Tr.ok xs with _ | _
  · rw [Tr.post_none h] at hk; simp at hk
  · exact ⟨rfl, Tr.post_length h⟩
/-- one place of the postorder: its node -/
theorem Tr.post_at {xs : Tr} {k : Nat} (hk : k < (Tr.post xs).length) : ∃ i, i < (Tr.post xs).length ∧ (Tr.post xs)[k]? = some i ∧ Tr.rk xs i = k ∧ Tr.ok xs = true ∧ (Tr.post xs).length = xs.length := by
  obtain ⟨h1, h2⟩ := Tr.post_ok hk
  obtain ⟨i, a, b, c⟩ := Tr.post_get h1 (k := k) (by omega)
  exact ⟨i, by omega, b, c, h1, h2⟩
def Tr.rks (xs : Tr) : List Nat := (List.range (Tr.post xs).length).map (Tr.rk xs)
theorem Tr.rks_length (xs : Tr) : (Tr.rks xs).length = (Tr.post xs).length := by simp [Tr.rks]
/-- the place of the first leaf, for each place -/
def Tr.lfs (xs : Tr) : List Nat := (Tr.post xs).map fun i => i - Tr.dn xs i
theorem Tr.lfs_length (xs : Tr) : (Tr.lfs xs).length = (Tr.post xs).length := by simp [Tr.lfs]
/-- of a row the places whose value does not come again up to m -/
def Zs.lastTo (f : List Nat) (k m : Nat) : Bool := (List.range m).all fun j => decide (j ≤ k) || decide (f.getD j 0 ≠ f.getD k 0)
def Tr.krTo (xs : Tr) (k : Nat) : List Nat := (List.range k).filter fun j => Zs.lastTo (Tr.lfs xs) j (Tr.lfs xs).length
def Tr.krs (xs : Tr) : List Nat := Tr.krTo xs (Tr.lfs xs).length
theorem Tr.krTo_succ (xs : Tr) (k : Nat) : Tr.krTo xs (k + 1) = if Zs.lastTo (Tr.lfs xs) k (Tr.lfs xs).length = true then Tr.krTo xs k ++ [k] else Tr.krTo xs k := by
  unfold Tr.krTo
  rw [List.range_succ, List.filter_append]
  by_cases h : Zs.lastTo (Tr.lfs xs) k (Tr.lfs xs).length = true <;> simp [h]
theorem Tr.krTo_le (xs : Tr) (k : Nat) : (Tr.krTo xs k).length ≤ k := by
  have := List.length_filter_le (fun j => Zs.lastTo (Tr.lfs xs) j (Tr.lfs xs).length) (List.range k)
  simpa [Tr.krTo] using this
/-- is j under i; does j come behind i, and all under it -/
def Tr.under (xs : Tr) (i j : Int) : Bool := Tr.has xs i && Tr.has xs j && decide (i < j) && decide (j < Tr.endOf xs i)
def Tr.leftOf (xs : Tr) (i j : Int) : Bool := Tr.has xs i && Tr.has xs j && decide (Tr.endOf xs i ≤ j)
/-- the first place of i in zs, counted from k -/
def Zs.find : List Int → Int → Nat → Int
  | [], _, _ => -1
  | z :: zs, i, k => if z = i then k else Zs.find zs i (k + 1)
theorem Zs.find_step (zs : List Int) (i : Int) (k : Nat) (hk : k < zs.length) : Zs.find (zs.drop k) i k = if zs.getD k 0 = i then (k : Int) else Zs.find (zs.drop (k + 1)) i (k + 1) := by
  rw [List.drop_eq_getElem_cons hk]
  simp [Zs.find, List.getD_eq_getElem?_getD, hk]
end Go.Proofs.Ytnfjdlocmdgefaa

/- Contracts (Mp). -/
namespace Go.Proofs.Ytnfjdlocmdgefaa
open Go.RowKit
set_option linter.unusedVariables false

/-- pair k can stand ahead of (a, b) -/
def Mp.at (xs ys ms : Tr) (a b : Int) (k : Nat) : Bool := decide (Tr.l ms k < a) && decide (Tr.d ms k < b) && (Tr.under xs (Tr.l ms k) a == Tr.under ys (Tr.d ms k) b)
def Mp.after (xs ys ms : Tr) (n : Nat) (a b : Int) : Bool := (List.range n).all (Mp.at xs ys ms a b)
def Mp.okAt (xs ys ms : Tr) (i : Nat) : Bool := Tr.has xs (Tr.l ms i) && Tr.has ys (Tr.d ms i) && Mp.after xs ys ms i (Tr.l ms i) (Tr.d ms i)
/-- a valid mapping -/
def Mp.ok (xs ys ms : Tr) : Bool := Tr.ok xs && Tr.ok ys && (List.range ms.length).all (Mp.okAt xs ys ms)
section
variable {xs ys ms : Tr} {a b : Int} {n i k : Nat}
theorem Mp.after_iff : Mp.after xs ys ms n a b = true ↔ ∀ k, k < n → Mp.at xs ys ms a b k = true := by
  unfold Mp.after
  rw [List.all_eq_true]
  exact ⟨fun h k hk => h k (List.mem_range.2 hk), fun h k hk => h k (List.mem_range.1 hk)⟩
theorem Mp.after_no (hk : k < n) (h : Mp.at xs ys ms a b k = false) : Mp.after xs ys ms n a b = false := by
  cases e : Mp.after xs ys ms n a b with
  | false => rfl
  | true => rw [Mp.after_iff.1 e k hk] at h; cases h
theorem Mp.all_iff : (List.range ms.length).all (Mp.okAt xs ys ms) = true ↔ ∀ k, k < ms.length → Mp.okAt xs ys ms k = true := by
  rw [List.all_eq_true]
  exact ⟨fun h k hk => h k (List.mem_range.2 hk), fun h k hk => h k (List.mem_range.1 hk)⟩
theorem Mp.ok_no (hk : k < ms.length) (h : Mp.okAt xs ys ms k = false) : Mp.ok xs ys ms = false := by
  cases e : Mp.ok xs ys ms with
  | false => rfl
  | true =>
    simp only [Mp.ok, Bool.and_eq_true] at e
    rw [Mp.all_iff.1 e.2 k hk] at h; cases h
theorem Mp.ok_yes (h : ∀ k, k < ms.length → Mp.okAt xs ys ms k = true) : Mp.ok xs ys ms = (Tr.ok xs && Tr.ok ys) := by
  unfold Mp.ok
  rw [Mp.all_iff.2 h, Bool.and_true]
theorem Mp.no_a (h : Tr.has xs (Tr.l ms i) = false) : Mp.okAt xs ys ms i = false := by unfold Mp.okAt; rw [h]; rfl
theorem Mp.no_b (h : Tr.has ys (Tr.d ms i) = false) : Mp.okAt xs ys ms i = false := by unfold Mp.okAt; rw [h, Bool.and_false]; rfl
theorem Mp.no_c (hk : k < i) (h : Mp.at xs ys ms (Tr.l ms i) (Tr.d ms i) k = false) : Mp.okAt xs ys ms i = false := by unfold Mp.okAt; rw [Mp.after_no hk h, Bool.and_false]
theorem Mp.at_l (h : ¬ Tr.l ms k < a) : Mp.at xs ys ms a b k = false := by unfold Mp.at; rw [decide_eq_false h]; rfl
theorem Mp.at_d (h : ¬ Tr.d ms k < b) : Mp.at xs ys ms a b k = false := by unfold Mp.at; rw [decide_eq_false h, Bool.and_false]; rfl
theorem Mp.at_u (h : Tr.under xs (Tr.l ms k) a ≠ Tr.under ys (Tr.d ms k) b) : Mp.at xs ys ms a b k = false := by
  unfold Mp.at
  rw [show (Tr.under xs (Tr.l ms k) a == Tr.under ys (Tr.d ms k) b) = false by simpa using h, Bool.and_false]
theorem Mp.at_yes (h1 : Tr.l ms k < a) (h2 : Tr.d ms k < b) (h3 : Tr.under xs (Tr.l ms k) a = Tr.under ys (Tr.d ms k) b) : Mp.at xs ys ms a b k = true := by
  unfold Mp.at
  rw [decide_eq_true h1, decide_eq_true h2, h3]
  simp
theorem Mp.okAt_yes (h1 : Tr.has xs (Tr.l ms i) = true) (h2 : Tr.has ys (Tr.d ms i) = true) (h : ∀ k, k < i → Mp.at xs ys ms (Tr.l ms i) (Tr.d ms i) k = true) : Mp.okAt xs ys ms i = true := by
  unfold Mp.okAt
  rw [h1, h2, Mp.after_iff.2 h]
  rfl
theorem Mp.okAt_parts (h : Mp.okAt xs ys ms i = true) : Tr.has xs (Tr.l ms i) = true ∧ Tr.has ys (Tr.d ms i) = true ∧ ∀ k, k < i → Tr.l ms k < Tr.l ms i ∧ Tr.d ms k < Tr.d ms i ∧ Tr.under xs (Tr.l ms k) (Tr.l ms i) = Tr.under ys (Tr.d ms k) (Tr.d ms i) := by
  simp only [Mp.okAt, Bool.and_eq_true] at h
  refine ⟨h.1.1, h.1.2, fun k hk => ?_⟩
  have := Mp.after_iff.1 h.2 k hk
  simp only [Mp.at, Bool.and_eq_true, decide_eq_true_eq, beq_iff_eq] at this
  exact ⟨this.1.1, this.1.2, this.2⟩
/-- all earlier ones lie below, if the last one does -/
theorem Mp.chain (h : ∀ q, q < i → Mp.okAt xs ys ms q = true) (hi : 0 < i → Tr.l ms (i - 1) < Tr.l ms i) (hk : k < i) : Tr.l ms k < Tr.l ms i := by
  have h0 := hi (by omega)
  by_cases e : k = i - 1
  · rw [e]; exact h0
  · have := ((Mp.okAt_parts (h (i - 1) (by omega))).2.2 k (by omega)).1
    omega
theorem Mp.at_take (hk : k < i) : Mp.at xs ys (ms.take i) a b k = Mp.at xs ys ms a b k := by
  have e : (ms.take i).getD k (0, 0) = ms.getD k (0, 0) := by simp [List.getD_eq_getElem?_getD, hk]
  unfold Mp.at Tr.l Tr.d
  rw [e]
theorem Mp.after_take : Mp.after xs ys (ms.take i) i a b = Mp.after xs ys ms i a b := by
  rw [Bool.eq_iff_iff, Mp.after_iff, Mp.after_iff]
  exact ⟨fun h k hk => (Mp.at_take hk).symm.trans (h k hk), fun h k hk => (Mp.at_take hk).trans (h k hk)⟩
end

end Go.Proofs.Ytnfjdlocmdgefaa

/- Contracts (LabOkI). -/
namespace Go.Proofs.Ytnfjdlocmdgefaa
open Go.RowKit
set_option linter.unusedVariables false

set_option maxHeartbeats 400000 in
theorem implLabelOk_any (n : Int) (w : World) :
    Calls Try.prog 72 #[.int .i64 n] w fun e w' => e = .returned (.bool (Lab.ok n)) ∧ w = w' := by
  go_enter Try.func72, Try.ntmps72
  go_wp2
  all_goals go_ret
  all_goals exact ⟨Kit.ret_bool (by unfold Lab.ok; first | (rw [decide_eq_decide]; omega) | (symm; rw [decide_eq_false_iff_not]; omega)), rfl⟩

end Go.Proofs.Ytnfjdlocmdgefaa

/- Plain mathematics of chapter 1 (bytes of a number), without the program. -/
namespace Go.Proofs.Ytnfjdlocmdgefaa.Num

/-- n divided k times by 256 -/
def dn (n : Nat) : Nat → Nat
  | 0 => n
  | k + 1 => dn n k / 256

theorem dn_pow (n k : Nat) : dn n k = n / 2 ^ (8 * k) := by
  induction k with
  | zero => simp [dn]
  | succ k ih =>
    rw [dn, ih, Nat.div_div_eq_div_mul]
    congr 1
    rw [Nat.mul_add, Nat.pow_add]

theorem dn_le (n k : Nat) : dn n k ≤ n := by
  rw [dn_pow]; exact Nat.div_le_self _ _

end Go.Proofs.Ytnfjdlocmdgefaa.Num

/- Plain mathematics of chapter 1. -/
namespace Go.Proofs.Ytnfjdlocmdgefaa
open Go.RowKit
set_option linter.unusedVariables false

/-- the varint of a number below 128^(f+1) -/
def Num.varF : Nat → Nat → List UInt8
  | 0, q => [UInt8.ofNat q]
  | f + 1, q => if q < 128 then [UInt8.ofNat q] else UInt8.ofNat (128 + q % 128) :: Num.varF f (q / 128)

/-- what Var gives -/
def Num.varR (n : Int) : List UInt8 := if 0 ≤ n ∧ n ≤ 562949953421311 then Num.varF 6 n.toNat else []

theorem Num.varF_big (f q : Nat) (h : 128 ≤ q) : Num.varF (f + 1) q = UInt8.ofNat (128 + q % 128) :: Num.varF f (q / 128) := by
  rw [Num.varF, if_neg (by omega)]

/-- what holds at each round's head: f bytes at most come behind those that are gathered -/
def Num.VarAt (m f q : Nat) (acc : List UInt8) : Prop := acc.length + f = 6 ∧ q < 128 ^ (f + 1) ∧ acc ++ Num.varF f q = Num.varF 6 m

theorem Num.VarAt.start {m : Nat} (h : m ≤ 562949953421311) : Num.VarAt m 6 m [] := ⟨rfl, by omega, by simp⟩

theorem Num.VarAt.len {m f q : Nat} {acc : List UInt8} (h : Num.VarAt m f q acc) : acc.length ≤ 6 := by have := h.1; omega

theorem Num.VarAt.step {m f q : Nat} {acc : List UInt8} (h : Num.VarAt m f q acc) (hq : 128 ≤ q) :
    ∃ f', f = f' + 1 ∧ Num.VarAt m f' (q / 128) (acc ++ [UInt8.ofNat (128 + q % 128)]) := by
  obtain ⟨h1, h2, h3⟩ := h
  cases f with
  | zero => omega
  | succ f =>
    refine ⟨f, rfl, by simp; omega, ?_, ?_⟩
    · rw [Nat.pow_succ] at h2
      exact Nat.div_lt_of_lt_mul (by omega)
    · rw [Num.varF_big f q hq] at h3
      simpa using h3

theorem Num.VarAt.le {m f q : Nat} {acc : List UInt8} (h : Num.VarAt m f q acc) : q ≤ 562949953421311 := by
  obtain ⟨h1, h2, _⟩ := h
  have : 128 ^ (f + 1) ≤ 128 ^ 7 := Nat.pow_le_pow_right (by omega) (by omega)
  omega

/-- the number of seven bits a byte, the least significant first -/
def Num.val7 : List UInt8 → Nat
  | [] => 0
  | b :: l => b.toNat % 128 + 128 * Num.val7 l

/-- the length up to the first byte below 128, among the first seven -/
def Num.vsz : Nat → List UInt8 → Nat → Nat
  | 0, _, _ => 0
  | _ + 1, [], _ => 0
  | f + 1, b :: l, i => if b.toNat < 128 then i + 1 else Num.vsz f l (i + 1)

def Num.vsize (l : List UInt8) : Nat := Num.vsz 7 l 0

/-- is the beginning of k bytes the varint of what it says? -/
def Num.good (l : List UInt8) (k : Nat) : Prop := Num.varF 6 (Num.val7 (l.take k)) = l.take k

instance (l : List UInt8) (k : Nat) : Decidable (Num.good l k) := by unfold Num.good; infer_instance

/-- what ReadVar gives -/
def Num.rvK (s : ByteArray) : Nat := if Num.good s.data.toList (Num.vsize s.data.toList) then Num.vsize s.data.toList else 0

def Num.rvN (s : ByteArray) : Nat := Num.val7 (s.data.toList.take (Num.rvK s))

end Go.Proofs.Ytnfjdlocmdgefaa
