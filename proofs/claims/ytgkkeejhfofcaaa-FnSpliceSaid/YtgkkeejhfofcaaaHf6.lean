/- Texts of one claim laid into one file, in build order: Pst, Pst2, KinP, KidsP. -/
import Derived.Test.YtgkkeejhfofcaaaHf1
import Derived.Test.YtgkkeejhfofcaaaHf2
/- Contracts (Pst). -/
namespace Go.Proofs.Ytgkkeejhfofcaaa
open Go.RowKit
set_option linter.unusedVariables false

/-! Postorder of a right tree, as plain mathematics. dn: the depth as a number; rk: a node's place in postorder, endN - 1 - dn; the place of its first leaf is i - dn i. -/
def Tr.dn (xs : Tr) (i : Nat) : Nat := (Tr.d xs i).toNat
section
variable {xs : Tr} (h : Tr.ok xs = true)
include h
theorem Tr.dn_eq {i : Nat} (hi : i < xs.length) : (Tr.dn xs i : Int) = Tr.d xs i := by
  have := (Tr.ok_at h hi).2.1
  unfold Tr.dn
  omega
theorem Tr.dn_zero : Tr.dn xs 0 = 0 := by
  have h0 := (Tr.ok_iff.1 h).2
  have h1 := (Tr.ok_at h (k := 0) (by omega)).2.2.1
  have h2 := Tr.dn_eq h (i := 0) (by omega)
  omega
theorem Tr.dn_succ {i : Nat} (hi : i + 1 < xs.length) : 1 ≤ Tr.dn xs (i + 1) ∧ Tr.dn xs (i + 1) ≤ Tr.dn xs i + 1 := by
  have h1 := Tr.ok_at h hi
  have h2 := Tr.dn_eq h hi
  have h3 := Tr.dn_eq h (i := i) (by omega)
  have h4 := h1.2.2.2
  rw [show i + 1 - 1 = i by omega] at h4
  omega
theorem Tr.gap_mono {i j : Nat} (hij : i ≤ j) (hj : j < xs.length) : i + Tr.dn xs j ≤ j + Tr.dn xs i := by
  induction j with
  | zero => obtain rfl : i = 0 := by omega
            omega
  | succ j ih =>
    by_cases e : i = j + 1
    · subst e; omega
    · have := ih (by omega) (by omega)
      have := (Tr.dn_succ h hj).2
      omega
theorem Tr.dn_le {i : Nat} (hi : i < xs.length) : Tr.dn xs i ≤ i := by
  have := Tr.gap_mono h (Nat.zero_le i) hi
  have := Tr.dn_zero h
  omega
/-- endN, with depths as numbers -/
theorem Tr.endN_dn {i : Nat} (hi : i < xs.length) : i < Tr.endN xs i ∧ Tr.endN xs i ≤ xs.length ∧ (∀ j, i < j → j < Tr.endN xs i → Tr.dn xs i < Tr.dn xs j) ∧ (Tr.endN xs i = xs.length ∨ (Tr.endN xs i < xs.length ∧ Tr.dn xs (Tr.endN xs i) ≤ Tr.dn xs i)) := by
  obtain ⟨h1, h2, h3, h4⟩ := Tr.endN_spec xs i hi
  refine ⟨h1, h2, fun j a b => ?_, ?_⟩
  · have := h3 j a b
    have := Tr.dn_eq h hi
    have := Tr.dn_eq h (i := j) (by omega)
    omega
  · rcases h4 with h4 | h4
    · exact .inl h4
    · by_cases e : Tr.endN xs i = xs.length
      · exact .inl e
      · have := Tr.dn_eq h hi
        have := Tr.dn_eq h (i := Tr.endN xs i) (by omega)
        exact .inr ⟨by omega, by omega⟩
theorem Tr.endN_in {i j : Nat} (hi : i < xs.length) (hij : i < j) (hj : j < Tr.endN xs i) : Tr.endN xs j ≤ Tr.endN xs i := by
  obtain ⟨a1, a2, a3, a4⟩ := Tr.endN_dn h hi
  obtain ⟨b1, b2, b3, b4⟩ := Tr.endN_dn h (i := j) (by omega)
  by_cases e : Tr.endN xs j ≤ Tr.endN xs i
  · exact e
  · have c1 := a3 j hij hj
    have c2 := b3 (Tr.endN xs i) hj (by omega)
    omega
end
def Tr.rk (xs : Tr) (i : Nat) : Nat := Tr.endN xs i - 1 - Tr.dn xs i
section
variable {xs : Tr} (h : Tr.ok xs = true)
include h
theorem Tr.rk_ge {i j : Nat} (hij : i ≤ j) (hj : j < xs.length) : i - Tr.dn xs i ≤ Tr.rk xs j := by
  have := Tr.gap_mono h hij hj
  have := Tr.dn_le h hj
  have := Tr.dn_le h (i := i) (by omega)
  have := (Tr.endN_dn h hj).1
  unfold Tr.rk
  omega
theorem Tr.rk_lt {i : Nat} (hi : i < xs.length) : Tr.rk xs i < xs.length := by
  have := Tr.endN_dn h hi
  unfold Tr.rk
  omega
theorem Tr.rk_under {i j : Nat} (hi : i < xs.length) (hij : i < j) (hj : j < Tr.endN xs i) : Tr.rk xs j < Tr.rk xs i := by
  have a := Tr.endN_dn h hi
  have b := Tr.endN_in h hi hij hj
  have c := a.2.2.1 j hij hj
  have d := Tr.dn_le h (i := j) (by omega)
  have e := (Tr.endN_dn h (i := j) (by omega)).1
  unfold Tr.rk
  omega
theorem Tr.rk_left {i j : Nat} (hi : i < xs.length) (hij : Tr.endN xs i ≤ j) (hj : j < xs.length) : Tr.rk xs i < Tr.rk xs j := by
  have a := Tr.endN_dn h hi
  have b := Tr.gap_mono h hij hj
  have c := Tr.dn_le h hj
  have d := Tr.dn_le h hi
  have e := (Tr.endN_dn h hj).1
  unfold Tr.rk
  omega
theorem Tr.rk_inj {i j : Nat} (hi : i < xs.length) (hj : j < xs.length) (e : Tr.rk xs i = Tr.rk xs j) : i = j := by
  rcases Nat.lt_trichotomy i j with hij | hij | hij
  · by_cases hu : j < Tr.endN xs i
    · have := Tr.rk_under h hi hij hu; omega
    · have := Tr.rk_left h hi (show Tr.endN xs i ≤ j by omega) hj; omega
  · exact hij
  · by_cases hu : i < Tr.endN xs j
    · have := Tr.rk_under h hj hij hu; omega
    · have := Tr.rk_left h hj (show Tr.endN xs j ≤ i by omega) hi; omega
end
/-- the subtree of i in postorder, by kids; the fuel is at least the number of nodes under i -/
def Tr.postF (xs : Tr) : Nat → Nat → List Nat
  | 0, i => [i]
  | f + 1, i => (Tr.kidsTo xs i (Tr.endN xs i)).flatMap (Tr.postF xs f) ++ [i]
/-- up to place k of the children's row of i, a kid stands next (or none is left) -/
def Tr.bound (xs : Tr) (i k : Nat) : Prop := i < k ∧ k ≤ Tr.endN xs i ∧ (k < Tr.endN xs i → Tr.dn xs k = Tr.dn xs i + 1)
section
variable {xs : Tr} (h : Tr.ok xs = true)
include h
theorem Tr.bound_start {i : Nat} (hi : i < xs.length) : Tr.bound xs i (i + 1) := by
  have a := Tr.endN_dn h hi
  refine ⟨by omega, by omega, fun hk => ?_⟩
  have := a.2.2.1 (i + 1) (by omega) hk
  have := Tr.dn_succ h (i := i) (by omega)
  omega
theorem Tr.bound_next {i k : Nat} (hi : i < xs.length) (hb : Tr.bound xs i k) (hk : k < Tr.endN xs i) : Tr.bound xs i (Tr.endN xs k) ∧ k < Tr.endN xs k := by
  have a := Tr.endN_dn h hi
  have b := Tr.endN_dn h (i := k) (by omega)
  have c := Tr.endN_in h hi hb.1 hk
  have d := hb.2.2 hk
  have b1 := b.1
  have b4 := b.2.2.2
  have hb1 := hb.1
  refine ⟨⟨by omega, c, fun e => ?_⟩, b.1⟩
  have := a.2.2.1 (Tr.endN xs k) (by omega) e
  omega
theorem Tr.kids_in {i k m : Nat} (hi : i < xs.length) (hb : Tr.bound xs i k) (hk : k < Tr.endN xs i) (hm : k < m) (hm2 : m ≤ Tr.endN xs k) : Tr.kidsTo xs i m = Tr.kidsTo xs i k ++ [k] := by
  have a := Tr.endN_dn h hi
  have b := Tr.endN_dn h (i := k) (by omega)
  induction m with
  | zero => omega
  | succ m ih =>
    have e1 := Tr.dn_eq h hi
    rw [Tr.kidsTo_succ xs i m (by have := hb.1; omega)]
    by_cases e : m = k
    · subst e
      have e2 := Tr.dn_eq h (i := m) (by omega)
      have := hb.2.2 hk
      rw [if_pos (by omega)]
    · have e2 := Tr.dn_eq h (i := m) (by omega)
      have e3 := b.2.2.1 m (by omega) (by omega)
      have := hb.2.2 hk
      rw [if_neg (by omega)]
      exact ih (by omega) (by omega)
theorem Tr.postF_spec (f : Nat) : ∀ i, i < xs.length → Tr.endN xs i - i ≤ f + 1 →
    (Tr.postF xs f i).length = Tr.endN xs i - i ∧ ∀ j, i ≤ j → j < Tr.endN xs i → (Tr.postF xs f i)[Tr.rk xs j - (i - Tr.dn xs i)]? = some j := by
  induction f with
  | zero =>
    intro i hi hf
    have a := Tr.endN_dn h hi
    refine ⟨by simp [Tr.postF]; omega, fun j h1 h2 => ?_⟩
    obtain rfl : j = i := by omega
    have : Tr.rk xs j - (j - Tr.dn xs j) = 0 := by
      have := Tr.dn_le h hi
      unfold Tr.rk; omega
    rw [this]; rfl
  | succ f ih =>
    intro i hi hf
    have a := Tr.endN_dn h hi
    have hdi := Tr.dn_le h hi
    have key : ∀ r k, Tr.endN xs i - k = r → Tr.bound xs i k →
        (((Tr.kidsTo xs i k).flatMap (Tr.postF xs f)).length = k - (i + 1) ∧ ∀ j, i < j → j < k → ((Tr.kidsTo xs i k).flatMap (Tr.postF xs f))[Tr.rk xs j - (i - Tr.dn xs i)]? = some j) →
        ((Tr.kidsTo xs i (Tr.endN xs i)).flatMap (Tr.postF xs f)).length = Tr.endN xs i - (i + 1) ∧ ∀ j, i < j → j < Tr.endN xs i → ((Tr.kidsTo xs i (Tr.endN xs i)).flatMap (Tr.postF xs f))[Tr.rk xs j - (i - Tr.dn xs i)]? = some j := by
      intro r
      induction r using Nat.strongRecOn with
      | ind r ihr =>
        intro k hr hb hk
        by_cases e : k = Tr.endN xs i
        · rw [← e]; exact hk
        · have hki : k < Tr.endN xs i := by have := hb.2.1; omega
          obtain ⟨hb', hlt⟩ := Tr.bound_next h hi hb hki
          have hkn : k < xs.length := by omega
          have hdk := hb.2.2 hki
          have hdk2 := Tr.dn_le h hkn
          have hik := hb.1
          have hsub := hb'.2.1
          obtain ⟨s1, s2⟩ := ih k hkn (by omega)
          refine ihr _ ?_ _ rfl hb' ?_
          · omega
          · rw [Tr.kids_in h hi hb hki hlt (Nat.le_refl _), List.flatMap_append]
            simp only [List.flatMap_cons, List.flatMap_nil, List.append_nil]
            refine ⟨by rw [List.length_append, hk.1, s1]; omega, fun j h1 h2 => ?_⟩
            by_cases hjk : j < k
            · have hc := hk.2 j h1 hjk
              have hlen := (List.getElem?_eq_some_iff.1 hc).1
              rw [List.getElem?_append_left hlen]
              exact hc
            · have hc := s2 j (by omega) h2
              have hge := Tr.rk_ge h (i := k) (j := j) (by omega) (by omega)
              rw [List.getElem?_append_right (by rw [hk.1]; omega), hk.1]
              rw [show Tr.rk xs j - (i - Tr.dn xs i) - (k - (i + 1)) = Tr.rk xs j - (k - Tr.dn xs k) by omega]
              exact hc
    have hstart := key _ (i + 1) rfl (Tr.bound_start h hi) ⟨by rw [Tr.kidsTo_start]; simp, fun j h1 h2 => by omega⟩
    obtain ⟨p1, p2⟩ := hstart
    unfold Tr.postF
    refine ⟨by rw [List.length_append, p1]; simp; omega, fun j h1 h2 => ?_⟩
    by_cases e : j = i
    · subst e
      rw [List.getElem?_append_right (by rw [p1]; unfold Tr.rk; omega), p1]
      have : Tr.rk xs j - (j - Tr.dn xs j) - (Tr.endN xs j - (j + 1)) = 0 := by unfold Tr.rk; omega
      rw [this]; rfl
    · have hc := p2 j (by omega) h2
      have hlen := (List.getElem?_eq_some_iff.1 hc).1
      rw [List.getElem?_append_left hlen]
      exact hc
end
/-- all nodes in postorder -/
def Tr.post (xs : Tr) : List Nat := if Tr.ok xs then Tr.postF xs xs.length 0 else []
section
variable {xs : Tr} (h : Tr.ok xs = true)
include h
theorem Tr.endN_zero : Tr.endN xs 0 = xs.length := by
  have h0 := (Tr.ok_iff.1 h).2
  have a := Tr.endN_dn h (i := 0) (by omega)
  rcases a.2.2.2 with e | ⟨e1, e2⟩
  · exact e
  · have h3 := Tr.dn_zero h
    have h4 := Tr.dn_succ h (i := Tr.endN xs 0 - 1) (by omega)
    rw [show Tr.endN xs 0 - 1 + 1 = Tr.endN xs 0 by omega] at h4
    omega
theorem Tr.post_length : (Tr.post xs).length = xs.length := by
  have h0 := (Tr.ok_iff.1 h).2
  have := (Tr.postF_spec h xs.length 0 (by omega) (by rw [Tr.endN_zero h]; omega)).1
  rw [Tr.post, if_pos h, this, Tr.endN_zero h]
  omega
theorem Tr.post_rk {j : Nat} (hj : j < xs.length) : (Tr.post xs)[Tr.rk xs j]? = some j := by
  have h0 := (Tr.ok_iff.1 h).2
  have := (Tr.postF_spec h xs.length 0 (by omega) (by rw [Tr.endN_zero h]; omega)).2 j (Nat.zero_le _) (by rw [Tr.endN_zero h]; exact hj)
  rw [Tr.post, if_pos h]
  simpa using this
end

end Go.Proofs.Ytgkkeejhfofcaaa

/- Contracts (Pst2). -/
namespace Go.Proofs.Ytgkkeejhfofcaaa
open Go.RowKit
set_option linter.unusedVariables false

/-- a map of [0, n) into itself that tells all apart meets all -/
theorem pigeon : ∀ (n : Nat) (f : Nat → Nat), (∀ i, i < n → f i < n) → (∀ i j, i < n → j < n → f i = f j → i = j) → ∀ q, q < n → ∃ i, i < n ∧ f i = q := by
  intro n
  induction n with
  | zero => intro f _ _ q hq; omega
  | succ n ih =>
    intro f hf hinj q hq
    have hg1 : ∀ i, i < n → (if f i = n then f n else f i) < n := by
      intro i hi
      split
      · rename_i e
        have := hf n (by omega)
        by_cases e2 : f n = n
        · have := hinj i n (by omega) (by omega) (by omega); omega
        · omega
      · have := hf i (by omega); omega
    have hg2 : ∀ i j, i < n → j < n → (if f i = n then f n else f i) = (if f j = n then f n else f j) → i = j := by
      intro i j hi hj e
      split at e <;> split at e
      · exact hinj i j (by omega) (by omega) (by omega)
      · have := hinj n j (by omega) (by omega) e; omega
      · have := hinj i n (by omega) (by omega) e; omega
      · exact hinj i j (by omega) (by omega) e
    have H := ih (fun i => if f i = n then f n else f i) hg1 hg2
    by_cases e : q = f n
    · exact ⟨n, by omega, e.symm⟩
    · by_cases e2 : q = n
      · obtain ⟨i, hi, h⟩ := H (f n) (by have := hf n (by omega); omega)
        split at h
        · rename_i h'; exact ⟨i, by omega, by omega⟩
        · have := hinj i n (by omega) (by omega) h; omega
      · obtain ⟨i, hi, h⟩ := H q (by omega)
        split at h
        · exact absurd h.symm e
        · exact ⟨i, by omega, h⟩
section
variable {xs : Tr} (h : Tr.ok xs = true)
include h
theorem Tr.post_get {k : Nat} (hk : k < xs.length) : ∃ i, i < xs.length ∧ (Tr.post xs)[k]? = some i ∧ Tr.rk xs i = k := by
  obtain ⟨i, hi, e⟩ := pigeon xs.length (Tr.rk xs) (fun i hi => Tr.rk_lt h hi) (fun i j hi hj e => Tr.rk_inj h hi hj e) k hk
  exact ⟨i, hi, by rw [← e]; exact Tr.post_rk h hi, e⟩
end
/-- the place of the first leaf, for each place -/
def Tr.lfs (xs : Tr) : List Nat := (Tr.post xs).map fun i => i - Tr.dn xs i
theorem Tr.lfs_length (xs : Tr) : (Tr.lfs xs).length = (Tr.post xs).length := by simp [Tr.lfs]
/-- of a row the places whose value does not come again up to m -/
def Zs.lastTo (f : List Nat) (k m : Nat) : Bool := (List.range m).all fun j => decide (j ≤ k) || decide (f.getD j 0 ≠ f.getD k 0)
def Tr.krTo (xs : Tr) (k : Nat) : List Nat := (List.range k).filter fun j => Zs.lastTo (Tr.lfs xs) j (Tr.lfs xs).length
def Tr.krs (xs : Tr) : List Nat := Tr.krTo xs (Tr.lfs xs).length
theorem Tr.krTo_succ (xs : Tr) (k : Nat) : Tr.krTo xs (k + 1) = if Zs.lastTo (Tr.lfs xs) k (Tr.lfs xs).length = true then Tr.krTo xs k ++ [k] else Tr.krTo xs k := by
  unfold Tr.krTo
  rw [List.range_succ, List.filter_append]
  by_cases h : Zs.lastTo (Tr.lfs xs) k (Tr.lfs xs).length = true <;> simp [h]
/-- is j under i; does j come behind i, and all under it -/
def Tr.under (xs : Tr) (i j : Int) : Bool := Tr.has xs i && Tr.has xs j && decide (i < j) && decide (j < Tr.endOf xs i)
/-- the first place of i in zs, counted from k -/
def Zs.find : List Int → Int → Nat → Int
  | [], _, _ => -1
  | z :: zs, i, k => if z = i then k else Zs.find zs i (k + 1)
theorem Zs.find_step (zs : List Int) (i : Int) (k : Nat) (hk : k < zs.length) : Zs.find (zs.drop k) i k = if zs.getD k 0 = i then (k : Int) else Zs.find (zs.drop (k + 1)) i (k + 1) := by
  rw [List.drop_eq_getElem_cons hk]
  simp [Zs.find, List.getD_eq_getElem?_getD, hk]
def Tr.kidRank (xs : Tr) (i : Int) : Int := if Tr.parentOf xs i < 0 then -1 else Zs.find ((Tr.kidsOf xs (Tr.parentOf xs i)).map fun (m : Nat) => (m : Int)) i 0

end Go.Proofs.Ytgkkeejhfofcaaa

/- Contracts (KinP). -/
namespace Go.Proofs.Ytgkkeejhfofcaaa
open Go.RowKit
set_option linter.unusedVariables false

/-! mathematics of the laws on kin -/
theorem Tr.has_nat {xs : Tr} {i : Nat} (hok : Tr.ok xs = true) (hi : i < xs.length) : Tr.has xs (i : Int) = true := Tr.has_iff.2 ⟨hok, Int.natCast_nonneg i, Int.ofNat_lt.2 hi⟩
theorem Tr.under_nat {xs : Tr} {i j : Nat} (hok : Tr.ok xs = true) (hi : i < xs.length) (hj : j < xs.length) : Tr.under xs i j = decide (i < j ∧ j < Tr.endN xs i) := by
  unfold Tr.under
  rw [Tr.has_nat hok hi, Tr.has_nat hok hj, Tr.endOf_yes (Tr.has_nat hok hi), Bool.eq_iff_iff]
  simp
def Bs.count (bs : List Bool) (k : Nat) : Nat := (bs.take k).countP id
theorem Tr.back_is {xs : Tr} {dep : Int} {p : Nat} (hp : Tr.d xs p < dep) : ∀ j, p < j → (∀ m, p < m → m < j → dep ≤ Tr.d xs m) → Tr.back xs dep j = p := by
  intro j
  induction j with
  | zero => intro h _; omega
  | succ j ih =>
    intro h hall
    unfold Tr.back
    by_cases e : j = p
    · subst e; rw [if_pos hp]
    · have := hall j (by omega) (by omega)
      rw [if_neg (by omega)]
      exact ih (by omega) (fun m h1 h2 => hall m h1 (by omega))
theorem Tr.back_ex {xs : Tr} {dep : Int} : ∀ j, (∃ q, q < j ∧ Tr.d xs q < dep) → ∃ p, p < j ∧ Tr.d xs p < dep ∧ ∀ m, p < m → m < j → dep ≤ Tr.d xs m := by
  intro j
  induction j with
  | zero => rintro ⟨q, h, _⟩; omega
  | succ j ih =>
    rintro ⟨q, h1, h2⟩
    by_cases e : Tr.d xs j < dep
    · exact ⟨j, by omega, e, fun m a b => by omega⟩
    · have hq : q ≠ j := fun r => by subst r; exact e h2
      obtain ⟨p, a, b, c⟩ := ih ⟨q, by omega, h2⟩
      refine ⟨p, by omega, b, fun m d1 d2 => ?_⟩
      by_cases r : m = j
      · subst r; omega
      · exact c m d1 (by omega)
theorem Tr.kid_in {xs : Tr} {p j : Nat} (hpj : p < j) (hje : j < Tr.endN xs p) (hd : Tr.d xs j = Tr.d xs p + 1) : j ∈ Tr.kidsTo xs p (Tr.endN xs p) := by
  unfold Tr.kidsTo
  simp [hje, hpj, hd]
section
variable {xs : Tr} (hok : Tr.ok xs = true)
include hok
theorem Tr.parent_zero : Tr.parentOf xs ((0 : Nat) : Int) = -1 := by
  have h0 := (Tr.ok_iff.1 hok).2
  unfold Tr.parentOf
  rw [Tr.has_nat hok (by omega)]
  rfl
theorem Tr.parent_pos {j : Nat} (hj : j < xs.length) (h0 : 0 < j) : ∃ p : Nat, p < j ∧ Tr.parentOf xs (j : Int) = (p : Int) ∧ Tr.d xs p = Tr.d xs j - 1 ∧ j < Tr.endN xs p := by
  have hz := Tr.dn_zero hok
  have hz2 := Tr.dn_eq hok (i := 0) (by omega)
  have hk := (Tr.ok_at hok hj).2
  obtain ⟨p, h1, h2, h3⟩ := Tr.back_ex (xs := xs) (dep := Tr.d xs j) j ⟨0, h0, by
    have : ¬ Tr.d xs j = 0 := fun e => by have := hk.2.1.1 e; omega
    omega⟩
  have hb := Tr.back_is h2 j h1 h3
  have hp := Tr.endN_dn hok (i := p) (by omega)
  have hd1 := Tr.dn_eq hok (i := p) (by omega)
  have hd2 := Tr.dn_eq hok hj
  refine ⟨p, h1, ?_, ?_, ?_⟩
  · unfold Tr.parentOf
    rw [Tr.has_nat hok hj]
    exact hb
  · have hs := (Tr.dn_succ hok (i := p) (by omega)).2
    have hd3 := Tr.dn_eq hok (i := p + 1) (by omega)
    by_cases e : p + 1 = j
    · rw [e] at hs hd3; omega
    · have := h3 (p + 1) (by omega) (by omega)
      omega
  · by_cases e : j < Tr.endN xs p
    · exact e
    · exfalso
      rcases hp.2.2.2 with q | ⟨q1, q2⟩
      · omega
      · by_cases r : Tr.endN xs p = j
        · rw [r] at q2; omega
        · have := h3 (Tr.endN xs p) (by omega) (by omega)
          have := Tr.dn_eq hok (i := Tr.endN xs p) (by omega)
          omega
theorem Tr.rank_pos {j : Nat} (hj : j < xs.length) : 0 ≤ Tr.kidRank xs (j : Int) ↔ 0 < j := by
  have find_mem : ∀ (zs : List Int) (i : Int) (k : Nat), i ∈ zs → 0 ≤ Zs.find zs i k := by
    intro zs i
    induction zs with
    | nil => intro k h; cases h
    | cons z zs ih =>
      intro k h
      unfold Zs.find
      by_cases e : z = i
      · rw [if_pos e]; omega
      · rw [if_neg e]
        rcases List.mem_cons.1 h with r | r
        · exact absurd r.symm e
        · exact ih _ r
  constructor
  · intro h
    by_cases e : j = 0
    · subst e
      unfold Tr.kidRank at h
      rw [Tr.parent_zero hok] at h
      simp at h
    · omega
  · intro h
    obtain ⟨p, h1, h2, h3, h4⟩ := Tr.parent_pos hok hj h
    unfold Tr.kidRank
    rw [h2, if_neg (by omega)]
    refine find_mem _ _ _ ?_
    rw [show Tr.kidsOf xs (p : Int) = Tr.kidsTo xs p (Tr.endN xs p) by unfold Tr.kidsOf; rw [Tr.has_nat hok (by omega)]; rfl]
    exact List.mem_map.2 ⟨j, Tr.kid_in h1 h4 (by omega), rfl⟩
end

end Go.Proofs.Ytgkkeejhfofcaaa

/- Contracts (KidsP). -/
namespace Go.Proofs.Ytgkkeejhfofcaaa
open Go.RowKit
set_option linter.unusedVariables false

theorem Tr.kidsTo_more (xs : Tr) (i k : Nat) : ∀ m, k ≤ m → ∃ r, Tr.kidsTo xs i m = Tr.kidsTo xs i k ++ r := by
  intro m
  induction m with
  | zero => intro h; obtain rfl : k = 0 := by omega
            exact ⟨[], by simp⟩
  | succ m ih =>
    intro h
    by_cases e : k = m + 1
    · subst e; exact ⟨[], by simp⟩
    · obtain ⟨r, hr⟩ := ih (by omega)
      refine ⟨r ++ ([m].filter fun j => decide (i < j) && decide (Tr.d xs j = Tr.d xs i + 1)), ?_⟩
      rw [← List.append_assoc, ← hr]
      unfold Tr.kidsTo
      rw [List.range_succ, List.filter_append]
theorem Zs.find_mid (A r : List Int) (b : Int) (k : Nat) (h : ∀ a ∈ A, a ≠ b) : Zs.find (A ++ b :: r) b k = ((k + A.length : Nat) : Int) := by
  induction A generalizing k with
  | nil => simp [Zs.find]
  | cons a A ih =>
    have ha : a ≠ b := h a List.mem_cons_self
    simp only [List.cons_append, Zs.find]
    rw [if_neg ha, ih (k + 1) (fun x hx => h x (List.mem_cons_of_mem _ hx))]
    simp
    omega
section
variable {xs : Tr} (hok : Tr.ok xs = true)
include hok
/-- at place b of the children's row of i, b itself is the next kid -/
theorem Tr.kid_next {i b : Nat} (hi : i < xs.length) (hb : Tr.bound xs i b) (hlt : b < Tr.endN xs i) : ∃ r, Tr.kidsTo xs i (Tr.endN xs i) = Tr.kidsTo xs i b ++ b :: r := by
  obtain ⟨hn, hl⟩ := Tr.bound_next hok hi hb hlt
  obtain ⟨r, hr⟩ := Tr.kidsTo_more xs i (Tr.endN xs b) (Tr.endN xs i) hn.2.1
  exact ⟨r, by rw [hr, Tr.kids_in hok hi hb hlt hl (Nat.le_refl _), List.append_assoc]; rfl⟩
theorem Tr.kid_parent {i b : Nat} (hi : i < xs.length) (hb : Tr.bound xs i b) (hlt : b < Tr.endN xs i) : Tr.parentOf xs (b : Int) = (i : Int) := by
  have a := Tr.endN_dn hok hi
  have hbn : b < xs.length := by omega
  have hd := hb.2.2 hlt
  have h1 := Tr.dn_eq hok hi
  have h2 := Tr.dn_eq hok hbn
  unfold Tr.parentOf
  rw [Tr.has_nat hok hbn]
  refine Tr.back_is (xs := xs) (p := i) (by simp; omega) b hb.1 (fun m q1 q2 => ?_)
  have := a.2.2.1 m q1 (by omega)
  have := Tr.dn_eq hok (i := m) (by omega)
  simp
  omega
theorem Tr.kid_rank {i b : Nat} (hi : i < xs.length) (hb : Tr.bound xs i b) (hlt : b < Tr.endN xs i) : Tr.kidRank xs (b : Int) = ((Tr.kidsTo xs i b).length : Nat) := by
  unfold Tr.kidRank
  rw [Tr.kid_parent hok hi hb hlt, if_neg (by omega)]
  obtain ⟨r, hr⟩ := Tr.kid_next hok hi hb hlt
  rw [show Tr.kidsOf xs (i : Int) = Tr.kidsTo xs i (Tr.endN xs i) by unfold Tr.kidsOf; rw [Tr.has_nat hok hi]; rfl, hr, List.map_append, List.map_cons, Zs.find_mid]
  · simp
  · intro a ha
    obtain ⟨m, hm, rfl⟩ := List.mem_map.1 ha
    unfold Tr.kidsTo at hm
    simp only [List.mem_filter, List.mem_range] at hm
    omega
/-- one round over the children: the j-th kid stands at b -/
theorem Tr.kid_round {i b j : Nat} (hi : i < xs.length) (hb : Tr.bound xs i b) (hj : (Tr.kidsTo xs i b).length = j) (hlt : j < (Tr.kidsTo xs i (Tr.endN xs i)).length) :
    b < xs.length ∧ Zs.at (Tr.kidsI xs (i : Int)) j = (b : Int) ∧ Tr.parentOf xs (b : Int) = (i : Int) ∧ Tr.kidRank xs (b : Int) = (j : Int) ∧
    (Tr.subTree xs (b : Int)).length = Tr.endN xs b - b ∧ Tr.bound xs i (Tr.endN xs b) ∧ (Tr.kidsTo xs i (Tr.endN xs b)).length = j + 1 ∧ b < Tr.endN xs b ∧ Tr.endN xs b ≤ xs.length ∧ i < b := by
  have a := Tr.endN_dn hok hi
  have hbe : b < Tr.endN xs i := by
    have := hb.2.1
    by_cases e : b = Tr.endN xs i
    · rw [e] at hj; omega
    · omega
  have hbn : b < xs.length := by omega
  obtain ⟨r, hr⟩ := Tr.kid_next hok hi hb hbe
  obtain ⟨hn, hl⟩ := Tr.bound_next hok hi hb hbe
  refine ⟨hbn, ?_, Tr.kid_parent hok hi hb hbe, by rw [Tr.kid_rank hok hi hb hbe, hj], ?_, hn, ?_, hl, (Tr.endN_dn hok hbn).2.1, hb.1⟩
  · rw [Tr.kidsI_yes (Tr.has_nat hok hi)]
    unfold Tr.kidsZ
    rw [hr]
    simp [Zs.at, List.getD_eq_getElem?_getD, ← hj]
  · rw [Tr.subTree_yes (Tr.has_nat hok hbn), Tr.subTo_length]
  · rw [Tr.kids_in hok hi hb hbe hl (Nat.le_refl _), List.length_append, hj]; rfl
theorem Tr.kid_last {i b j : Nat} (hi : i < xs.length) (hb : Tr.bound xs i b) (hj : (Tr.kidsTo xs i b).length = j) (hlt : j = (Tr.kidsTo xs i (Tr.endN xs i)).length) : b = Tr.endN xs i := by
  have := hb.2.1
  by_cases e : b = Tr.endN xs i
  · exact e
  · obtain ⟨r, hr⟩ := Tr.kid_next hok hi hb (by omega)
    rw [hr, List.length_append, List.length_cons] at hlt
    omega
end

end Go.Proofs.Ytgkkeejhfofcaaa
