/- Texts of one claim laid into one file, in build order: Pst, Pst2, Mem. -/
import Derived.Test.YtgkkeejhfofcaaaHc1
import Derived.Deep.RegionLaw
import Derived.Laws.AppendOwn
import Derived.Laws.OwnMore
import Derived.OwnWalk
/- Contracts (Pst). -/
namespace Go.Proofs.Ytgkkeejhfofcaaa
open Go.RowKit
set_option linter.unusedVariables false

/-! Postorder of a right tree, as plain mathematics. dn: the depth as a number; rk: a node's place in postorder, endN - 1 - dn; the place of its first leaf is i - dn i. -/
def Tr.dn (xs : Tr) (i : Nat) : Nat := (Tr.d xs i).toNat
section
variable {xs : Tr} (h : Tr.ok xs = true)
include h
theorem Tr.dn_eq {i : Nat} (hi : i < xs.length) : (Tr.dn xs i : Int) = Tr.d xs i := by
  have := (Tr.ok_at h hi).2.1
  unfold Tr.dn
  omega
theorem Tr.dn_zero : Tr.dn xs 0 = 0 := by
  have h0 := (Tr.ok_iff.1 h).2
  have h1 := (Tr.ok_at h (k := 0) (by omega)).2.2.1
  have h2 := Tr.dn_eq h (i := 0) (by omega)
  omega
theorem Tr.dn_succ {i : Nat} (hi : i + 1 < xs.length) : 1 ≤ Tr.dn xs (i + 1) ∧ Tr.dn xs (i + 1) ≤ Tr.dn xs i + 1 := by
  have h1 := Tr.ok_at h hi
  have h2 := Tr.dn_eq h hi
  have h3 := Tr.dn_eq h (i := i) (by omega)
  have h4 := h1.2.2.2
  rw [show i + 1 - 1 = i by omega] at h4
  omega
theorem Tr.gap_mono {i j : Nat} (hij : i ≤ j) (hj : j < xs.length) : i + Tr.dn xs j ≤ j + Tr.dn xs i := by
  induction j with
  | zero => obtain rfl : i = 0 := by omega
            omega
  | succ j ih =>
    by_cases e : i = j + 1
    · subst e; omega
    · have := ih (by omega) (by omega)
      have := (Tr.dn_succ h hj).2
      omega
theorem Tr.dn_le {i : Nat} (hi : i < xs.length) : Tr.dn xs i ≤ i := by
  have := Tr.gap_mono h (Nat.zero_le i) hi
  have := Tr.dn_zero h
  omega
/-- endN, with depths as numbers -/
theorem Tr.endN_dn {i : Nat} (hi : i < xs.length) : i < Tr.endN xs i ∧ Tr.endN xs i ≤ xs.length ∧ (∀ j, i < j → j < Tr.endN xs i → Tr.dn xs i < Tr.dn xs j) ∧ (Tr.endN xs i = xs.length ∨ (Tr.endN xs i < xs.length ∧ Tr.dn xs (Tr.endN xs i) ≤ Tr.dn xs i)) := by
  obtain ⟨h1, h2, h3, h4⟩ := Tr.endN_spec xs i hi
  refine ⟨h1, h2, fun j a b => ?_, ?_⟩
  · have := h3 j a b
    have := Tr.dn_eq h hi
    have := Tr.dn_eq h (i := j) (by omega)
    omega
  · rcases h4 with h4 | h4
    · exact .inl h4
    · by_cases e : Tr.endN xs i = xs.length
      · exact .inl e
      · have := Tr.dn_eq h hi
        have := Tr.dn_eq h (i := Tr.endN xs i) (by omega)
        exact .inr ⟨by omega, by omega⟩
theorem Tr.endN_in {i j : Nat} (hi : i < xs.length) (hij : i < j) (hj : j < Tr.endN xs i) : Tr.endN xs j ≤ Tr.endN xs i := by
  obtain ⟨a1, a2, a3, a4⟩ := Tr.endN_dn h hi
  obtain ⟨b1, b2, b3, b4⟩ := Tr.endN_dn h (i := j) (by omega)
  by_cases e : Tr.endN xs j ≤ Tr.endN xs i
  · exact e
  · have c1 := a3 j hij hj
    have c2 := b3 (Tr.endN xs i) hj (by omega)
    omega
end
def Tr.rk (xs : Tr) (i : Nat) : Nat := Tr.endN xs i - 1 - Tr.dn xs i
section
variable {xs : Tr} (h : Tr.ok xs = true)
include h
theorem Tr.rk_ge {i j : Nat} (hij : i ≤ j) (hj : j < xs.length) : i - Tr.dn xs i ≤ Tr.rk xs j := by
  have := Tr.gap_mono h hij hj
  have := Tr.dn_le h hj
  have := Tr.dn_le h (i := i) (by omega)
  have := (Tr.endN_dn h hj).1
  unfold Tr.rk
  omega
theorem Tr.rk_lt {i : Nat} (hi : i < xs.length) : Tr.rk xs i < xs.length := by
  have := Tr.endN_dn h hi
  unfold Tr.rk
  omega
theorem Tr.rk_under {i j : Nat} (hi : i < xs.length) (hij : i < j) (hj : j < Tr.endN xs i) : Tr.rk xs j < Tr.rk xs i := by
  have a := Tr.endN_dn h hi
  have b := Tr.endN_in h hi hij hj
  have c := a.2.2.1 j hij hj
  have d := Tr.dn_le h (i := j) (by omega)
  have e := (Tr.endN_dn h (i := j) (by omega)).1
  unfold Tr.rk
  omega
theorem Tr.rk_left {i j : Nat} (hi : i < xs.length) (hij : Tr.endN xs i ≤ j) (hj : j < xs.length) : Tr.rk xs i < Tr.rk xs j := by
  have a := Tr.endN_dn h hi
  have b := Tr.gap_mono h hij hj
  have c := Tr.dn_le h hj
  have d := Tr.dn_le h hi
  have e := (Tr.endN_dn h hj).1
  unfold Tr.rk
  omega
theorem Tr.rk_inj {i j : Nat} (hi : i < xs.length) (hj : j < xs.length) (e : Tr.rk xs i = Tr.rk xs j) : i = j := by
  rcases Nat.lt_trichotomy i j with hij | hij | hij
  · by_cases hu : j < Tr.endN xs i
    · have := Tr.rk_under h hi hij hu; omega
    · have := Tr.rk_left h hi (show Tr.endN xs i ≤ j by omega) hj; omega
  · exact hij
  · by_cases hu : i < Tr.endN xs j
    · have := Tr.rk_under h hj hij hu; omega
    · have := Tr.rk_left h hj (show Tr.endN xs j ≤ i by omega) hi; omega
end
/-- the subtree of i in postorder, by kids; the fuel is at least the number of nodes under i -/
def Tr.postF (xs : Tr) : Nat → Nat → List Nat
  | 0, i => [i]
  | f + 1, i => (Tr.kidsTo xs i (Tr.endN xs i)).flatMap (Tr.postF xs f) ++ [i]
/-- up to place k of the children's row of i, a kid stands next (or none is left) -/
def Tr.bound (xs : Tr) (i k : Nat) : Prop := i < k ∧ k ≤ Tr.endN xs i ∧ (k < Tr.endN xs i → Tr.dn xs k = Tr.dn xs i + 1)
section
variable {xs : Tr} (h : Tr.ok xs = true)
include h
theorem Tr.bound_start {i : Nat} (hi : i < xs.length) : Tr.bound xs i (i + 1) := by
  have a := Tr.endN_dn h hi
  refine ⟨by omega, by omega, fun hk => ?_⟩
  have := a.2.2.1 (i + 1) (by omega) hk
  have := Tr.dn_succ h (i := i) (by omega)
  omega
theorem Tr.bound_next {i k : Nat} (hi : i < xs.length) (hb : Tr.bound xs i k) (hk : k < Tr.endN xs i) : Tr.bound xs i (Tr.endN xs k) ∧ k < Tr.endN xs k := by
  have a := Tr.endN_dn h hi
  have b := Tr.endN_dn h (i := k) (by omega)
  have c := Tr.endN_in h hi hb.1 hk
  have d := hb.2.2 hk
  have b1 := b.1
  have b4 := b.2.2.2
  have hb1 := hb.1
  refine ⟨⟨by omega, c, fun e => ?_⟩, b.1⟩
  have := a.2.2.1 (Tr.endN xs k) (by omega) e
  omega
theorem Tr.kids_in {i k m : Nat} (hi : i < xs.length) (hb : Tr.bound xs i k) (hk : k < Tr.endN xs i) (hm : k < m) (hm2 : m ≤ Tr.endN xs k) : Tr.kidsTo xs i m = Tr.kidsTo xs i k ++ [k] := by
  have a := Tr.endN_dn h hi
  have b := Tr.endN_dn h (i := k) (by omega)
  induction m with
  | zero => omega
  | succ m ih =>
    have e1 := Tr.dn_eq h hi
    rw [Tr.kidsTo_succ xs i m (by have := hb.1; omega)]
    by_cases e : m = k
    · subst e
      have e2 := Tr.dn_eq h (i := m) (by omega)
      have := hb.2.2 hk
      rw [if_pos (by omega)]
    · have e2 := Tr.dn_eq h (i := m) (by omega)
      have e3 := b.2.2.1 m (by omega) (by omega)
      have := hb.2.2 hk
      rw [if_neg (by omega)]
      exact ih (by omega) (by omega)
theorem Tr.postF_spec (f : Nat) : ∀ i, i < xs.length → Tr.endN xs i - i ≤ f + 1 →
    (Tr.postF xs f i).length = Tr.endN xs i - i ∧ ∀ j, i ≤ j → j < Tr.endN xs i → (Tr.postF xs f i)[Tr.rk xs j - (i - Tr.dn xs i)]? = some j := by
  induction f with
  | zero =>
    intro i hi hf
    have a := Tr.endN_dn h hi
    refine ⟨by simp [Tr.postF]; omega, fun j h1 h2 => ?_⟩
    obtain rfl : j = i := by omega
    have : Tr.rk xs j - (j - Tr.dn xs j) = 0 := by
      have := Tr.dn_le h hi
      unfold Tr.rk; omega
    rw [this]; rfl
  | succ f ih =>
    intro i hi hf
    have a := Tr.endN_dn h hi
    have hdi := Tr.dn_le h hi
    have key : ∀ r k, Tr.endN xs i - k = r → Tr.bound xs i k →
        (((Tr.kidsTo xs i k).flatMap (Tr.postF xs f)).length = k - (i + 1) ∧ ∀ j, i < j → j < k → ((Tr.kidsTo xs i k).flatMap (Tr.postF xs f))[Tr.rk xs j - (i - Tr.dn xs i)]? = some j) →
        ((Tr.kidsTo xs i (Tr.endN xs i)).flatMap (Tr.postF xs f)).length = Tr.endN xs i - (i + 1) ∧ ∀ j, i < j → j < Tr.endN xs i → ((Tr.kidsTo xs i (Tr.endN xs i)).flatMap (Tr.postF xs f))[Tr.rk xs j - (i - Tr.dn xs i)]? = some j := by
      intro r
      induction r using Nat.strongRecOn with
      | ind r ihr =>
        intro k hr hb hk
        by_cases e : k = Tr.endN xs i
        · rw [← e]; exact hk
        · have hki : k < Tr.endN xs i := by have := hb.2.1; omega
          obtain ⟨hb', hlt⟩ := Tr.bound_next h hi hb hki
          have hkn : k < xs.length := by omega
          have hdk := hb.2.2 hki
          have hdk2 := Tr.dn_le h hkn
          have hik := hb.1
          have hsub := hb'.2.1
          obtain ⟨s1, s2⟩ := ih k hkn (by omega)
          refine ihr _ ?_ _ rfl hb' ?_
          · omega
          · rw [Tr.kids_in h hi hb hki hlt (Nat.le_refl _), List.flatMap_append]
            simp only [List.flatMap_cons, List.flatMap_nil, List.append_nil]
            refine ⟨by rw [List.length_append, hk.1, s1]; omega, fun j h1 h2 => ?_⟩
            by_cases hjk : j < k
            · have hc := hk.2 j h1 hjk
              have hlen := (List.getElem?_eq_some_iff.1 hc).1
              rw [List.getElem?_append_left hlen]
              exact hc
            · have hc := s2 j (by omega) h2
              have hge := Tr.rk_ge h (i := k) (j := j) (by omega) (by omega)
              rw [List.getElem?_append_right (by rw [hk.1]; omega), hk.1]
              rw [show Tr.rk xs j - (i - Tr.dn xs i) - (k - (i + 1)) = Tr.rk xs j - (k - Tr.dn xs k) by omega]
              exact hc
    have hstart := key _ (i + 1) rfl (Tr.bound_start h hi) ⟨by rw [Tr.kidsTo_start]; simp, fun j h1 h2 => by omega⟩
    obtain ⟨p1, p2⟩ := hstart
    unfold Tr.postF
    refine ⟨by rw [List.length_append, p1]; simp; omega, fun j h1 h2 => ?_⟩
    by_cases e : j = i
    · subst e
      rw [List.getElem?_append_right (by rw [p1]; unfold Tr.rk; omega), p1]
      have : Tr.rk xs j - (j - Tr.dn xs j) - (Tr.endN xs j - (j + 1)) = 0 := by unfold Tr.rk; omega
      rw [this]; rfl
    · have hc := p2 j (by omega) h2
      have hlen := (List.getElem?_eq_some_iff.1 hc).1
      rw [List.getElem?_append_left hlen]
      exact hc
end
/-- all nodes in postorder -/
def Tr.post (xs : Tr) : List Nat := if Tr.ok xs then Tr.postF xs xs.length 0 else []
section
variable {xs : Tr} (h : Tr.ok xs = true)
include h
theorem Tr.endN_zero : Tr.endN xs 0 = xs.length := by
  have h0 := (Tr.ok_iff.1 h).2
  have a := Tr.endN_dn h (i := 0) (by omega)
  rcases a.2.2.2 with e | ⟨e1, e2⟩
  · exact e
  · have h3 := Tr.dn_zero h
    have h4 := Tr.dn_succ h (i := Tr.endN xs 0 - 1) (by omega)
    rw [show Tr.endN xs 0 - 1 + 1 = Tr.endN xs 0 by omega] at h4
    omega
theorem Tr.post_length : (Tr.post xs).length = xs.length := by
  have h0 := (Tr.ok_iff.1 h).2
  have := (Tr.postF_spec h xs.length 0 (by omega) (by rw [Tr.endN_zero h]; omega)).1
  rw [Tr.post, if_pos h, this, Tr.endN_zero h]
  omega
theorem Tr.post_rk {j : Nat} (hj : j < xs.length) : (Tr.post xs)[Tr.rk xs j]? = some j := by
  have h0 := (Tr.ok_iff.1 h).2
  have := (Tr.postF_spec h xs.length 0 (by omega) (by rw [Tr.endN_zero h]; omega)).2 j (Nat.zero_le _) (by rw [Tr.endN_zero h]; exact hj)
  rw [Tr.post, if_pos h]
  simpa using this
end

end Go.Proofs.Ytgkkeejhfofcaaa

/- Contracts (Pst2). -/
namespace Go.Proofs.Ytgkkeejhfofcaaa
open Go.RowKit
set_option linter.unusedVariables false

/-- a map of [0, n) into itself that tells all apart meets all -/
theorem pigeon : ∀ (n : Nat) (f : Nat → Nat), (∀ i, i < n → f i < n) → (∀ i j, i < n → j < n → f i = f j → i = j) → ∀ q, q < n → ∃ i, i < n ∧ f i = q := by
  intro n
  induction n with
  | zero => intro f _ _ q hq; omega
  | succ n ih =>
    intro f hf hinj q hq
    have hg1 : ∀ i, i < n → (if f i = n then f n else f i) < n := by
      intro i hi
      split
      · rename_i e
        have := hf n (by omega)
        by_cases e2 : f n = n
        · have := hinj i n (by omega) (by omega) (by omega); omega
        · omega
      · have := hf i (by omega); omega
    have hg2 : ∀ i j, i < n → j < n → (if f i = n then f n else f i) = (if f j = n then f n else f j) → i = j := by
      intro i j hi hj e
      split at e <;> split at e
      · exact hinj i j (by omega) (by omega) (by omega)
      · have := hinj n j (by omega) (by omega) e; omega
      · have := hinj i n (by omega) (by omega) e; omega
      · exact hinj i j (by omega) (by omega) e
    have H := ih (fun i => if f i = n then f n else f i) hg1 hg2
    by_cases e : q = f n
    · exact ⟨n, by omega, e.symm⟩
    · by_cases e2 : q = n
      · obtain ⟨i, hi, h⟩ := H (f n) (by have := hf n (by omega); omega)
        split at h
        · rename_i h'; exact ⟨i, by omega, by omega⟩
        · have := hinj i n (by omega) (by omega) h; omega
      · obtain ⟨i, hi, h⟩ := H q (by omega)
        split at h
        · exact absurd h.symm e
        · exact ⟨i, by omega, h⟩
section
variable {xs : Tr} (h : Tr.ok xs = true)
include h
theorem Tr.post_get {k : Nat} (hk : k < xs.length) : ∃ i, i < xs.length ∧ (Tr.post xs)[k]? = some i ∧ Tr.rk xs i = k := by
  obtain ⟨i, hi, e⟩ := pigeon xs.length (Tr.rk xs) (fun i hi => Tr.rk_lt h hi) (fun i j hi hj e => Tr.rk_inj h hi hj e) k hk
  exact ⟨i, hi, by rw [← e]; exact Tr.post_rk h hi, e⟩
end
/-- the place of the first leaf, for each place -/
def Tr.lfs (xs : Tr) : List Nat := (Tr.post xs).map fun i => i - Tr.dn xs i
theorem Tr.lfs_length (xs : Tr) : (Tr.lfs xs).length = (Tr.post xs).length := by simp [Tr.lfs]
/-- of a row the places whose value does not come again up to m -/
def Zs.lastTo (f : List Nat) (k m : Nat) : Bool := (List.range m).all fun j => decide (j ≤ k) || decide (f.getD j 0 ≠ f.getD k 0)
def Tr.krTo (xs : Tr) (k : Nat) : List Nat := (List.range k).filter fun j => Zs.lastTo (Tr.lfs xs) j (Tr.lfs xs).length
def Tr.krs (xs : Tr) : List Nat := Tr.krTo xs (Tr.lfs xs).length
theorem Tr.krTo_succ (xs : Tr) (k : Nat) : Tr.krTo xs (k + 1) = if Zs.lastTo (Tr.lfs xs) k (Tr.lfs xs).length = true then Tr.krTo xs k ++ [k] else Tr.krTo xs k := by
  unfold Tr.krTo
  rw [List.range_succ, List.filter_append]
  by_cases h : Zs.lastTo (Tr.lfs xs) k (Tr.lfs xs).length = true <;> simp [h]
/-- is j under i; does j come behind i, and all under it -/
def Tr.under (xs : Tr) (i j : Int) : Bool := Tr.has xs i && Tr.has xs j && decide (i < j) && decide (j < Tr.endOf xs i)
/-- the first place of i in zs, counted from k -/
def Zs.find : List Int → Int → Nat → Int
  | [], _, _ => -1
  | z :: zs, i, k => if z = i then k else Zs.find zs i (k + 1)
theorem Zs.find_step (zs : List Int) (i : Int) (k : Nat) (hk : k < zs.length) : Zs.find (zs.drop k) i k = if zs.getD k 0 = i then (k : Int) else Zs.find (zs.drop (k + 1)) i (k + 1) := by
  rw [List.drop_eq_getElem_cons hk]
  simp [Zs.find, List.getD_eq_getElem?_getD, hk]
end Go.Proofs.Ytgkkeejhfofcaaa

/- Contracts (Mem). -/
namespace Go.Proofs.Ytgkkeejhfofcaaa
open Go.RowKit
set_option linter.unusedVariables false


/-! rows of ints -/
def ints (zs : List Int) : List Value := zs.map (Value.int .i64)
def Zs.at (zs : List Int) (k : Nat) : Int := zs.getD k 0
theorem ints_length (zs : List Int) : (ints zs).length = zs.length := by simp [ints]
theorem ints_append (a b : List Int) : ints (a ++ b) = ints a ++ ints b := by simp [ints]
theorem ints_at (zs : List Int) (k : Nat) (h : k < zs.length) : (ints zs)[k]? = some (.int .i64 (Zs.at zs k)) := by
  simp [ints, Zs.at, List.getD_eq_getElem?_getD, h]
theorem ints_set (zs : List Int) (k : Nat) (a : Int) : (ints zs).set k (.int .i64 a) = ints (zs.set k a) := by simp [ints, List.map_set]
theorem ints_cell (zs : List Int) : ∀ u ∈ ints zs, u.oneCell' = true := by
  intro u hu
  simp only [ints, List.mem_map] at hu
  obtain ⟨a, _, rfl⟩ := hu
  rfl
theorem Tr.cells_cell (xs : Tr) : ∀ u ∈ Tr.cells xs, u.oneCell' = true := by
  intro u hu
  simp only [Tr.cells, List.mem_flatMap] at hu
  obtain ⟨a, _, hu⟩ := hu
  simp at hu
  rcases hu with rfl | rfl <;> rfl
theorem Zs.ext {a b : List Int} (hl : a.length = b.length) (h : ∀ k, k < a.length → Zs.at a k = Zs.at b k) : a = b := by
  refine List.ext_getElem hl fun k h1 h2 => ?_
  have := h k h1
  simpa [Zs.at, List.getD_eq_getElem?_getD, h1, h2] using this

/-- the slice (A, n) reads as the ints zs, in blocks below B -/
def IntIn (w : World) (B : Nat) (A : Option Addr) (n : Nat) (zs : List Int) : Prop :=
  zs.length = n ∧ (0 < n → ∃ ad, A = some ad ∧ ad.block < B) ∧ ∀ ad, A = some ad → ∀ k, k < n → w.cell? (ad.add k) = some (.int .i64 (Zs.at zs k))

section
variable {w w' : World} {B B' n : Nat} {A : Option Addr} {zs : List Int}
theorem IntIn.keep (h : IntIn w B A n zs) (hk : ∀ p : Addr, p.block < B → w'.cell? p = w.cell? p) : IntIn w' B A n zs := by
  refine ⟨h.1, h.2.1, fun ad e k hkn => ?_⟩
  obtain ⟨ad', e', hb⟩ := h.2.1 (by omega)
  obtain rfl : ad' = ad := by rw [e'] at e; injection e
  rw [hk _ (by rw [block_of_add]; exact hb)]
  exact h.2.2 _ e k hkn
theorem IntIn.more (h : IntIn w B A n zs) (hB : B ≤ B') : IntIn w B' A n zs :=
  ⟨h.1, fun hn => by obtain ⟨ad, e, hb⟩ := h.2.1 hn; exact ⟨ad, e, by omega⟩, h.2.2⟩
theorem IntIn.below (h : IntIn w B A n zs) (hb : Below B w w') : IntIn w' B A n zs := h.keep fun _ hp => hb.cell hp
theorem IntIn.drawn (h : IntIn w B A n zs) (k : Drawn w w') : IntIn w' B A n zs := by obtain ⟨m, rfl⟩ := k; exact h
theorem IntIn.to_below (h : IntIn w w.heap.size A n zs) (hb : Below w.heap.size w w') : IntIn w' w'.heap.size A n zs := (h.below hb).more hb.size
theorem IntIn.to_drawn (h : IntIn w w.heap.size A n zs) (hb : Drawn w w') : IntIn w' w'.heap.size A n zs := h.to_below hb.toBelow
theorem IntIn.here {ad : Addr} (h : IntIn w B (some ad) n zs) {k : Nat} (hk : k < n) : w.cell? (ad.add k) = some (.int .i64 (Zs.at zs k)) := h.2.2 ad rfl k hk
theorem IntIn.at_ (h : IntIn w B A n zs) {k : Nat} (hk : k < n) : ∃ ad, A = some ad ∧ ad.block < B ∧ w.cell? (ad.add k) = some (.int .i64 (Zs.at zs k)) := by
  obtain ⟨ad, rfl, hb⟩ := h.2.1 (by omega)
  exact ⟨ad, rfl, hb, h.here hk⟩
theorem IntIn.of_own {base : Nat} {e : TypeId} {c : Nat} (h : w.ownsRow base e 1 (.slice A n c) n (ints zs)) : IntIn w w.heap.size A n zs := by
  have hlen : zs.length = n := by have := h.1; rw [ints_length] at this; omega
  have hb : 0 < n → ∃ g cap, Value.slice A n c = .slice (some ⟨g, 0, none⟩) n cap ∧ g < w.heap.size := by
    intro hn
    rcases h.2 with ⟨_, h0⟩ | ⟨g, cap, cur, hv, hg, hh, _⟩
    · omega
    · refine ⟨g, cap, hv, ?_⟩
      rcases Nat.lt_or_ge g w.heap.size with hlt | hge
      · exact hlt
      · rw [Array.getElem?_eq_none hge] at hh; cases hh
  refine ⟨hlen, fun hn => ?_, fun ad e k hk => ?_⟩
  · obtain ⟨g, cap, hv, hlt⟩ := hb hn
    obtain rfl : A = some ⟨g, 0, none⟩ := by injection hv
    exact ⟨_, rfl, hlt⟩
  · obtain ⟨g, cap, hv, hlt⟩ := hb (by omega)
    obtain rfl : A = some ⟨g, 0, none⟩ := by injection hv
    obtain rfl : (⟨g, 0, none⟩ : Addr) = ad := by injection e
    exact h.cells rfl _ _ (ints_at zs k (by omega))
theorem IntIn.cells_at {ad : Addr} (h : IntIn w B (some ad) n zs) : ∀ j u, (ints zs)[j]? = some u → w.cell? (ad.add j) = some u := by
  intro j u hj
  have hlt := (List.getElem?_eq_some_iff.1 hj).1
  rw [ints_length] at hlt
  rw [ints_at _ _ hlt] at hj
  rw [h.here (k := j) (by rw [← h.1]; exact hlt)]
  exact hj
end

theorem NdIn.cells_at {w : World} {B n : Nat} {xs : Tr} {ad : Addr} (h : NdIn w B (some ad) n xs) : ∀ j u, (Tr.cells xs)[j]? = some u → w.cell? (ad.add j) = some u := by
  intro j u hj
  have hlt := (List.getElem?_eq_some_iff.1 hj).1
  rw [Tr.cells_length] at hlt
  have hk : j / 2 < xs.length := by omega
  have hc := h.2.2 ad rfl (j / 2) (by rw [← h.1]; exact hk)
  rcases Nat.mod_two_eq_zero_or_one j with h2 | h2
  · have e : j = j / 2 * 2 := by omega
    rw [e] at hj ⊢
    rw [Tr.cells_even _ _ hk] at hj
    rw [hc.1]
    exact hj
  · have e : j = j / 2 * 2 + 1 := by omega
    rw [e] at hj ⊢
    rw [Tr.cells_odd _ _ hk] at hj
    rw [hc.2]
    exact hj

/-! rows of the call's own -/
section
variable {w w' w'' : World} {base n g size : Nat} {e : TypeId} {v : Value} {ys : List Value}
theorem grown_tr {row : Option Nat} (h : w.grownBy w' row) (k : w'.grownBy w'' row) : w.grownBy w'' row :=
  ⟨k.os.trans h.os, k.tape.trans h.tape, k.output.trans h.output, Nat.le_trans h.size k.size, fun i hi hne => (k.block i (Nat.lt_of_lt_of_le hi h.size) hne).trans (h.block i hi hne)⟩
/-- a write into another row below the base -/
theorem own_grown (h : w.ownsRow base e size v n ys) {row : Option Nat} (hg : w.grownBy w' row) (hlt : ∀ g, row = some g → g < base) : w'.ownsRow base e size v n ys := by
  refine h.kept hg ?_
  rcases hb : v.ownBlock with _ | k
  · exact .inl rfl
  · refine .inr fun he => ?_
    have := h.lt k hb
    have := hlt k he.symm
    omega
theorem own_int {c : Nat} {zs : List Int} (h : w.ownsRow base e 1 (.slice (some ⟨g, 0, none⟩) n c) n (ints zs)) {k : Nat} (hk : k < zs.length) : w.cell? ⟨g, k, none⟩ = some (.int .i64 (Zs.at zs k)) := by
  have := h.1
  rw [ints_length] at this
  rw [h.cellAt _ (by omega), ints_at _ _ hk]
/-- where a row of one element at least lies -/
theorem own_form {A : Option Addr} {c : Nat} (h : w.ownsRow base e size (.slice A n c) n ys) (hn : 0 < n) : ∃ g, A = some ⟨g, 0, none⟩ ∧ base ≤ g ∧ g < w.heap.size := by
  rcases h.2 with ⟨_, h0⟩ | ⟨g, cap, cur, hv, hg, hh, _⟩
  · omega
  · have hA : A = some ⟨g, 0, none⟩ := by injection hv
    have := h.lt g (by rw [hA]; rfl)
    exact ⟨g, hA, hg, this.2⟩
end

/-! marks -/
def Zs.marks (k : Int) (n : Nat) : List Int := (List.range n).map fun j => k + (j : Nat)
def Zs.marked (k : Int) (zs : List Int) (j : Nat) : List Int := Zs.marks k j ++ zs.drop j
theorem Zs.marks_length (k : Int) (n : Nat) : (Zs.marks k n).length = n := by simp [Zs.marks]
theorem Zs.marks_succ (k : Int) (j : Nat) : Zs.marks k (j + 1) = Zs.marks k j ++ [k + (j : Nat)] := by simp [Zs.marks, List.range_succ]
theorem Zs.marked_set (k : Int) (zs : List Int) (j : Nat) (h : j < zs.length) : (Zs.marked k zs j).set j (k + (j : Nat)) = Zs.marked k zs (j + 1) := by
  unfold Zs.marked
  rw [List.set_append_right _ _ (by simp [Zs.marks]), Zs.marks_length, Nat.sub_self, List.drop_eq_getElem_cons h, Zs.marks_succ, List.set_cons_zero, List.append_assoc]
  rfl
theorem Zs.marked_all (k : Int) (zs : List Int) : Zs.marked k zs zs.length = Zs.marks k zs.length := by simp [Zs.marked]
theorem Zs.marked_length (k : Int) (zs : List Int) (j : Nat) (h : j ≤ zs.length) : (Zs.marked k zs j).length = zs.length := by simp [Zs.marked, Zs.marks]; omega

def Tr.marks (k : Int) (n : Nat) : Tr := (List.range n).map fun j => (k + 2 * (j : Nat), k + 2 * (j : Nat) + 1)
def Tr.marked (k : Int) (xs : Tr) (j : Nat) : Tr := Tr.marks k j ++ xs.drop j
theorem Tr.marks_length (k : Int) (n : Nat) : (Tr.marks k n).length = n := by simp [Tr.marks]
theorem Tr.marks_l (k : Int) (n j : Nat) (h : j < n) : Tr.l (Tr.marks k n) j = k + 2 * (j : Nat) := by simp [Tr.l, Tr.marks, List.getD_eq_getElem?_getD, h]
theorem Tr.marks_d (k : Int) (n j : Nat) (h : j < n) : Tr.d (Tr.marks k n) j = k + 2 * (j : Nat) + 1 := by simp [Tr.d, Tr.marks, List.getD_eq_getElem?_getD, h]
theorem Tr.marks_succ (k : Int) (j : Nat) : Tr.marks k (j + 1) = Tr.marks k j ++ [(k + 2 * (j : Nat), k + 2 * (j : Nat) + 1)] := by simp [Tr.marks, List.range_succ]
theorem Tr.marked_set (k : Int) (xs : Tr) (j : Nat) (h : j < xs.length) : (Tr.marked k xs j).set j (k + 2 * (j : Nat), k + 2 * (j : Nat) + 1) = Tr.marked k xs (j + 1) := by
  unfold Tr.marked
  rw [List.set_append_right _ _ (by simp [Tr.marks]), Tr.marks_length, Nat.sub_self, List.drop_eq_getElem_cons h, Tr.marks_succ, List.set_cons_zero, List.append_assoc]
  rfl
theorem Tr.marked_all (k : Int) (xs : Tr) : Tr.marked k xs xs.length = Tr.marks k xs.length := by simp [Tr.marked]
theorem Tr.marked_length (k : Int) (xs : Tr) (j : Nat) (h : j ≤ xs.length) : (Tr.marked k xs j).length = xs.length := by simp [Tr.marked, Tr.marks]; omega

/-! append of one element, the elements of which lie in a new block -/
/-- out = append(out, x), out a row of ints of the call's own -/
theorem append_int {P : Program} (w : World) {ops : Array Oper} {rest : List Oper} {o : Oper} {a : Act} {Q : Exit → Act → World → Prop} (hgd : o.guard = none) (s x : Operand) (t : TypeId)
    (ho : o.op = .call { callee := .builtin .append, args := #[s, x], argTypes := #[t, t] })
    (base : Nat) (e : TypeId) (i : TypeInfo) (ht : P.underlying t = some (.slice e)) (hi : P.info? e = some i) (hz : i.zero = some (.int .i64 0))
    (hsize : i.size = 1) (hby : i.bytes = 8) (v : Value) (n : Nat) (l : List Int) (hs : a.eval s = v) (hown : w.ownsRow base e 1 v n (ints l)) (hn : n = l.length)
    (b : Int) (hx : a.eval x = .slice (some ⟨w.heap.size, 0, none⟩) 1 1)
    (h63 : l.length + 1 ≤ 1073741824) (hbase : base ≤ w.heap.size)
    (h : ∀ v' w', w'.ownsRow base e 1 v' (l ++ [b]).length (ints (l ++ [b])) → (w.alloc (.cells #[.int .i64 b] e)).grownBy w' v.ownBlock → wpList P ops Q rest (a.put o.dst v') w') :
    wpList P ops Q (o :: rest) a (w.alloc (.cells #[.int .i64 b] e)) := by
  subst hn
  refine wpList_append_own _ hgd s x t ho base e i (.int .i64 0) 1 8 ht hi hz hsize hby rfl (by decide) v l.length (ints l) hs (hown.alloc _) ⟨w.heap.size, 0, none⟩ 1 1 [.int .i64 b] hx rfl ?_ ?_ ?_ ?_ ?_ ?_
  · intro j u hj
    have hj0 : j = 0 := by
      have := (List.getElem?_eq_some_iff.1 hj).1
      simpa using this
    subst hj0
    simp at hj
    subst hj
    simp [Addr.add]
  · intro u hu; simp at hu; subst hu; rfl
  · unfold maxLen; omega
  · omega
  · simp; omega
  · intro v' w' h2 h3 _
    refine h v' w' ?_ h3
    rw [ints_append, List.length_append]
    exact h2
end Go.Proofs.Ytgkkeejhfofcaaa
