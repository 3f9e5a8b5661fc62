/- Texts of one claim laid into one file, in build order: Pst, Pst2, SlI, SlC, Mem3, PostS, Part, LabOkI, Num. -/
import Derived.Test.YtgkkeejhfofcaaaHd2
import Derived.Test.YtgkkeejhfofcaaaHd3
import Derived.Test.YtgkkeejhfofcaaaHd4
import Derived.Maps.AppendAt
import Derived.Outline
import Derived.Test.YtgkkeejhfofcaaaRows
import Derived.WalkKit
/- Contracts (Pst). -/
namespace Go.Proofs.Ytgkkeejhfofcaaa
open Go.RowKit
set_option linter.unusedVariables false

/-! Postorder of a right tree, as plain mathematics. dn: the depth as a number; rk: a node's place in postorder, endN - 1 - dn; the place of its first leaf is i - dn i. -/
def Tr.dn (xs : Tr) (i : Nat) : Nat := (Tr.d xs i).toNat
section
variable {xs : Tr} (h : Tr.ok xs = true)
include h
theorem Tr.dn_eq {i : Nat} (hi : i < xs.length) : (Tr.dn xs i : Int) = Tr.d xs i := by
  have := (Tr.ok_at h hi).2.1
  unfold Tr.dn
  omega
theorem Tr.dn_zero : Tr.dn xs 0 = 0 := by
  have h0 := (Tr.ok_iff.1 h).2
  have h1 := (Tr.ok_at h (k := 0) (by omega)).2.2.1
  have h2 := Tr.dn_eq h (i := 0) (by omega)
  omega
theorem Tr.dn_succ {i : Nat} (hi : i + 1 < xs.length) : 1 ≤ Tr.dn xs (i + 1) ∧ Tr.dn xs (i + 1) ≤ Tr.dn xs i + 1 := by
  have h1 := Tr.ok_at h hi
  have h2 := Tr.dn_eq h hi
  have h3 := Tr.dn_eq h (i := i) (by omega)
  have h4 := h1.2.2.2
  rw [show i + 1 - 1 = i by omega] at h4
  omega
theorem Tr.gap_mono {i j : Nat} (hij : i ≤ j) (hj : j < xs.length) : i + Tr.dn xs j ≤ j + Tr.dn xs i := by
  induction j with
  | zero => obtain rfl : i = 0 := by omega
            omega
  | succ j ih =>
    by_cases e : i = j + 1
    · subst e; omega
    · have := ih (by omega) (by omega)
      have := (Tr.dn_succ h hj).2
      omega
theorem Tr.dn_le {i : Nat} (hi : i < xs.length) : Tr.dn xs i ≤ i := by
  have := Tr.gap_mono h (Nat.zero_le i) hi
  have := Tr.dn_zero h
  omega
/-- endN, with depths as numbers -/
theorem Tr.endN_dn {i : Nat} (hi : i < xs.length) : i < Tr.endN xs i ∧ Tr.endN xs i ≤ xs.length ∧ (∀ j, i < j → j < Tr.endN xs i → Tr.dn xs i < Tr.dn xs j) ∧ (Tr.endN xs i = xs.length ∨ (Tr.endN xs i < xs.length ∧ Tr.dn xs (Tr.endN xs i) ≤ Tr.dn xs i)) := by
  obtain ⟨h1, h2, h3, h4⟩ := Tr.endN_spec xs i hi
  refine ⟨h1, h2, fun j a b => ?_, ?_⟩
  · have := h3 j a b
    have := Tr.dn_eq h hi
    have := Tr.dn_eq h (i := j) (by omega)
    omega
  · rcases h4 with h4 | h4
    · exact .inl h4
    · by_cases e : Tr.endN xs i = xs.length
      · exact .inl e
      · have := Tr.dn_eq h hi
        have := Tr.dn_eq h (i := Tr.endN xs i) (by omega)
        exact .inr ⟨by omega, by omega⟩
theorem Tr.endN_in {i j : Nat} (hi : i < xs.length) (hij : i < j) (hj : j < Tr.endN xs i) : Tr.endN xs j ≤ Tr.endN xs i := by
  obtain ⟨a1, a2, a3, a4⟩ := Tr.endN_dn h hi
  obtain ⟨b1, b2, b3, b4⟩ := Tr.endN_dn h (i := j) (by omega)
  by_cases e : Tr.endN xs j ≤ Tr.endN xs i
  · exact e
  · have c1 := a3 j hij hj
    have c2 := b3 (Tr.endN xs i) hj (by omega)
    omega
end
def Tr.rk (xs : Tr) (i : Nat) : Nat := Tr.endN xs i - 1 - Tr.dn xs i
section
variable {xs : Tr} (h : Tr.ok xs = true)
include h
theorem Tr.rk_ge {i j : Nat} (hij : i ≤ j) (hj : j < xs.length) : i - Tr.dn xs i ≤ Tr.rk xs j := by
  have := Tr.gap_mono h hij hj
  have := Tr.dn_le h hj
  have := Tr.dn_le h (i := i) (by omega)
  have := (Tr.endN_dn h hj).1
  unfold Tr.rk
  omega
theorem Tr.rk_lt {i : Nat} (hi : i < xs.length) : Tr.rk xs i < xs.length := by
  have := Tr.endN_dn h hi
  unfold Tr.rk
  omega
theorem Tr.rk_under {i j : Nat} (hi : i < xs.length) (hij : i < j) (hj : j < Tr.endN xs i) : Tr.rk xs j < Tr.rk xs i := by
  have a := Tr.endN_dn h hi
  have b := Tr.endN_in h hi hij hj
  have c := a.2.2.1 j hij hj
  have d := Tr.dn_le h (i := j) (by omega)
  have e := (Tr.endN_dn h (i := j) (by omega)).1
  unfold Tr.rk
  omega
theorem Tr.rk_left {i j : Nat} (hi : i < xs.length) (hij : Tr.endN xs i ≤ j) (hj : j < xs.length) : Tr.rk xs i < Tr.rk xs j := by
  have a := Tr.endN_dn h hi
  have b := Tr.gap_mono h hij hj
  have c := Tr.dn_le h hj
  have d := Tr.dn_le h hi
  have e := (Tr.endN_dn h hj).1
  unfold Tr.rk
  omega
theorem Tr.rk_inj {i j : Nat} (hi : i < xs.length) (hj : j < xs.length) (e : Tr.rk xs i = Tr.rk xs j) : i = j := by
  rcases Nat.lt_trichotomy i j with hij | hij | hij
  · by_cases hu : j < Tr.endN xs i
    · have := Tr.rk_under h hi hij hu; omega
    · have := Tr.rk_left h hi (show Tr.endN xs i ≤ j by omega) hj; omega
  · exact hij
  · by_cases hu : i < Tr.endN xs j
    · have := Tr.rk_under h hj hij hu; omega
    · have := Tr.rk_left h hj (show Tr.endN xs j ≤ i by omega) hi; omega
end
/-- the subtree of i in postorder, by kids; the fuel is at least the number of nodes under i -/
def Tr.postF (xs : Tr) : Nat → Nat → List Nat
  | 0, i => [i]
  | f + 1, i => (Tr.kidsTo xs i (Tr.endN xs i)).flatMap (Tr.postF xs f) ++ [i]
/-- up to place k of the children's row of i, a kid stands next (or none is left) -/
def Tr.bound (xs : Tr) (i k : Nat) : Prop := i < k ∧ k ≤ Tr.endN xs i ∧ (k < Tr.endN xs i → Tr.dn xs k = Tr.dn xs i + 1)
section
variable {xs : Tr} (h : Tr.ok xs = true)
include h
theorem Tr.bound_start {i : Nat} (hi : i < xs.length) : Tr.bound xs i (i + 1) := by
  have a := Tr.endN_dn h hi
  refine ⟨by omega, by omega, fun hk => ?_⟩
  have := a.2.2.1 (i + 1) (by omega) hk
  have := Tr.dn_succ h (i := i) (by omega)
  omega
theorem Tr.bound_next {i k : Nat} (hi : i < xs.length) (hb : Tr.bound xs i k) (hk : k < Tr.endN xs i) : Tr.bound xs i (Tr.endN xs k) ∧ k < Tr.endN xs k := by
  have a := Tr.endN_dn h hi
  have b := Tr.endN_dn h (i := k) (by omega)
  have c := Tr.endN_in h hi hb.1 hk
  have d := hb.2.2 hk
  have b1 := b.1
  have b4 := b.2.2.2
  have hb1 := hb.1
  refine ⟨⟨by omega, c, fun e => ?_⟩, b.1⟩
  have := a.2.2.1 (Tr.endN xs k) (by omega) e
  omega
theorem Tr.kids_in {i k m : Nat} (hi : i < xs.length) (hb : Tr.bound xs i k) (hk : k < Tr.endN xs i) (hm : k < m) (hm2 : m ≤ Tr.endN xs k) : Tr.kidsTo xs i m = Tr.kidsTo xs i k ++ [k] := by
  have a := Tr.endN_dn h hi
  have b := Tr.endN_dn h (i := k) (by omega)
  induction m with
  | zero => omega
  | succ m ih =>
    have e1 := Tr.dn_eq h hi
    rw [Tr.kidsTo_succ xs i m (by have := hb.1; omega)]
    by_cases e : m = k
    · subst e
      have e2 := Tr.dn_eq h (i := m) (by omega)
      have := hb.2.2 hk
      rw [if_pos (by omega)]
    · have e2 := Tr.dn_eq h (i := m) (by omega)
      have e3 := b.2.2.1 m (by omega) (by omega)
      have := hb.2.2 hk
      rw [if_neg (by omega)]
      exact ih (by omega) (by omega)
theorem Tr.postF_spec (f : Nat) : ∀ i, i < xs.length → Tr.endN xs i - i ≤ f + 1 →
    (Tr.postF xs f i).length = Tr.endN xs i - i ∧ ∀ j, i ≤ j → j < Tr.endN xs i → (Tr.postF xs f i)[Tr.rk xs j - (i - Tr.dn xs i)]? = some j := by
  induction f with
  | zero =>
    intro i hi hf
    have a := Tr.endN_dn h hi
    refine ⟨by simp [Tr.postF]; omega, fun j h1 h2 => ?_⟩
    obtain rfl : j = i := by omega
    have : Tr.rk xs j - (j - Tr.dn xs j) = 0 := by
      have := Tr.dn_le h hi
      unfold Tr.rk; omega
    rw [this]; rfl
  | succ f ih =>
    intro i hi hf
    have a := Tr.endN_dn h hi
    have hdi := Tr.dn_le h hi
    have key : ∀ r k, Tr.endN xs i - k = r → Tr.bound xs i k →
        (((Tr.kidsTo xs i k).flatMap (Tr.postF xs f)).length = k - (i + 1) ∧ ∀ j, i < j → j < k → ((Tr.kidsTo xs i k).flatMap (Tr.postF xs f))[Tr.rk xs j - (i - Tr.dn xs i)]? = some j) →
        ((Tr.kidsTo xs i (Tr.endN xs i)).flatMap (Tr.postF xs f)).length = Tr.endN xs i - (i + 1) ∧ ∀ j, i < j → j < Tr.endN xs i → ((Tr.kidsTo xs i (Tr.endN xs i)).flatMap (Tr.postF xs f))[Tr.rk xs j - (i - Tr.dn xs i)]? = some j := by
      intro r
      induction r using Nat.strongRecOn with
      | ind r ihr =>
        intro k hr hb hk
        by_cases e : k = Tr.endN xs i
        · rw [← e]; exact hk
        · have hki : k < Tr.endN xs i := by have := hb.2.1; omega
          obtain ⟨hb', hlt⟩ := Tr.bound_next h hi hb hki
          have hkn : k < xs.length := by omega
          have hdk := hb.2.2 hki
          have hdk2 := Tr.dn_le h hkn
          have hik := hb.1
          have hsub := hb'.2.1
          obtain ⟨s1, s2⟩ := ih k hkn (by omega)
          refine ihr _ ?_ _ rfl hb' ?_
          · omega
          · rw [Tr.kids_in h hi hb hki hlt (Nat.le_refl _), List.flatMap_append]
            simp only [List.flatMap_cons, List.flatMap_nil, List.append_nil]
            refine ⟨by rw [List.length_append, hk.1, s1]; omega, fun j h1 h2 => ?_⟩
            by_cases hjk : j < k
            · have hc := hk.2 j h1 hjk
              have hlen := (List.getElem?_eq_some_iff.1 hc).1
              rw [List.getElem?_append_left hlen]
              exact hc
            · have hc := s2 j (by omega) h2
              have hge := Tr.rk_ge h (i := k) (j := j) (by omega) (by omega)
              rw [List.getElem?_append_right (by rw [hk.1]; omega), hk.1]
              rw [show Tr.rk xs j - (i - Tr.dn xs i) - (k - (i + 1)) = Tr.rk xs j - (k - Tr.dn xs k) by omega]
              exact hc
    have hstart := key _ (i + 1) rfl (Tr.bound_start h hi) ⟨by rw [Tr.kidsTo_start]; simp, fun j h1 h2 => by omega⟩
    obtain ⟨p1, p2⟩ := hstart
    unfold Tr.postF
    refine ⟨by rw [List.length_append, p1]; simp; omega, fun j h1 h2 => ?_⟩
    by_cases e : j = i
    · subst e
      rw [List.getElem?_append_right (by rw [p1]; unfold Tr.rk; omega), p1]
      have : Tr.rk xs j - (j - Tr.dn xs j) - (Tr.endN xs j - (j + 1)) = 0 := by unfold Tr.rk; omega
      rw [this]; rfl
    · have hc := p2 j (by omega) h2
      have hlen := (List.getElem?_eq_some_iff.1 hc).1
      rw [List.getElem?_append_left hlen]
      exact hc
end
/-- all nodes in postorder -/
def Tr.post (xs : Tr) : List Nat := if Tr.ok xs then Tr.postF xs xs.length 0 else []
section
variable {xs : Tr} (h : Tr.ok xs = true)
include h
theorem Tr.endN_zero : Tr.endN xs 0 = xs.length := by
  have h0 := (Tr.ok_iff.1 h).2
  have a := Tr.endN_dn h (i := 0) (by omega)
  rcases a.2.2.2 with e | ⟨e1, e2⟩
  · exact e
  · have h3 := Tr.dn_zero h
    have h4 := Tr.dn_succ h (i := Tr.endN xs 0 - 1) (by omega)
    rw [show Tr.endN xs 0 - 1 + 1 = Tr.endN xs 0 by omega] at h4
    omega
theorem Tr.post_length : (Tr.post xs).length = xs.length := by
  have h0 := (Tr.ok_iff.1 h).2
  have := (Tr.postF_spec h xs.length 0 (by omega) (by rw [Tr.endN_zero h]; omega)).1
  rw [Tr.post, if_pos h, this, Tr.endN_zero h]
  omega
theorem Tr.post_rk {j : Nat} (hj : j < xs.length) : (Tr.post xs)[Tr.rk xs j]? = some j := by
  have h0 := (Tr.ok_iff.1 h).2
  have := (Tr.postF_spec h xs.length 0 (by omega) (by rw [Tr.endN_zero h]; omega)).2 j (Nat.zero_le _) (by rw [Tr.endN_zero h]; exact hj)
  rw [Tr.post, if_pos h]
  simpa using this
end

end Go.Proofs.Ytgkkeejhfofcaaa

/- Contracts (Pst2). -/
namespace Go.Proofs.Ytgkkeejhfofcaaa
open Go.RowKit
set_option linter.unusedVariables false

/-- a map of [0, n) into itself that tells all apart meets all -/
theorem pigeon : ∀ (n : Nat) (f : Nat → Nat), (∀ i, i < n → f i < n) → (∀ i j, i < n → j < n → f i = f j → i = j) → ∀ q, q < n → ∃ i, i < n ∧ f i = q := by
  intro n
  induction n with
  | zero => intro f _ _ q hq; omega
  | succ n ih =>
    intro f hf hinj q hq
    have hg1 : ∀ i, i < n → (if f i = n then f n else f i) < n := by
      intro i hi
      split
      · rename_i e
        have := hf n (by omega)
        by_cases e2 : f n = n
        · have := hinj i n (by omega) (by omega) (by omega); omega
        · omega
      · have := hf i (by omega); omega
    have hg2 : ∀ i j, i < n → j < n → (if f i = n then f n else f i) = (if f j = n then f n else f j) → i = j := by
      intro i j hi hj e
      split at e <;> split at e
      · exact hinj i j (by omega) (by omega) (by omega)
      · have := hinj n j (by omega) (by omega) e; omega
      · have := hinj i n (by omega) (by omega) e; omega
      · exact hinj i j (by omega) (by omega) e
    have H := ih (fun i => if f i = n then f n else f i) hg1 hg2
    by_cases e : q = f n
    · exact ⟨n, by omega, e.symm⟩
    · by_cases e2 : q = n
      · obtain ⟨i, hi, h⟩ := H (f n) (by have := hf n (by omega); omega)
        split at h
        · rename_i h'; exact ⟨i, by omega, by omega⟩
        · have := hinj i n (by omega) (by omega) h; omega
      · obtain ⟨i, hi, h⟩ := H q (by omega)
        split at h
        · exact absurd h.symm e
        · exact ⟨i, by omega, h⟩
section
variable {xs : Tr} (h : Tr.ok xs = true)
include h
theorem Tr.post_get {k : Nat} (hk : k < xs.length) : ∃ i, i < xs.length ∧ (Tr.post xs)[k]? = some i ∧ Tr.rk xs i = k := by
  obtain ⟨i, hi, e⟩ := pigeon xs.length (Tr.rk xs) (fun i hi => Tr.rk_lt h hi) (fun i j hi hj e => Tr.rk_inj h hi hj e) k hk
  exact ⟨i, hi, by rw [← e]; exact Tr.post_rk h hi, e⟩
end
theorem Tr.post_none {xs : Tr} (h : Tr.ok xs = false) : Tr.post xs = [] := by unfold Tr.post; rw [h]; rfl
theorem Tr.post_len_le (xs : Tr) : (Tr.post xs).length ≤ xs.length := by
  rcases h : Tr.ok xs with _ | _
  · rw [Tr.post_none h]; exact Nat.zero_le _
  · rw [Tr.post_length h]; exact Nat.le_refl _
theorem Tr.post_ok {xs : Tr} {k : Nat} (hk : k < (Tr.post xs).length) : Tr.ok xs = true ∧ (Tr.post xs).length = xs.length := by
  rcases h : Tr.ok xs with _ | _
  · rw [Tr.post_none h] at hk; simp at hk
  · exact ⟨rfl, Tr.post_length h⟩
/-- one place of the postorder: its node -/
theorem Tr.post_at {xs : Tr} {k : Nat} (hk : k < (Tr.post xs).length) : ∃ i, i < (Tr.post xs).length ∧ (Tr.post xs)[k]? = some i ∧ Tr.rk xs i = k ∧ Tr.ok xs = true ∧ (Tr.post xs).length = xs.length := by
  obtain ⟨h1, h2⟩ := Tr.post_ok hk
  obtain ⟨i, a, b, c⟩ := Tr.post_get h1 (k := k) (by omega)
  exact ⟨i, by omega, b, c, h1, h2⟩
def Tr.rks (xs : Tr) : List Nat := (List.range (Tr.post xs).length).map (Tr.rk xs)
theorem Tr.rks_length (xs : Tr) : (Tr.rks xs).length = (Tr.post xs).length := by simp [Tr.rks]
/-- the place of the first leaf, for each place -/
def Tr.lfs (xs : Tr) : List Nat := (Tr.post xs).map fun i => i - Tr.dn xs i
theorem Tr.lfs_length (xs : Tr) : (Tr.lfs xs).length = (Tr.post xs).length := by simp [Tr.lfs]
/-- of a row the places whose value does not come again up to m -/
def Zs.lastTo (f : List Nat) (k m : Nat) : Bool := (List.range m).all fun j => decide (j ≤ k) || decide (f.getD j 0 ≠ f.getD k 0)
def Tr.krTo (xs : Tr) (k : Nat) : List Nat := (List.range k).filter fun j => Zs.lastTo (Tr.lfs xs) j (Tr.lfs xs).length
def Tr.krs (xs : Tr) : List Nat := Tr.krTo xs (Tr.lfs xs).length
theorem Tr.krTo_succ (xs : Tr) (k : Nat) : Tr.krTo xs (k + 1) = if Zs.lastTo (Tr.lfs xs) k (Tr.lfs xs).length = true then Tr.krTo xs k ++ [k] else Tr.krTo xs k := by
  unfold Tr.krTo
  rw [List.range_succ, List.filter_append]
  by_cases h : Zs.lastTo (Tr.lfs xs) k (Tr.lfs xs).length = true <;> simp [h]
theorem Tr.krTo_le (xs : Tr) (k : Nat) : (Tr.krTo xs k).length ≤ k := by
  have := List.length_filter_le (fun j => Zs.lastTo (Tr.lfs xs) j (Tr.lfs xs).length) (List.range k)
  simpa [Tr.krTo] using this
/-- is j under i; does j come behind i, and all under it -/
def Tr.under (xs : Tr) (i j : Int) : Bool := Tr.has xs i && Tr.has xs j && decide (i < j) && decide (j < Tr.endOf xs i)
/-- the first place of i in zs, counted from k -/
def Zs.find : List Int → Int → Nat → Int
  | [], _, _ => -1
  | z :: zs, i, k => if z = i then k else Zs.find zs i (k + 1)
theorem Zs.find_step (zs : List Int) (i : Int) (k : Nat) (hk : k < zs.length) : Zs.find (zs.drop k) i k = if zs.getD k 0 = i then (k : Int) else Zs.find (zs.drop (k + 1)) i (k + 1) := by
  rw [List.drop_eq_getElem_cons hk]
  simp [Zs.find, List.getD_eq_getElem?_getD, hk]
def Tr.kidRank (xs : Tr) (i : Int) : Int := if Tr.parentOf xs i < 0 then -1 else Zs.find ((Tr.kidsOf xs (Tr.parentOf xs i)).map fun (m : Nat) => (m : Int)) i 0

end Go.Proofs.Ytgkkeejhfofcaaa

/- Contracts (SlI). -/
namespace Go.Proofs.Ytgkkeejhfofcaaa
open Go.RowKit
set_option linter.unusedVariables false

set_option maxHeartbeats 1600000 in
set_option maxRecDepth 100000 in
theorem slIndex_any (A : Option Addr) (n c : Nat) (zs : List Int) (i : Int) (w : World) (h : IntIn w w.heap.size A n zs) (hn : n ≤ 1048576) :
    Calls Try.prog 143 #[.slice A n c, .int .i64 i] w fun e w' => e = .returned (.int .i64 (Zs.find zs i 0)) ∧ w = w' := by
  have H := Lib.hid h
  have HL := Lib.hid h.1
  clear h
  have HFS := Lib.hid (fun k => Zs.find_step zs i k)
  go_enter Try.func143, Try.ntmps143
  go_wp2
  go_loop [8] (fun kv => ∃ k : Nat, k ≤ n ∧ kv = .int .i64 k ∧ Zs.find zs i 0 = Zs.find (zs.drop k) i k) (fun k => n - (intOf k).toNat)
  case atStart => exact ⟨0, Nat.zero_le _, rfl, rfl⟩
  case round =>
    obtain ⟨k, hk, rfl, hfi⟩ := hrel
    have HI := Lib.hid hfi
    clear hfi
    by_cases hlt : k < n
    · have hfs := HFS.out k (by rw [HL.out]; exact hlt)
      obtain ⟨ad, rfl, _, c1⟩ := H.out.at_ hlt
      have hz : Zs.at zs k = zs.getD k 0 := rfl
      rw [hz] at c1
      obtain ⟨x, hx⟩ : ∃ x, x = zs.getD k 0 := ⟨_, rfl⟩
      rw [← hx] at c1 hfs
      clear hx hz
      have k0 : (0 : Int) ≤ (k : Int) := by omega
      have k1 : (k : Int) < (n : Int) := by omega
      by_cases hq : x = i
      · have q : (i == x) = true := by simpa using hq.symm
        rw [if_pos hq] at hfs
        have Hs := Lib.hid (HI.out.trans hfs)
        clear hq hfs
        go_wp2
        go_ret
        exact ⟨by rw [Hs.out]; rfl, rfl⟩
      · have q : (i == x) = false := by simpa using fun e => hq e.symm
        rw [if_neg hq] at hfs
        have Hs := Lib.hid (HI.out.trans hfs)
        clear hq hfs
        go_wp2
        go_round
        case rel => exact ⟨k + 1, by omega, by go_num, Hs.out⟩
        case measure => simp [intOf]; omega
    · obtain rfl : k = n := by omega
      have Hs := Lib.hid (show Zs.find zs i 0 = -1 by rw [HI.out, List.drop_eq_nil_of_le (by rw [HL.out]; exact Nat.le_refl _)]; rfl)
      go_wp2
      go_ret
      exact ⟨by rw [Hs.out]; rfl, rfl⟩

end Go.Proofs.Ytgkkeejhfofcaaa

/- Contracts (SlC). -/
namespace Go.Proofs.Ytgkkeejhfofcaaa
open Go.RowKit
set_option linter.unusedVariables false

theorem Zs.find_mem (zs : List Int) (i : Int) (k : Nat) : 0 ≤ Zs.find zs i k ↔ i ∈ zs := by
  induction zs generalizing k with
  | nil => simp [Zs.find]
  | cons z zs ih =>
    unfold Zs.find
    by_cases h : z = i
    · rw [if_pos h]; subst h; simp
    · rw [if_neg h, ih (k + 1)]
      simp [show ¬ i = z from fun e => h e.symm]
set_option maxHeartbeats 1600000 in
set_option maxRecDepth 100000 in
theorem slContains_any (A : Option Addr) (n c : Nat) (zs : List Int) (i : Int) (w : World) (h : IntIn w w.heap.size A n zs) (hn : n ≤ 1048576) :
    Calls Try.prog 104 #[.slice A n c, .int .i64 i] w fun e w' => e = .returned (.bool (decide (i ∈ zs))) ∧ w = w' := by
  have H := Lib.hid h
  clear h
  have hm := Zs.find_mem zs i 0
  obtain ⟨z, hz⟩ : ∃ z, z = Zs.find zs i 0 := ⟨_, rfl⟩
  have HZ := Lib.hid hz
  rw [← hz] at hm
  have HM := Lib.hid (show decide (0 ≤ z) = decide (i ∈ zs) by rw [Bool.eq_iff_iff]; simp [hm])
  clear hm hz
  go_enter Try.func104, Try.ntmps104
  go_wp2_with fail
  refine (slIndex_any _ _ _ zs _ _ H.out hn).mono ?_
  rintro e w1 ⟨rfl, rfl⟩
  rw [← HZ.out]
  go_wp2
  go_ret
  exact ⟨by rw [← HM.out]; rfl, rfl⟩

end Go.Proofs.Ytgkkeejhfofcaaa

/- Contracts (Mem3). -/
namespace Go.Proofs.Ytgkkeejhfofcaaa
open Go.RowKit
set_option linter.unusedVariables false

/-- the rows a and b lie in blocks apart (a's may be none) -/
def Apart (a b : Value) : Prop := a.ownBlock = none ∨ a.ownBlock ≠ b.ownBlock
end Go.Proofs.Ytgkkeejhfofcaaa

/- Contracts (PostS). -/
namespace Go.Proofs.Ytgkkeejhfofcaaa
open Go.RowKit
set_option linter.unusedVariables false

def Zs.up (l : List Nat) : List Int := l.map fun (m : Nat) => (m : Int)
theorem Zs.up_length (l : List Nat) : (Zs.up l).length = l.length := by simp [Zs.up]
theorem Zs.up_append (a b : List Nat) : Zs.up (a ++ b) = Zs.up a ++ Zs.up b := by simp [Zs.up]
theorem Zs.up_at (l : List Nat) (k : Nat) (h : k < l.length) : Zs.at (Zs.up l) k = (l[k] : Int) := by simp [Zs.at, Zs.up, List.getD_eq_getElem?_getD, h]
end Go.Proofs.Ytgkkeejhfofcaaa

/- Contracts (Part). -/
namespace Go.Proofs.Ytgkkeejhfofcaaa
open Go.RowKit
set_option linter.unusedVariables false

/-- of a row the first k values, then zeroes -/
def Zs.part (F : List Int) (k : Nat) : List Int := F.take k ++ List.replicate (F.length - k) 0
theorem Zs.part_length (F : List Int) (k : Nat) (h : k ≤ F.length) : (Zs.part F k).length = F.length := by simp [Zs.part]; omega
theorem Zs.part_zero (F : List Int) : Zs.part F 0 = List.replicate F.length 0 := by simp [Zs.part]
theorem Zs.part_all (F : List Int) : Zs.part F F.length = F := by simp [Zs.part]
theorem Zs.part_set (F : List Int) (k : Nat) (h : k < F.length) : (Zs.part F k).set k (Zs.at F k) = Zs.part F (k + 1) := by
  unfold Zs.part
  have hl : (F.take k).length = k := by simp; omega
  rw [List.set_append_right _ _ (by omega), hl, Nat.sub_self, show F.length - k = (F.length - (k + 1)) + 1 by omega, List.replicate_succ, List.set_cons_zero, List.take_succ_eq_append_getElem h, List.append_assoc]
  simp [Zs.at, List.getD_eq_getElem?_getD, h]
theorem made_zeros (z n : Nat) : (madeCells (Value.int .i64 0).cells (n * 1)).toList = ints (List.replicate n 0) := by
  unfold madeCells ints
  refine List.ext_getElem (by simp) fun k h1 h2 => ?_
  simp at h1 h2 ⊢
  show (#[Value.int .i64 0] : Array Value)[k % 1]! = _
  rw [Nat.mod_one]
  rfl
theorem info_intZ : (Try.prog.info? 3).map (fun i => (i.zero, i.size, i.bytes)) = some (some (.int .i64 0), 1, 8) := by kernel_rfl

end Go.Proofs.Ytgkkeejhfofcaaa

/- Contracts (LabOkI). -/
namespace Go.Proofs.Ytgkkeejhfofcaaa
open Go.RowKit
set_option linter.unusedVariables false

set_option maxHeartbeats 400000 in
theorem implLabelOk_any (n : Int) (w : World) :
    Calls Try.prog 130 #[.int .i64 n] w fun e w' => e = .returned (.bool (Lab.ok n)) ∧ w = w' := by
  go_enter Try.func130, Try.ntmps130
  go_wp2
  all_goals go_ret
  all_goals exact ⟨Kit.ret_bool (by unfold Lab.ok; first | (rw [decide_eq_decide]; omega) | (symm; rw [decide_eq_false_iff_not]; omega)), rfl⟩

end Go.Proofs.Ytgkkeejhfofcaaa

/- Plain mathematics of chapter 1 (bytes of a number), without the program. -/
namespace Go.Proofs.Ytgkkeejhfofcaaa.Num

/-- n divided k times by 256 -/
def dn (n : Nat) : Nat → Nat
  | 0 => n
  | k + 1 => dn n k / 256

theorem dn_pow (n k : Nat) : dn n k = n / 2 ^ (8 * k) := by
  induction k with
  | zero => simp [dn]
  | succ k ih =>
    rw [dn, ih, Nat.div_div_eq_div_mul]
    congr 1
    rw [Nat.mul_add, Nat.pow_add]

theorem dn_le (n k : Nat) : dn n k ≤ n := by
  rw [dn_pow]; exact Nat.div_le_self _ _

end Go.Proofs.Ytgkkeejhfofcaaa.Num
