/- Texts of one claim laid into one file, in build order: KidsP, LabOkI, Num, C1P, Cod, DepI, TreeOkI, HasI, ParI. -/
import Derived.Test.YtofpcedpmbecgaaHb1
import Derived.Test.YtofpcedpmbecgaaHb2
import Derived.Test.YtofpcedpmbecgaaHb4
import Derived.BigQuiet
import Derived.Lib.Bytealg
import Derived.Lib.Strings
import Derived.Outline
import Derived.Test.YtofpcedpmbecgaaRows
import Derived.WalkKit
/- Contracts (KidsP). -/
namespace Go.Proofs.Ytofpcedpmbecgaa
open Go.RowKit
set_option linter.unusedVariables false

theorem Tr.kidsTo_more (xs : Tr) (i k : Nat) : ∀ m, k ≤ m → ∃ r, Tr.kidsTo xs i m = Tr.kidsTo xs i k ++ r := by
  intro m
  induction m with
  | zero => intro h; obtain rfl : k = 0 := by omega
            exact ⟨[], by simp⟩
  | succ m ih =>
    intro h
    by_cases e : k = m + 1
    · subst e; exact ⟨[], by simp⟩
    · obtain ⟨r, hr⟩ := ih (by omega)
      refine ⟨r ++ ([m].filter fun j => decide (i < j) && decide (Tr.d xs j = Tr.d xs i + 1)), ?_⟩
      rw [← List.append_assoc, ← hr]
      unfold Tr.kidsTo
      rw [List.range_succ, List.filter_append]
theorem Zs.find_mid (A r : List Int) (b : Int) (k : Nat) (h : ∀ a ∈ A, a ≠ b) : Zs.find (A ++ b :: r) b k = ((k + A.length : Nat) : Int) := by
  induction A generalizing k with
  | nil => simp [Zs.find]
  | cons a A ih =>
    have ha : a ≠ b := h a List.mem_cons_self
    simp only [List.cons_append, Zs.find]
    rw [if_neg ha, ih (k + 1) (fun x hx => h x (List.mem_cons_of_mem _ hx))]
    simp
    omega
section
variable {xs : Tr} (hok : Tr.ok xs = true)
include hok
/-- at place b of the children's row of i, b itself is the next kid -/
theorem Tr.kid_next {i b : Nat} (hi : i < xs.length) (hb : Tr.bound xs i b) (hlt : b < Tr.endN xs i) : ∃ r, Tr.kidsTo xs i (Tr.endN xs i) = Tr.kidsTo xs i b ++ b :: r := by
  obtain ⟨hn, hl⟩ := Tr.bound_next hok hi hb hlt
  obtain ⟨r, hr⟩ := Tr.kidsTo_more xs i (Tr.endN xs b) (Tr.endN xs i) hn.2.1
  exact ⟨r, by rw [hr, Tr.kids_in hok hi hb hlt hl (Nat.le_refl _), List.append_assoc]; rfl⟩
theorem Tr.kid_parent {i b : Nat} (hi : i < xs.length) (hb : Tr.bound xs i b) (hlt : b < Tr.endN xs i) : Tr.parentOf xs (b : Int) = (i : Int) := by
  have a := Tr.endN_dn hok hi
  have hbn : b < xs.length := by omega
  have hd := hb.2.2 hlt
  have h1 := Tr.dn_eq hok hi
  have h2 := Tr.dn_eq hok hbn
  unfold Tr.parentOf
  rw [Tr.has_nat hok hbn]
  refine Tr.back_is (xs := xs) (p := i) (by simp; omega) b hb.1 (fun m q1 q2 => ?_)
  have := a.2.2.1 m q1 (by omega)
  have := Tr.dn_eq hok (i := m) (by omega)
  simp
  omega
theorem Tr.kid_rank {i b : Nat} (hi : i < xs.length) (hb : Tr.bound xs i b) (hlt : b < Tr.endN xs i) : Tr.kidRank xs (b : Int) = ((Tr.kidsTo xs i b).length : Nat) := by
  unfold Tr.kidRank
  rw [Tr.kid_parent hok hi hb hlt, if_neg (by omega)]
  obtain ⟨r, hr⟩ := Tr.kid_next hok hi hb hlt
  rw [show Tr.kidsOf xs (i : Int) = Tr.kidsTo xs i (Tr.endN xs i) by unfold Tr.kidsOf; rw [Tr.has_nat hok hi]; rfl, hr, List.map_append, List.map_cons, Zs.find_mid]
  · simp
  · intro a ha
    obtain ⟨m, hm, rfl⟩ := List.mem_map.1 ha
    unfold Tr.kidsTo at hm
    simp only [List.mem_filter, List.mem_range] at hm
    omega
/-- one round over the children: the j-th kid stands at b -/
theorem Tr.kid_round {i b j : Nat} (hi : i < xs.length) (hb : Tr.bound xs i b) (hj : (Tr.kidsTo xs i b).length = j) (hlt : j < (Tr.kidsTo xs i (Tr.endN xs i)).length) :
    b < xs.length ∧ Zs.at (Tr.kidsI xs (i : Int)) j = (b : Int) ∧ Tr.parentOf xs (b : Int) = (i : Int) ∧ Tr.kidRank xs (b : Int) = (j : Int) ∧
    (Tr.subTree xs (b : Int)).length = Tr.endN xs b - b ∧ Tr.bound xs i (Tr.endN xs b) ∧ (Tr.kidsTo xs i (Tr.endN xs b)).length = j + 1 ∧ b < Tr.endN xs b ∧ Tr.endN xs b ≤ xs.length ∧ i < b := by
  have a := Tr.endN_dn hok hi
  have hbe : b < Tr.endN xs i := by
    have := hb.2.1
    by_cases e : b = Tr.endN xs i
    · rw [e] at hj; omega
    · omega
  have hbn : b < xs.length := by omega
  obtain ⟨r, hr⟩ := Tr.kid_next hok hi hb hbe
  obtain ⟨hn, hl⟩ := Tr.bound_next hok hi hb hbe
  refine ⟨hbn, ?_, Tr.kid_parent hok hi hb hbe, by rw [Tr.kid_rank hok hi hb hbe, hj], ?_, hn, ?_, hl, (Tr.endN_dn hok hbn).2.1, hb.1⟩
  · rw [Tr.kidsI_yes (Tr.has_nat hok hi)]
    unfold Tr.kidsZ
    rw [hr]
    simp [Zs.at, List.getD_eq_getElem?_getD, ← hj]
  · rw [Tr.subTree_yes (Tr.has_nat hok hbn), Tr.subTo_length]
  · rw [Tr.kids_in hok hi hb hbe hl (Nat.le_refl _), List.length_append, hj]; rfl
theorem Tr.kid_last {i b j : Nat} (hi : i < xs.length) (hb : Tr.bound xs i b) (hj : (Tr.kidsTo xs i b).length = j) (hlt : j = (Tr.kidsTo xs i (Tr.endN xs i)).length) : b = Tr.endN xs i := by
  have := hb.2.1
  by_cases e : b = Tr.endN xs i
  · exact e
  · obtain ⟨r, hr⟩ := Tr.kid_next hok hi hb (by omega)
    rw [hr, List.length_append, List.length_cons] at hlt
    omega
theorem Tr.sub_ok {i : Nat} (hi : i < xs.length) : Tr.ok (Tr.subTree xs (i : Int)) = true := by
  have a := Tr.endN_dn hok hi
  have hn := (Tr.ok_iff.1 hok).2
  rw [Tr.subTree_yes (Tr.has_nat hok hi)]
  rw [Tr.ok_iff, Tr.subTo_length]
  have hl : ∀ t, t < Tr.endN xs i - i → Tr.l (Tr.subTo xs i (Tr.endN xs i)) t = Tr.l xs (i + t) := fun t ht => by simp [Tr.l, Tr.subTo, List.getD_eq_getElem?_getD, ht]
  have hd : ∀ t, t < Tr.endN xs i - i → Tr.d (Tr.subTo xs i (Tr.endN xs i)) t = Tr.d xs (i + t) - Tr.d xs i := fun t ht => by simp [Tr.d, Tr.subTo, List.getD_eq_getElem?_getD, ht]
  refine ⟨fun t ht => ?_, by omega, by omega⟩
  have h1 := Tr.ok_at hok (k := i + t) (by omega)
  have h2 := Tr.ok_at hok hi
  have h3 := Tr.dn_eq hok hi
  have h4 := Tr.dn_eq hok (i := i + t) (by omega)
  unfold Tr.okAt
  rw [decide_eq_true_eq, hl t ht, hd t ht]
  refine ⟨h1.1, ?_, ?_, ?_⟩
  · by_cases e : t = 0
    · subst e; simp
    · have := a.2.2.1 (i + t) (by omega) (by omega)
      omega
  · by_cases e : t = 0
    · subst e; simp
    · have := a.2.2.1 (i + t) (by omega) (by omega)
      omega
  · by_cases e : t = 0
    · exact .inl e
    · refine .inr ?_
      rw [hd (t - 1) (by omega), show i + (t - 1) = i + t - 1 by omega]
      rcases h1.2.2.2 with q | q
      · omega
      · omega
end

end Go.Proofs.Ytofpcedpmbecgaa

/- Contracts (LabOkI). -/
namespace Go.Proofs.Ytofpcedpmbecgaa
open Go.RowKit
set_option linter.unusedVariables false

set_option maxHeartbeats 400000 in
theorem implLabelOk_any (n : Int) (w : World) :
    Calls Try.prog 59 #[.int .i64 n] w fun e w' => e = .returned (.bool (Lab.ok n)) ∧ w = w' := by
  go_enter Try.func59, Try.ntmps59
  go_wp2
  all_goals go_ret
  all_goals exact ⟨Kit.ret_bool (by unfold Lab.ok; first | (rw [decide_eq_decide]; omega) | (symm; rw [decide_eq_false_iff_not]; omega)), rfl⟩

end Go.Proofs.Ytofpcedpmbecgaa

/- Plain mathematics of chapter 1 (bytes of a number), without the program. -/
namespace Go.Proofs.Ytofpcedpmbecgaa.Num

/-- n divided k times by 256 -/
def dn (n : Nat) : Nat → Nat
  | 0 => n
  | k + 1 => dn n k / 256

end Go.Proofs.Ytofpcedpmbecgaa.Num

/- Plain mathematics of chapter 1. -/
namespace Go.Proofs.Ytofpcedpmbecgaa
open Go.RowKit
set_option linter.unusedVariables false

/-- the varint of a number below 128^(f+1) -/
def Num.varF : Nat → Nat → List UInt8
  | 0, q => [UInt8.ofNat q]
  | f + 1, q => if q < 128 then [UInt8.ofNat q] else UInt8.ofNat (128 + q % 128) :: Num.varF f (q / 128)

/-- what Var gives -/
def Num.varR (n : Int) : List UInt8 := if 0 ≤ n ∧ n ≤ 562949953421311 then Num.varF 6 n.toNat else []

/-- what holds at each round's head: f bytes at most come behind those that are gathered -/
def Num.VarAt (m f q : Nat) (acc : List UInt8) : Prop := acc.length + f = 6 ∧ q < 128 ^ (f + 1) ∧ acc ++ Num.varF f q = Num.varF 6 m

theorem Num.VarAt.start {m : Nat} (h : m ≤ 562949953421311) : Num.VarAt m 6 m [] := ⟨rfl, by omega, by simp⟩

/-- the number of seven bits a byte, the least significant first -/
def Num.val7 : List UInt8 → Nat
  | [] => 0
  | b :: l => b.toNat % 128 + 128 * Num.val7 l

/-- the length up to the first byte below 128, among the first seven -/
def Num.vsz : Nat → List UInt8 → Nat → Nat
  | 0, _, _ => 0
  | _ + 1, [], _ => 0
  | f + 1, b :: l, i => if b.toNat < 128 then i + 1 else Num.vsz f l (i + 1)

def Num.vsize (l : List UInt8) : Nat := Num.vsz 7 l 0

/-- is the beginning of k bytes the varint of what it says? -/
def Num.good (l : List UInt8) (k : Nat) : Prop := Num.varF 6 (Num.val7 (l.take k)) = l.take k

instance (l : List UInt8) (k : Nat) : Decidable (Num.good l k) := by unfold Num.good; infer_instance

/-- what ReadVar gives -/
def Num.rvK (s : ByteArray) : Nat := if Num.good s.data.toList (Num.vsize s.data.toList) then Num.vsize s.data.toList else 0

def Num.rvN (s : ByteArray) : Nat := Num.val7 (s.data.toList.take (Num.rvK s))

end Go.Proofs.Ytofpcedpmbecgaa

/- Contracts (Cod). -/
namespace Go.Proofs.Ytofpcedpmbecgaa
open Go.RowKit
set_option linter.unusedVariables false


/-- the bytes of a number -/
def Num.varB (n : Int) : ByteArray := ⟨(Num.varR n).toArray⟩
/-- the bytes of a tree's count and of its first k nodes -/
def Tr.putTo (xs : Tr) : Nat → ByteArray
  | 0 => Num.varB xs.length
  | k + 1 => Tr.putTo xs k ++ Num.varB (Tr.l xs k) ++ Num.varB (Tr.d xs k)
def Tr.put (xs : Tr) : ByteArray := if Tr.ok xs then Tr.putTo xs xs.length else ⟨#[]⟩
/-- may a node of depth d come behind the first n nodes -/
def Tr.fits (xs : Tr) (n : Nat) (d : Int) : Bool := if n = 0 then decide (d = 0) else decide (1 ≤ d ∧ d ≤ Tr.d xs (n - 1) + 1)
theorem Tr.okAt_fits {xs : Tr} {k : Nat} (h1 : 0 ≤ Tr.l xs k ∧ Tr.l xs k ≤ 5) (h0 : 0 < k → 0 ≤ Tr.d xs (k - 1)) : Tr.okAt xs k = (decide (Tr.d xs k ≤ 12) && Tr.fits xs k (Tr.d xs k)) := by
  rw [Tr.okAt, Tr.fits, Bool.eq_iff_iff]
  by_cases hk : k = 0
  · simp [hk] at h1 ⊢; omega
  · have := h0 (by omega)
    simp [hk]; omega

/-- what stands behind the first u bytes -/
def Num.rest (t : ByteArray) (u : Nat) : ByteArray := t.extract u t.size
/-- the node at the start of t, behind the nodes xs: the node, its length, its code -/
def Tr.node (t : ByteArray) (xs : Tr) : (Int × Int) × Nat × Int :=
  if Num.rvK t = 0 then ((0, 0), 0, 1)
  else if Lab.ok (Num.rvN t) = false then ((0, 0), 0, 3)
  else if Num.rvK (Num.rest t (Num.rvK t)) = 0 then ((0, 0), 0, 1)
  else if 12 < Num.rvN (Num.rest t (Num.rvK t)) then ((0, 0), 0, 4)
  else if Tr.fits xs xs.length (Num.rvN (Num.rest t (Num.rvK t))) = false then ((0, 0), 0, 5)
  else (((Num.rvN t : Int), (Num.rvN (Num.rest t (Num.rvK t)) : Int)), Num.rvK t + Num.rvK (Num.rest t (Num.rvK t)), 0)
section
variable {t : ByteArray} {xs : Tr}
end
end Go.Proofs.Ytofpcedpmbecgaa

/- Contracts (DepI). -/
namespace Go.Proofs.Ytofpcedpmbecgaa
open Go.RowKit
set_option linter.unusedVariables false

set_option maxHeartbeats 800000 in
set_option maxRecDepth 100000 in
theorem depthFits_any (A : Option Addr) (n c : Nat) (xs : Tr) (d : Int) (w : World) (h : NdIn w w.heap.size A n xs) (hn : n ≤ 1048576) (hb : 0 < n → 0 ≤ Tr.d xs (n - 1) ∧ Tr.d xs (n - 1) ≤ 12) :
    Calls Try.prog 60 #[.slice A n c, .int .i64 d] w fun e w' => e = .returned (.bool (Tr.fits xs n d)) ∧ w = w' := by
  have H := Lib.hid h
  clear h
  rcases Nat.eq_zero_or_pos n with rfl | h0
  · have Hf := Lib.hid (show Tr.fits xs 0 d = (d == 0) by rw [Tr.fits, if_pos rfl, Bool.eq_iff_iff]; simp)
    clear hb
    go_enter Try.func60, Try.ntmps60
    go_wp2
    go_ret
    exact ⟨Kit.ret_bool Hf.out.symm, rfl⟩
  · obtain ⟨ad, rfl, _, hl', hd'⟩ := H.out.at_ (k := n - 1) (by omega)
    have hbd := hb h0
    have e0 : ((n : Int) == 0) = false := beq_eq_false_iff_ne.2 (by omega)
    have a1 : IntKind.i64.wrap ((n : Int) - 1) = (n : Int) - 1 := Kit.w64 (by omega) (by omega)
    have a2 : ((n : Int) - 1).toNat = n - 1 := by omega
    have a3 : (1 : Int) ≤ (n : Int) := by omega
    have a4 : (n : Int) - 1 < (n : Int) := by omega
    have a5 : IntKind.i64.wrap (Tr.d xs (n - 1) + 1) = Tr.d xs (n - 1) + 1 := Kit.w64 (by omega) (by omega)
    have Hf := Lib.hid (show Tr.fits xs n d = (decide (1 ≤ d) && decide (d ≤ Tr.d xs (n - 1) + 1)) by rw [Tr.fits, if_neg (by omega), Bool.eq_iff_iff]; simp)
    clear hb hbd
    by_cases h1 : 1 ≤ d
    · have e1 : decide (1 ≤ d) = true := by simpa using h1
      rw [e1] at Hf
      go_enter Try.func60, Try.ntmps60
      go_wp2
      go_ret
      exact ⟨Kit.ret_bool (by rw [Hf.out]; simp), rfl⟩
    · have e1 : decide (1 ≤ d) = false := by simpa using h1
      rw [e1] at Hf
      go_enter Try.func60, Try.ntmps60
      go_wp2
      go_ret
      exact ⟨Kit.ret_bool (by rw [Hf.out]; simp), rfl⟩

end Go.Proofs.Ytofpcedpmbecgaa

/- Contracts (TreeOkI). -/
namespace Go.Proofs.Ytofpcedpmbecgaa
open Go.RowKit
set_option linter.unusedVariables false

theorem Tr.fits_take {xs : Tr} {k : Nat} {d : Int} : Tr.fits (xs.take k) k d = Tr.fits xs k d := by
  unfold Tr.fits
  by_cases h : k = 0
  · simp [h]
  · rw [if_neg h, if_neg h]
    simp [Tr.d, List.getD_eq_getElem?_getD, show k - 1 < k by omega]
theorem Tr.d_take {xs : Tr} {k j : Nat} (h : j < k) : Tr.d (xs.take k) j = Tr.d xs j := by simp [Tr.d, List.getD_eq_getElem?_getD, h]
theorem NdIn.head {w : World} {B n : Nat} {A : Option Addr} {xs : Tr} (h : NdIn w B A n xs) {k : Nat} (hk : k ≤ n) : NdIn w B A k (xs.take k) := by
  refine ⟨by have := h.1; simp; omega, fun h0 => h.2.1 (by omega), fun ad e j hj => ?_⟩
  have := h.2.2 ad e j (by omega)
  have hg : (xs.take k).getD j (0, 0) = xs.getD j (0, 0) := by simp [List.getD_eq_getElem?_getD, hj]
  simp only [Tr.l, Tr.d] at this ⊢
  rw [hg]
  exact this
set_option maxHeartbeats 800000 in
set_option maxRecDepth 100000 in
theorem implTreeOk_any (A : Option Addr) (n c : Nat) (xs : Tr) (w : World) (h : NdIn w w.heap.size A n xs) (hn : n ≤ 1048576) (hnc : n ≤ c) :
    Calls Try.prog 19 #[.slice A n c] w fun e w' => e = .returned (.bool (Tr.ok xs)) ∧ Below w.heap.size w w' := by
  have H := Lib.hid h
  clear h
  have HL := Lib.hid H.out.1
  by_cases hn1 : n < 1
  · have Hf := Lib.hid (show Tr.ok xs = false by rw [Bool.eq_false_iff, Ne, Tr.ok_iff, HL.out]; omega)
    go_enter Try.func19, Try.ntmps19
    go_wp2
    go_ret
    exact ⟨Kit.ret_bool Hf.out.symm, Below.refl _ _⟩
  by_cases hn2 : 24 < n
  · have Hf := Lib.hid (show Tr.ok xs = false by rw [Bool.eq_false_iff, Ne, Tr.ok_iff, HL.out]; omega)
    go_enter Try.func19, Try.ntmps19
    go_wp2
    go_ret
    exact ⟨Kit.ret_bool Hf.out.symm, Below.refl _ _⟩
  obtain ⟨ad, rfl, _⟩ := H.out.2.1 (by omega)
  go_enter Try.func19, Try.ntmps19
  go_wp2
  go_loopw [15] (fun iv wr => ∃ k : Nat, k ≤ n ∧ iv = .int .i64 k ∧ Tr.okTo xs k ∧ Below w.heap.size w wr) (fun i _ => n - (intOf i).toNat)
  case atStart => exact ⟨0, Nat.zero_le _, rfl, fun j hj => absurd hj (by omega), Below.refl _ _⟩
  case round =>
    obtain ⟨k, hk, rfl, hok, hB⟩ := hrel
    have hsz := hB.size
    have Hok := Lib.hid hok
    have HB := Lib.hid hB
    clear hok hB
    by_cases hlt : k < n
    · obtain ⟨hl, hd⟩ := (H.out.below HB.out).here hlt
      have hkc : (k : Int) ≤ (c : Int) := by omega
      have hk0 : (0 : Int) ≤ (k : Int) := by omega
      have Hbk := Lib.hid (show 0 < k → 0 ≤ Tr.d (xs.take k) (k - 1) ∧ Tr.d (xs.take k) (k - 1) ≤ 12 by
        intro h0
        rw [Tr.d_take (by omega)]
        exact (Tr.okTo_at Hok.out (show k - 1 < k by omega)).2.1)
      have Hfit := Lib.hid (Tr.fits_take (xs := xs) (k := k) (d := Tr.d xs k))
      have Hc := Lib.hid (((H.out.below HB.out).more HB.out.size).to_below ((Below.refl _ _).alloc (Nat.le_refl _) (.cells #[.int .i64 (Tr.l xs k), .int .i64 (Tr.d xs k)] 40)) |>.head (Nat.le_of_lt hlt))
      by_cases h1 : 0 ≤ Tr.l xs k ∧ Tr.l xs k ≤ 5
      · have h1' : Lab.ok (Tr.l xs k) = true := by simp [Lab.ok, h1]
        have Hat := Lib.hid (Tr.okAt_fits (xs := xs) (k := k) h1 (fun h0 => (Tr.okTo_at Hok.out (show k - 1 < k by omega)).2.1.1))
        clear h1
        by_cases h2 : Tr.d xs k ≤ 12
        · have e2 : decide (12 < Tr.d xs k) = false := by simpa using h2
          cases h3 : Tr.fits (xs.take k) k (Tr.d xs k) with
          | true =>
            have Hk := Lib.hid (show Tr.okAt xs k = true by rw [Hat.out, ← Hfit.out, h3]; simp [h2])
            clear h2
            go_wp2
            go_quiet (first
              | (go_at_call 59; exact quiet_same (implLabelOk_any _ _))
              | (go_at_call 60; exact quiet_same (depthFits_any _ _ _ _ _ _ (Hc.out.drewN _) (by omega) Hbk.out)))
            go_wp2
            go_roundw
            case rel => exact ⟨k + 1, by omega, by go_num, Tr.okTo_succ Hok.out Hk.out, Drawn.below (HB.out.alloc HB.out.size _) ⟨_, rfl⟩⟩
            case measure => simp [intOf]; omega
          | false =>
            have Hf := Lib.hid (Tr.not_ok (xs := xs) (k := k) (by rw [HL.out]; exact hlt) (by rw [Hat.out, ← Hfit.out, h3]; simp))
            clear h2
            go_wp2
            go_quiet (first
              | (go_at_call 59; exact quiet_same (implLabelOk_any _ _))
              | (go_at_call 60; exact quiet_same (depthFits_any _ _ _ _ _ _ (Hc.out.drewN _) (by omega) Hbk.out)))
            go_wp2
            go_ret
            exact ⟨Kit.ret_bool Hf.out.symm, Drawn.below (HB.out.alloc HB.out.size _) ⟨_, rfl⟩⟩
        · have e2 : decide (12 < Tr.d xs k) = true := by simpa using h2
          have Hf := Lib.hid (Tr.not_ok (xs := xs) (k := k) (by rw [HL.out]; exact hlt) (by rw [Hat.out]; simp [h2]))
          clear h2
          go_wp2
          go_quiet (first
            | (go_at_call 59; exact quiet_same (implLabelOk_any _ _))
            | (go_at_call 60; exact quiet_same (depthFits_any _ _ _ _ _ _ (Hc.out.drewN _) (by omega) Hbk.out)))
          go_wp2
          go_ret
          exact ⟨Kit.ret_bool Hf.out.symm, Drawn.below (HB.out.alloc HB.out.size _) ⟨_, rfl⟩⟩
      · have h1' : Lab.ok (Tr.l xs k) = false := by simpa [Lab.ok] using h1
        have Hf := Lib.hid (Tr.not_ok (xs := xs) (k := k) (by rw [HL.out]; exact hlt) (by simp [Tr.okAt]; omega))
        clear h1
        go_wp2
        go_quiet (first
          | (go_at_call 59; exact quiet_same (implLabelOk_any _ _))
          | (go_at_call 60; exact quiet_same (depthFits_any _ _ _ _ _ _ (Hc.out.drewN _) (by omega) Hbk.out)))
        go_wp2
        go_ret
        exact ⟨Kit.ret_bool Hf.out.symm, Drawn.below (HB.out.alloc HB.out.size _) ⟨_, rfl⟩⟩
    · obtain rfl : k = n := by omega
      go_wp2
      go_ret
      exact ⟨Kit.ret_bool (Tr.ok_iff.2 (by rw [HL.out]; exact ⟨Hok.out, by omega, by omega⟩)).symm, HB.out⟩

end Go.Proofs.Ytofpcedpmbecgaa

/- Contracts (HasI). -/
namespace Go.Proofs.Ytofpcedpmbecgaa
open Go.RowKit
set_option linter.unusedVariables false

set_option maxHeartbeats 800000 in
set_option maxRecDepth 100000 in
theorem hasNode_any (A : Option Addr) (n c : Nat) (xs : Tr) (i : Int) (w : World) (h : NdIn w w.heap.size A n xs) (hn : n ≤ 1048576) (hnc : n ≤ c) :
    Calls Try.prog 54 #[.slice A n c, .int .i64 i] w fun e w' => e = .returned (.bool (Tr.has xs i)) ∧ Below w.heap.size w w' := by
  have H := Lib.hid h
  clear h
  have HL := Lib.hid H.out.1
  by_cases h0 : 0 ≤ i
  · by_cases h1 : i < n
    · have Hs := Lib.hid (show Tr.has xs i = Tr.ok xs by simp [Tr.has, HL.out, h0, h1])
      go_enter Try.func54, Try.ntmps54
      go_wp2_with (go_at_call 19; refine (implTreeOk_any _ _ _ xs _ H.out hn hnc).mono ?_; rintro e w1 ⟨rfl, hb⟩)
      go_ret
      exact ⟨Kit.ret_bool Hs.out.symm, hb⟩
    · have Hs := Lib.hid (show Tr.has xs i = false by simp [Tr.has, HL.out, h1])
      go_enter Try.func54, Try.ntmps54
      go_wp2
      go_ret
      exact ⟨Kit.ret_bool Hs.out.symm, Below.refl _ _⟩
  · have Hs := Lib.hid (show Tr.has xs i = false by simp [Tr.has, h0])
    have h0' : decide (0 ≤ i) = false := by simpa using h0
    go_enter Try.func54, Try.ntmps54
    go_wp2
    go_ret
    exact ⟨Kit.ret_bool Hs.out.symm, Below.refl _ _⟩

end Go.Proofs.Ytofpcedpmbecgaa

/- Contracts (ParI). -/
namespace Go.Proofs.Ytofpcedpmbecgaa
open Go.RowKit
set_option linter.unusedVariables false

set_option maxHeartbeats 800000 in
set_option maxRecDepth 100000 in
theorem implParentOf_any (A : Option Addr) (n c : Nat) (xs : Tr) (i : Int) (w : World) (h : NdIn w w.heap.size A n xs) (hn : n ≤ 1048576) (hnc : n ≤ c) :
    Calls Try.prog 17 #[.slice A n c, .int .i64 i] w fun e w' => e = .returned (.int .i64 (Tr.parentOf xs i)) ∧ Below w.heap.size w w' := by
  have H := Lib.hid h
  clear h
  have HL := Lib.hid H.out.1
  rcases hok : Tr.has xs i with _ | _
  · have Hf := Lib.hid (show Tr.parentOf xs i = -1 by simp [Tr.parentOf, hok])
    have Hok := Lib.hid hok
    clear hok
    go_enter Try.func17, Try.ntmps17
    go_wp2_with fail
    refine (hasNode_any _ _ _ xs _ _ H.out hn hnc).mono ?_
    rintro e w1 ⟨rfl, hd⟩
    rw [Hok.out]
    go_wp2
    go_ret
    exact ⟨Kit.ret_int Hf.out.symm, hd⟩
  · have h1 := (Tr.has_iff.1 hok).2
    rw [HL.out] at h1
    have Hf := Lib.hid (show Tr.parentOf xs i = Tr.back xs (Tr.d xs i.toNat) i.toNat by simp [Tr.parentOf, hok])
    have Hok := Lib.hid hok
    clear hok
    obtain ⟨j, rfl⟩ := Int.eq_ofNat_of_zero_le h1.1
    have hj : j < n := by omega
    clear h1
    rw [Int.toNat_natCast] at Hf
    go_enter Try.func17, Try.ntmps17
    go_wp2_with fail
    refine (hasNode_any _ _ _ xs _ _ H.out hn hnc).mono ?_
    rintro e w1 ⟨rfl, hd1⟩
    have Hd1 := Lib.hid hd1
    have H1 := Lib.hid (H.out.below Hd1.out)
    clear hd1
    rw [Hok.out]
    go_wp2
    go_loopw [5] (fun kv wr => ∃ z : Int, -1 ≤ z ∧ z < j ∧ kv = .int .i64 z ∧ Tr.back xs (Tr.d xs j) j = Tr.back xs (Tr.d xs j) (z + 1).toNat ∧ Drawn w1 wr) (fun k _ => (intOf k + 1).toNat)
    case atStart => exact ⟨(j : Int) - 1, by omega, by omega, by go_num, by rw [show ((j : Int) - 1 + 1).toNat = j by omega], Drawn.refl _⟩
    case round =>
      obtain ⟨z, hz, hzj, rfl, hback, hD⟩ := hrel
      have Hb := Lib.hid hback
      clear hback
      have hj0 : (0 : Int) ≤ (j : Int) := by omega
      by_cases h0 : 0 ≤ z
      · obtain ⟨k, rfl⟩ := Int.eq_ofNat_of_zero_le h0
        clear h0
        have hlt : k < n := by omega
        have hk0 : (0 : Int) ≤ (k : Int) := by omega
        obtain ⟨ad, rfl, hb, hl, hd⟩ := (H1.out.drawn hD).at_ hlt
        obtain ⟨hl', hd'⟩ := (H1.out.drawn hD).here hj
        clear hl hl'
        have Hk := Lib.hid (show Tr.back xs (Tr.d xs j) ((k : Int) + 1).toNat = if Tr.d xs k < Tr.d xs j then (k : Int) else Tr.back xs (Tr.d xs j) k by
          rw [show ((k : Int) + 1).toNat = k + 1 by omega]; rfl)
        by_cases hgt : Tr.d xs k < Tr.d xs j
        · have hg : decide (Tr.d xs j ≤ Tr.d xs k) = false := by simpa using hgt
          have Hg := Lib.hid hgt
          clear hgt
          go_wp2
          go_quiet (fail)
          go_wp2
          go_ret
          exact ⟨Kit.ret_int (by rw [Hf.out, Hb.out, Hk.out, if_pos Hg.out]), Drawn.below Hd1.out (hD.drewN _)⟩
        · have hg : decide (Tr.d xs j ≤ Tr.d xs k) = true := by simp; omega
          have Hg := Lib.hid hgt
          clear hgt
          go_wp2
          go_quiet (fail)
          go_wp2
          go_roundw
          case rel => exact ⟨(k : Int) - 1, by omega, by omega, by go_num, by rw [Hb.out, Hk.out, if_neg (by have := Hg.out; omega), show ((k : Int) - 1 + 1).toNat = k by omega], hD.drewN _⟩
          case measure => simp [intOf] <;> omega
      · obtain rfl : z = -1 := by omega
        clear h0
        go_wp2
        go_quiet (fail)
        go_wp2
        go_ret
        exact ⟨Kit.ret_int (by rw [Hf.out, Hb.out]; rfl), Drawn.below Hd1.out (hD.drewN _)⟩

end Go.Proofs.Ytofpcedpmbecgaa
