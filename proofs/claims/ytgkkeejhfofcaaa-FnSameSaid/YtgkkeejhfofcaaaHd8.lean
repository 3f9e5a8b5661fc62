/- Texts of one claim laid into one file, in build order: C1P, Cod, DepI, TreeOkI, HasI, EndOfI, RankI. -/
import Derived.Test.YtgkkeejhfofcaaaHd1
import Derived.Test.YtgkkeejhfofcaaaHd2
import Derived.Test.YtgkkeejhfofcaaaHd7
import Derived.BigQuiet
import Derived.Deep.RegionHeld3
import Derived.Lib.Bytealg
import Derived.Lib.Strings
import Derived.Outline
import Derived.Test.YtgkkeejhfofcaaaRows
/- Plain mathematics of chapter 1. -/
namespace Go.Proofs.Ytgkkeejhfofcaaa
open Go.RowKit
set_option linter.unusedVariables false

/-- the varint of a number below 128^(f+1) -/
def Num.varF : Nat → Nat → List UInt8
  | 0, q => [UInt8.ofNat q]
  | f + 1, q => if q < 128 then [UInt8.ofNat q] else UInt8.ofNat (128 + q % 128) :: Num.varF f (q / 128)

/-- what Var gives -/
def Num.varR (n : Int) : List UInt8 := if 0 ≤ n ∧ n ≤ 562949953421311 then Num.varF 6 n.toNat else []

theorem Num.varF_big (f q : Nat) (h : 128 ≤ q) : Num.varF (f + 1) q = UInt8.ofNat (128 + q % 128) :: Num.varF f (q / 128) := by
  rw [Num.varF, if_neg (by omega)]

/-- what holds at each round's head: f bytes at most come behind those that are gathered -/
def Num.VarAt (m f q : Nat) (acc : List UInt8) : Prop := acc.length + f = 6 ∧ q < 128 ^ (f + 1) ∧ acc ++ Num.varF f q = Num.varF 6 m

theorem Num.VarAt.start {m : Nat} (h : m ≤ 562949953421311) : Num.VarAt m 6 m [] := ⟨rfl, by omega, by simp⟩

theorem Num.VarAt.len {m f q : Nat} {acc : List UInt8} (h : Num.VarAt m f q acc) : acc.length ≤ 6 := by have := h.1; omega

theorem Num.VarAt.step {m f q : Nat} {acc : List UInt8} (h : Num.VarAt m f q acc) (hq : 128 ≤ q) :
    ∃ f', f = f' + 1 ∧ Num.VarAt m f' (q / 128) (acc ++ [UInt8.ofNat (128 + q % 128)]) := by
  obtain ⟨h1, h2, h3⟩ := h
  cases f with
  | zero => omega
  | succ f =>
    refine ⟨f, rfl, by simp; omega, ?_, ?_⟩
    · rw [Nat.pow_succ] at h2
      exact Nat.div_lt_of_lt_mul (by omega)
    · rw [Num.varF_big f q hq] at h3
      simpa using h3

theorem Num.VarAt.le {m f q : Nat} {acc : List UInt8} (h : Num.VarAt m f q acc) : q ≤ 562949953421311 := by
  obtain ⟨h1, h2, _⟩ := h
  have : 128 ^ (f + 1) ≤ 128 ^ 7 := Nat.pow_le_pow_right (by omega) (by omega)
  omega

/-- the number of seven bits a byte, the least significant first -/
def Num.val7 : List UInt8 → Nat
  | [] => 0
  | b :: l => b.toNat % 128 + 128 * Num.val7 l

/-- the length up to the first byte below 128, among the first seven -/
def Num.vsz : Nat → List UInt8 → Nat → Nat
  | 0, _, _ => 0
  | _ + 1, [], _ => 0
  | f + 1, b :: l, i => if b.toNat < 128 then i + 1 else Num.vsz f l (i + 1)

def Num.vsize (l : List UInt8) : Nat := Num.vsz 7 l 0

/-- is the beginning of k bytes the varint of what it says? -/
def Num.good (l : List UInt8) (k : Nat) : Prop := Num.varF 6 (Num.val7 (l.take k)) = l.take k

instance (l : List UInt8) (k : Nat) : Decidable (Num.good l k) := by unfold Num.good; infer_instance

/-- what ReadVar gives -/
def Num.rvK (s : ByteArray) : Nat := if Num.good s.data.toList (Num.vsize s.data.toList) then Num.vsize s.data.toList else 0

def Num.rvN (s : ByteArray) : Nat := Num.val7 (s.data.toList.take (Num.rvK s))

end Go.Proofs.Ytgkkeejhfofcaaa

/- Contracts (Cod). -/
namespace Go.Proofs.Ytgkkeejhfofcaaa
open Go.RowKit
set_option linter.unusedVariables false


/-- the bytes of a number -/
def Num.varB (n : Int) : ByteArray := ⟨(Num.varR n).toArray⟩
/-- the bytes of a tree's count and of its first k nodes -/
def Tr.putTo (xs : Tr) : Nat → ByteArray
  | 0 => Num.varB xs.length
  | k + 1 => Tr.putTo xs k ++ Num.varB (Tr.l xs k) ++ Num.varB (Tr.d xs k)
def Tr.put (xs : Tr) : ByteArray := if Tr.ok xs then Tr.putTo xs xs.length else ⟨#[]⟩
/-- may a node of depth d come behind the first n nodes -/
def Tr.fits (xs : Tr) (n : Nat) (d : Int) : Bool := if n = 0 then decide (d = 0) else decide (1 ≤ d ∧ d ≤ Tr.d xs (n - 1) + 1)
theorem Tr.okAt_fits {xs : Tr} {k : Nat} (h1 : 0 ≤ Tr.l xs k ∧ Tr.l xs k ≤ 5) (h0 : 0 < k → 0 ≤ Tr.d xs (k - 1)) : Tr.okAt xs k = (decide (Tr.d xs k ≤ 12) && Tr.fits xs k (Tr.d xs k)) := by
  rw [Tr.okAt, Tr.fits, Bool.eq_iff_iff]
  by_cases hk : k = 0
  · simp [hk] at h1 ⊢; omega
  · have := h0 (by omega)
    simp [hk]; omega

/-- what stands behind the first u bytes -/
def Num.rest (t : ByteArray) (u : Nat) : ByteArray := t.extract u t.size
/-- the node at the start of t, behind the nodes xs: the node, its length, its code -/
def Tr.node (t : ByteArray) (xs : Tr) : (Int × Int) × Nat × Int :=
  if Num.rvK t = 0 then ((0, 0), 0, 1)
  else if Lab.ok (Num.rvN t) = false then ((0, 0), 0, 3)
  else if Num.rvK (Num.rest t (Num.rvK t)) = 0 then ((0, 0), 0, 1)
  else if 12 < Num.rvN (Num.rest t (Num.rvK t)) then ((0, 0), 0, 4)
  else if Tr.fits xs xs.length (Num.rvN (Num.rest t (Num.rvK t))) = false then ((0, 0), 0, 5)
  else (((Num.rvN t : Int), (Num.rvN (Num.rest t (Num.rvK t)) : Int)), Num.rvK t + Num.rvK (Num.rest t (Num.rvK t)), 0)
section
variable {t : ByteArray} {xs : Tr}
end
end Go.Proofs.Ytgkkeejhfofcaaa

/- Contracts (DepI). -/
namespace Go.Proofs.Ytgkkeejhfofcaaa
open Go.RowKit
set_option linter.unusedVariables false

set_option maxHeartbeats 800000 in
set_option maxRecDepth 100000 in
theorem depthFits_any (A : Option Addr) (n c : Nat) (xs : Tr) (d : Int) (w : World) (h : NdIn w w.heap.size A n xs) (hn : n ≤ 1048576) (hb : 0 < n → 0 ≤ Tr.d xs (n - 1) ∧ Tr.d xs (n - 1) ≤ 12) :
    Calls Try.prog 131 #[.slice A n c, .int .i64 d] w fun e w' => e = .returned (.bool (Tr.fits xs n d)) ∧ w = w' := by
  have H := Lib.hid h
  clear h
  rcases Nat.eq_zero_or_pos n with rfl | h0
  · have Hf := Lib.hid (show Tr.fits xs 0 d = (d == 0) by rw [Tr.fits, if_pos rfl, Bool.eq_iff_iff]; simp)
    clear hb
    go_enter Try.func131, Try.ntmps131
    go_wp2
    go_ret
    exact ⟨Kit.ret_bool Hf.out.symm, rfl⟩
  · obtain ⟨ad, rfl, _, hl', hd'⟩ := H.out.at_ (k := n - 1) (by omega)
    have hbd := hb h0
    have e0 : ((n : Int) == 0) = false := beq_eq_false_iff_ne.2 (by omega)
    have a1 : IntKind.i64.wrap ((n : Int) - 1) = (n : Int) - 1 := Kit.w64 (by omega) (by omega)
    have a2 : ((n : Int) - 1).toNat = n - 1 := by omega
    have a3 : (1 : Int) ≤ (n : Int) := by omega
    have a4 : (n : Int) - 1 < (n : Int) := by omega
    have a5 : IntKind.i64.wrap (Tr.d xs (n - 1) + 1) = Tr.d xs (n - 1) + 1 := Kit.w64 (by omega) (by omega)
    have Hf := Lib.hid (show Tr.fits xs n d = (decide (1 ≤ d) && decide (d ≤ Tr.d xs (n - 1) + 1)) by rw [Tr.fits, if_neg (by omega), Bool.eq_iff_iff]; simp)
    clear hb hbd
    by_cases h1 : 1 ≤ d
    · have e1 : decide (1 ≤ d) = true := by simpa using h1
      rw [e1] at Hf
      go_enter Try.func131, Try.ntmps131
      go_wp2
      go_ret
      exact ⟨Kit.ret_bool (by rw [Hf.out]; simp), rfl⟩
    · have e1 : decide (1 ≤ d) = false := by simpa using h1
      rw [e1] at Hf
      go_enter Try.func131, Try.ntmps131
      go_wp2
      go_ret
      exact ⟨Kit.ret_bool (by rw [Hf.out]; simp), rfl⟩

end Go.Proofs.Ytgkkeejhfofcaaa

/- Contracts (TreeOkI). -/
namespace Go.Proofs.Ytgkkeejhfofcaaa
open Go.RowKit
set_option linter.unusedVariables false

theorem Tr.fits_take {xs : Tr} {k : Nat} {d : Int} : Tr.fits (xs.take k) k d = Tr.fits xs k d := by
  unfold Tr.fits
  by_cases h : k = 0
  · simp [h]
  · rw [if_neg h, if_neg h]
    simp [Tr.d, List.getD_eq_getElem?_getD, show k - 1 < k by omega]
theorem Tr.d_take {xs : Tr} {k j : Nat} (h : j < k) : Tr.d (xs.take k) j = Tr.d xs j := by simp [Tr.d, List.getD_eq_getElem?_getD, h]
theorem NdIn.head {w : World} {B n : Nat} {A : Option Addr} {xs : Tr} (h : NdIn w B A n xs) {k : Nat} (hk : k ≤ n) : NdIn w B A k (xs.take k) := by
  refine ⟨by have := h.1; simp; omega, fun h0 => h.2.1 (by omega), fun ad e j hj => ?_⟩
  have := h.2.2 ad e j (by omega)
  have hg : (xs.take k).getD j (0, 0) = xs.getD j (0, 0) := by simp [List.getD_eq_getElem?_getD, hj]
  simp only [Tr.l, Tr.d] at this ⊢
  rw [hg]
  exact this
set_option maxHeartbeats 800000 in
set_option maxRecDepth 100000 in
theorem implTreeOk_any (A : Option Addr) (n c : Nat) (xs : Tr) (w : World) (h : NdIn w w.heap.size A n xs) (hn : n ≤ 1048576) (hnc : n ≤ c) :
    Calls Try.prog 72 #[.slice A n c] w fun e w' => e = .returned (.bool (Tr.ok xs)) ∧ Below w.heap.size w w' := by
  have H := Lib.hid h
  clear h
  have HL := Lib.hid H.out.1
  by_cases hn1 : n < 1
  · have Hf := Lib.hid (show Tr.ok xs = false by rw [Bool.eq_false_iff, Ne, Tr.ok_iff, HL.out]; omega)
    go_enter Try.func72, Try.ntmps72
    go_wp2
    go_ret
    exact ⟨Kit.ret_bool Hf.out.symm, Below.refl _ _⟩
  by_cases hn2 : 24 < n
  · have Hf := Lib.hid (show Tr.ok xs = false by rw [Bool.eq_false_iff, Ne, Tr.ok_iff, HL.out]; omega)
    go_enter Try.func72, Try.ntmps72
    go_wp2
    go_ret
    exact ⟨Kit.ret_bool Hf.out.symm, Below.refl _ _⟩
  obtain ⟨ad, rfl, _⟩ := H.out.2.1 (by omega)
  go_enter Try.func72, Try.ntmps72
  go_wp2
  go_loopw [15] (fun iv wr => ∃ k : Nat, k ≤ n ∧ iv = .int .i64 k ∧ Tr.okTo xs k ∧ Below w.heap.size w wr) (fun i _ => n - (intOf i).toNat)
  case atStart => exact ⟨0, Nat.zero_le _, rfl, fun j hj => absurd hj (by omega), Below.refl _ _⟩
  case round =>
    obtain ⟨k, hk, rfl, hok, hB⟩ := hrel
    have hsz := hB.size
    have Hok := Lib.hid hok
    have HB := Lib.hid hB
    clear hok hB
    by_cases hlt : k < n
    · obtain ⟨hl, hd⟩ := (H.out.below HB.out).here hlt
      have hkc : (k : Int) ≤ (c : Int) := by omega
      have hk0 : (0 : Int) ≤ (k : Int) := by omega
      have Hbk := Lib.hid (show 0 < k → 0 ≤ Tr.d (xs.take k) (k - 1) ∧ Tr.d (xs.take k) (k - 1) ≤ 12 by
        intro h0
        rw [Tr.d_take (by omega)]
        exact (Tr.okTo_at Hok.out (show k - 1 < k by omega)).2.1)
      have Hfit := Lib.hid (Tr.fits_take (xs := xs) (k := k) (d := Tr.d xs k))
      have Hc := Lib.hid (((H.out.below HB.out).more HB.out.size).to_below ((Below.refl _ _).alloc (Nat.le_refl _) (.cells #[.int .i64 (Tr.l xs k), .int .i64 (Tr.d xs k)] 47)) |>.head (Nat.le_of_lt hlt))
      by_cases h1 : 0 ≤ Tr.l xs k ∧ Tr.l xs k ≤ 5
      · have h1' : Lab.ok (Tr.l xs k) = true := by simp [Lab.ok, h1]
        have Hat := Lib.hid (Tr.okAt_fits (xs := xs) (k := k) h1 (fun h0 => (Tr.okTo_at Hok.out (show k - 1 < k by omega)).2.1.1))
        clear h1
        by_cases h2 : Tr.d xs k ≤ 12
        · have e2 : decide (12 < Tr.d xs k) = false := by simpa using h2
          cases h3 : Tr.fits (xs.take k) k (Tr.d xs k) with
          | true =>
            have Hk := Lib.hid (show Tr.okAt xs k = true by rw [Hat.out, ← Hfit.out, h3]; simp [h2])
            clear h2
            go_wp2
            go_quiet (first
              | (go_at_call 130; exact quiet_same (implLabelOk_any _ _))
              | (go_at_call 131; exact quiet_same (depthFits_any _ _ _ _ _ _ (Hc.out.drewN _) (by omega) Hbk.out)))
            go_wp2
            go_roundw
            case rel => exact ⟨k + 1, by omega, by go_num, Tr.okTo_succ Hok.out Hk.out, Drawn.below (HB.out.alloc HB.out.size _) ⟨_, rfl⟩⟩
            case measure => simp [intOf]; omega
          | false =>
            have Hf := Lib.hid (Tr.not_ok (xs := xs) (k := k) (by rw [HL.out]; exact hlt) (by rw [Hat.out, ← Hfit.out, h3]; simp))
            clear h2
            go_wp2
            go_quiet (first
              | (go_at_call 130; exact quiet_same (implLabelOk_any _ _))
              | (go_at_call 131; exact quiet_same (depthFits_any _ _ _ _ _ _ (Hc.out.drewN _) (by omega) Hbk.out)))
            go_wp2
            go_ret
            exact ⟨Kit.ret_bool Hf.out.symm, Drawn.below (HB.out.alloc HB.out.size _) ⟨_, rfl⟩⟩
        · have e2 : decide (12 < Tr.d xs k) = true := by simpa using h2
          have Hf := Lib.hid (Tr.not_ok (xs := xs) (k := k) (by rw [HL.out]; exact hlt) (by rw [Hat.out]; simp [h2]))
          clear h2
          go_wp2
          go_quiet (first
            | (go_at_call 130; exact quiet_same (implLabelOk_any _ _))
            | (go_at_call 131; exact quiet_same (depthFits_any _ _ _ _ _ _ (Hc.out.drewN _) (by omega) Hbk.out)))
          go_wp2
          go_ret
          exact ⟨Kit.ret_bool Hf.out.symm, Drawn.below (HB.out.alloc HB.out.size _) ⟨_, rfl⟩⟩
      · have h1' : Lab.ok (Tr.l xs k) = false := by simpa [Lab.ok] using h1
        have Hf := Lib.hid (Tr.not_ok (xs := xs) (k := k) (by rw [HL.out]; exact hlt) (by simp [Tr.okAt]; omega))
        clear h1
        go_wp2
        go_quiet (first
          | (go_at_call 130; exact quiet_same (implLabelOk_any _ _))
          | (go_at_call 131; exact quiet_same (depthFits_any _ _ _ _ _ _ (Hc.out.drewN _) (by omega) Hbk.out)))
        go_wp2
        go_ret
        exact ⟨Kit.ret_bool Hf.out.symm, Drawn.below (HB.out.alloc HB.out.size _) ⟨_, rfl⟩⟩
    · obtain rfl : k = n := by omega
      go_wp2
      go_ret
      exact ⟨Kit.ret_bool (Tr.ok_iff.2 (by rw [HL.out]; exact ⟨Hok.out, by omega, by omega⟩)).symm, HB.out⟩

end Go.Proofs.Ytgkkeejhfofcaaa

/- Contracts (HasI). -/
namespace Go.Proofs.Ytgkkeejhfofcaaa
open Go.RowKit
set_option linter.unusedVariables false

set_option maxHeartbeats 800000 in
set_option maxRecDepth 100000 in
theorem hasNode_any (A : Option Addr) (n c : Nat) (xs : Tr) (i : Int) (w : World) (h : NdIn w w.heap.size A n xs) (hn : n ≤ 1048576) (hnc : n ≤ c) :
    Calls Try.prog 117 #[.slice A n c, .int .i64 i] w fun e w' => e = .returned (.bool (Tr.has xs i)) ∧ Below w.heap.size w w' := by
  have H := Lib.hid h
  clear h
  have HL := Lib.hid H.out.1
  by_cases h0 : 0 ≤ i
  · by_cases h1 : i < n
    · have Hs := Lib.hid (show Tr.has xs i = Tr.ok xs by simp [Tr.has, HL.out, h0, h1])
      go_enter Try.func117, Try.ntmps117
      go_wp2_with (go_at_call 72; refine (implTreeOk_any _ _ _ xs _ H.out hn hnc).mono ?_; rintro e w1 ⟨rfl, hb⟩)
      go_ret
      exact ⟨Kit.ret_bool Hs.out.symm, hb⟩
    · have Hs := Lib.hid (show Tr.has xs i = false by simp [Tr.has, HL.out, h1])
      go_enter Try.func117, Try.ntmps117
      go_wp2
      go_ret
      exact ⟨Kit.ret_bool Hs.out.symm, Below.refl _ _⟩
  · have Hs := Lib.hid (show Tr.has xs i = false by simp [Tr.has, h0])
    have h0' : decide (0 ≤ i) = false := by simpa using h0
    go_enter Try.func117, Try.ntmps117
    go_wp2
    go_ret
    exact ⟨Kit.ret_bool Hs.out.symm, Below.refl _ _⟩

end Go.Proofs.Ytgkkeejhfofcaaa

/- Contracts (EndOfI). -/
namespace Go.Proofs.Ytgkkeejhfofcaaa
open Go.RowKit
set_option linter.unusedVariables false

set_option maxHeartbeats 800000 in
set_option maxRecDepth 100000 in
theorem implEndOf_any (A : Option Addr) (n c : Nat) (xs : Tr) (i : Int) (w : World) (h : NdIn w w.heap.size A n xs) (hn : n ≤ 1048576) (hnc : n ≤ c) :
    Calls Try.prog 133 #[.slice A n c, .int .i64 i] w fun e w' => e = .returned (.int .i64 (Tr.endOf xs i)) ∧ Below w.heap.size w w' := by
  have H := Lib.hid h
  clear h
  have HL := Lib.hid H.out.1
  rcases hok : Tr.has xs i with _ | _
  · have Hf := Lib.hid (show Tr.endOf xs i = -1 by simp [Tr.endOf, hok])
    have Hok := Lib.hid hok
    clear hok
    go_enter Try.func133, Try.ntmps133
    go_wp2_with fail
    refine (hasNode_any _ _ _ xs _ _ H.out hn hnc).mono ?_
    rintro e w1 ⟨rfl, hd⟩
    rw [Hok.out]
    go_wp2
    go_ret
    exact ⟨Kit.ret_int Hf.out.symm, hd⟩
  · have h1 := (Tr.has_iff.1 hok).2
    rw [HL.out] at h1
    have Hf := Lib.hid (show Tr.endOf xs i = Tr.endN xs i.toNat by simp [Tr.endOf, hok])
    have Hok := Lib.hid hok
    clear hok
    obtain ⟨j, rfl⟩ := Int.eq_ofNat_of_zero_le h1.1
    have hj : j < n := by omega
    clear h1
    go_enter Try.func133, Try.ntmps133
    go_wp2_with fail
    refine (hasNode_any _ _ _ xs _ _ H.out hn hnc).mono ?_
    rintro e w1 ⟨rfl, hd1⟩
    have Hd1 := Lib.hid hd1
    have H1 := Lib.hid (H.out.below Hd1.out)
    clear hd1
    rw [Hok.out]
    go_wp2
    go_loopw [5] (fun kv wr => ∃ k : Nat, j < k ∧ k ≤ n ∧ kv = .int .i64 k ∧ (∀ m, j < m → m < k → Tr.d xs j < Tr.d xs m) ∧ Drawn w1 wr) (fun k _ => n - (intOf k).toNat)
    case atStart => exact ⟨j + 1, by omega, by omega, by go_num, fun m h1 h2 => absurd h1 (by omega), Drawn.refl _⟩
    case round =>
      obtain ⟨k, hjk, hk, rfl, hall, hD⟩ := hrel
      have Hall := Lib.hid hall
      clear hall
      have hk0 : (0 : Int) ≤ (k : Int) := by omega
      have hj0 : (0 : Int) ≤ (j : Int) := by omega
      by_cases hlt : k < n
      · have hltd : decide (k < n) = true := by simpa using hlt
        obtain ⟨ad, rfl, hb, hl, hd⟩ := (H1.out.drawn hD).at_ hlt
        obtain ⟨hl', hd'⟩ := (H1.out.drawn hD).here hj
        clear hl hl'
        by_cases hgt : Tr.d xs j < Tr.d xs k
        · have hg : decide (Tr.d xs j < Tr.d xs k) = true := by simpa using hgt
          have Hg := Lib.hid hgt
          clear hgt
          go_wp2
          go_quiet (fail)
          go_wp2
          go_roundw
          case rel => exact ⟨k + 1, by omega, by omega, by go_num, fun m h1 h2 => by
            rcases Nat.lt_succ_iff_lt_or_eq.1 h2 with h' | rfl
            · exact Hall.out m h1 h'
            · exact Hg.out, hD.drewN _⟩
          case measure => simp [intOf]; omega
        · have hg : decide (Tr.d xs j < Tr.d xs k) = false := by simpa using hgt
          have He := Lib.hid (Tr.endN_is (xs := xs) hjk (by rw [HL.out]; exact hk) Hall.out (.inr (by omega)))
          clear hgt
          go_wp2
          go_quiet (fail)
          go_wp2
          go_ret
          exact ⟨Kit.ret_int (by rw [Hf.out, Int.toNat_natCast, He.out]), Drawn.below Hd1.out (hD.drewN _)⟩
      · have hltd : decide (k < n) = false := by simpa using hlt
        obtain rfl : k = n := by omega
        have He := Lib.hid (Tr.endN_is (xs := xs) hjk (by rw [HL.out]; exact hk) Hall.out (.inl HL.out.symm))
        go_wp2
        go_quiet (fail)
        go_wp2
        go_ret
        exact ⟨Kit.ret_int (by rw [Hf.out, Int.toNat_natCast, He.out]), Drawn.below Hd1.out (hD.drewN _)⟩

end Go.Proofs.Ytgkkeejhfofcaaa

/- Contracts (RankI). -/
namespace Go.Proofs.Ytgkkeejhfofcaaa
open Go.RowKit
set_option linter.unusedVariables false

theorem Tr.rks_val {xs : Tr} (hok : Tr.ok xs = true) {k : Nat} (hk : k < xs.length) : Zs.at (Zs.up (Tr.rks xs)) k = (Tr.rk xs k : Nat) := by
  have := Tr.post_length hok
  rw [Zs.up_at _ _ (by rw [Tr.rks_length]; omega)]
  simp [Tr.rks]
theorem Tr.rk_sum {xs : Tr} (hok : Tr.ok xs = true) {k : Nat} (hk : k < xs.length) : Tr.endOf xs (k : Int) - 1 - Tr.d xs k = (Tr.rk xs k : Nat) := by
  have h1 := (Tr.endN_dn hok hk).1
  have h2 := Tr.dn_eq hok hk
  have h3 := Tr.dn_le hok hk
  rw [Tr.endOf_yes (Tr.has_iff.2 ⟨hok, by omega, by omega⟩)]
  unfold Tr.rk
  omega
set_option maxHeartbeats 1600000 in
set_option maxRecDepth 100000 in
theorem implRankOf_any (A : Option Addr) (n c : Nat) (xs : Tr) (w : World) (h : NdIn w w.heap.size A n xs) (hn : n ≤ 1048576) (hnc : n ≤ c) :
    Calls Try.prog 127 #[.slice A n c] w (OwnInts 3 (Zs.up (Tr.rks xs)) w) := by
  have H := Lib.hid h
  clear h
  have HL := Lib.hid H.out.1
  rcases hok : Tr.ok xs with _ | _
  · have Hf := Lib.hid (show Zs.up (Tr.rks xs) = [] by unfold Tr.rks; rw [Tr.post_none hok]; rfl)
    have Hok := Lib.hid hok
    clear hok
    go_enter Try.func127, Try.ntmps127
    go_wp2_with fail
    refine (implTreeOk_any _ _ _ xs _ H.out hn hnc).mono ?_
    rintro e w1 ⟨rfl, hb⟩
    have HB := Lib.hid hb
    clear hb
    rw [Hok.out]
    go_wp2
    go_ret
    exact ⟨_, _, by rw [Hf.out]; rfl, by rw [Hf.out]; exact own_nil, HB.out⟩
  · have hle := (Tr.ok_iff.1 hok).2
    have hpl := Tr.post_length hok
    rw [HL.out] at hle hpl
    obtain ⟨F, hF⟩ : ∃ F, F = Zs.up (Tr.rks xs) := ⟨_, rfl⟩
    have HFl := Lib.hid (show F.length = n by rw [hF, Zs.up_length, Tr.rks_length, hpl])
    have HFa := Lib.hid (fun k hk => (congrArg (fun G => Zs.at G k) hF).trans (Tr.rks_val hok (k := k) hk))
    have HS := Lib.hid (fun k hk => Tr.rk_sum hok (k := k) hk)
    have HE := Lib.hid (fun k hk => Tr.endN_dn hok (i := k) hk)
    have HY := Lib.hid (fun (k : Nat) (hk : k < xs.length) => Tr.endOf_yes (Tr.has_iff.2 ⟨hok, Int.natCast_nonneg k, Int.ofNat_lt.2 hk⟩))
    have HD := Lib.hid (fun k hk => (Tr.ok_at hok (k := k) hk).2.1)
    have HF := Lib.hid hF
    obtain ⟨i0, hi, hz0, hz1, hz2⟩ := info_parts info_intZ
    have Hi := Lib.hid hi
    have Hok := Lib.hid hok
    clear hi hok hF hpl
    obtain ⟨ad, rfl, had⟩ := H.out.2.1 (by omega)
    go_enter Try.func127, Try.ntmps127
    go_wp2_with fail
    refine (implTreeOk_any _ _ _ xs _ H.out hn hnc).mono ?_
    rintro e w1 ⟨rfl, hb⟩
    have HB := Lib.hid hb
    have H1 := Lib.hid (H.out.to_below hb)
    clear hb
    rw [Hok.out]
    obtain ⟨m, hm⟩ : ∃ m, m = n := ⟨_, rfl⟩
    have hmb : m ≤ 24 := by omega
    go_wp2_with (at_make; go_loud (refine wpList_make_full _ rfl _ _ 29 rfl w1.heap.size 3 i0 (.int .i64 0) 1 Try.underlying29 Hi.out hz0 hz1 _ _ _ _ n rfl rfl rfl rfl (by rw [hz2]; omega) (by unfold maxLen; omega) (Nat.le_refl _) ?_); intro w2 hown2 hgrow2)
    have hb2 : Below w1.heap.size w1 w2 := (Below.refl _ w1).grown hgrow2 (Nat.le_refl _) (fun _ h => by cases h)
    rw [made_zeros 0 n, show List.replicate n (0 : Int) = Zs.part F 0 by rw [Zs.part_zero, HFl.out]] at hown2
    have HO2 := Lib.hid hown2
    have HB2 := Lib.hid hb2
    clear hown2 hgrow2 hb2 hm hmb
    go_wp2
    go_loopw [14] (fun kv wr => ∃ k : Nat, k ≤ n ∧ kv = .int .i64 k ∧ wr.ownsRow w1.heap.size 3 1 (.slice (some ⟨w1.heap.size, 0, none⟩) n n) n (ints (Zs.part F k)) ∧ Below w1.heap.size w1 wr) (fun k _ => n - (intOf k).toNat)
    case atStart => exact ⟨0, Nat.zero_le _, rfl, HO2.out, HB2.out⟩
    case round =>
      clear HO2 HB2
      obtain ⟨k, hk, rfl, hown, hB⟩ := hrel
      have Ho := Lib.hid hown
      have HB2 := Lib.hid hB
      clear hown hB
      have hsz := HB2.out.size
      by_cases hlt : k < n
      · have hlx : k < xs.length := by rw [HL.out]; exact hlt
        obtain ⟨hl, hd⟩ := (H1.out.below HB2.out).here hlt
        have hs := HS.out k hlx
        have he := HE.out k hlx
        have hy := HY.out k hlx
        have hdd := HD.out k hlx
        have b0 : (0 : Int) ≤ (k : Int) := by omega
        have b1 : (k : Int) < (n : Int) := by omega
        have hfa := HFa.out k hlx
        have hxl := HL.out
        have hy0 : (0 : Int) ≤ Tr.endOf xs (k : Int) ∧ Tr.endOf xs (k : Int) ≤ 24 := by rw [hy]; omega
        have a1 : IntKind.i64.wrap (Tr.endOf xs (k : Int) - 1) = Tr.endOf xs (k : Int) - 1 := Kit.w64 (by omega) (by omega)
        have a2 : IntKind.i64.wrap (Tr.endOf xs (k : Int) - 1 - Tr.d xs k) = Tr.endOf xs (k : Int) - 1 - Tr.d xs k := Kit.w64 (by omega) (by omega)
        have hgl := (Ho.out.lt w1.heap.size rfl).2
        have hne : (⟨w1.heap.size, k, none⟩ : Addr) ≠ ⟨wr.heap.size, 1, none⟩ := fun e => by injection e; omega
        have S0 := Lib.hid (show (wr.alloc (.cells #[.int .i64 (Tr.l xs k), .int .i64 (Tr.d xs k)] 47)).drew.cell? ⟨wr.heap.size, 1, none⟩ = some (.int .i64 (Tr.d xs k)) by simp)
        have Hx := Lib.hid ((((H1.out.below HB2.out).more HB2.out.size).to_below ((Below.refl _ wr).alloc (Nat.le_refl _) (.cells #[.int .i64 (Tr.l xs k), .int .i64 (Tr.d xs k)] 47))).drew)
        have HBx := Lib.hid ((HB2.out.alloc hsz (.cells #[.int .i64 (Tr.l xs k), .int .i64 (Tr.d xs k)] 47)).drew)
        have Hox := Lib.hid (show (wr.alloc (.cells #[.int .i64 (Tr.l xs k), .int .i64 (Tr.d xs k)] 47)).drew.ownsRow w1.heap.size 3 1 (.slice (some ⟨w1.heap.size, 0, none⟩) n n) n (ints (Zs.part F k)) from Ho.out.alloc _)
        have hxz : wr.heap.size < (wr.alloc (.cells #[.int .i64 (Tr.l xs k), .int .i64 (Tr.d xs k)] 47)).drew.heap.size := by simp [World.drew]
        have Hpl := Lib.hid (Zs.part_length F k (by rw [HFl.out]; exact hk))
        have Hs := Lib.hid hs
        clear hy hdd he hy0 hs
        go_wp2_with fail
        go_region_held3 (fun wq => wq.cell? ⟨wr.heap.size, 1, none⟩ = some (.int .i64 (Tr.d xs k))) (first | exact S0.out | exact (hb.cell hxz).trans S0.out | (refine (World.cell?_setCell_other _ _ _ _ hne).trans ?_; assumption)) (first | (go_at_call 133; refine (implEndOf_any _ _ _ xs _ _ Hx.out hn hnc).mono ?_; rintro e w' ⟨rfl, hb⟩; have hox3 := own_below Hox.out hb; have c3 := own_int hox3 (k := k) (by rw [Hpl.out, HFl.out]; exact hlt); have f3 := hox3.frozenAt k))
        have Ho3 := Lib.hid hox3
        have HB3 := Lib.hid (HBx.out.trans (hb.mono HBx.out.size))
        clear hox3 hb c3 f3
        go_wp2
        go_roundw
        case rel =>
          refine ⟨k + 1, by omega, by go_num, ?_, HB3.out.setCell (Nat.le_refl _) _⟩
          have := (Ho3.out.stored k (.int .i64 (Tr.endOf xs (k : Int) - 1 - Tr.d xs k))).1
          rw [ints_set, Hs.out, ← hfa, Zs.part_set F k (by rw [HFl.out]; exact hlt), hfa, ← Hs.out] at this
          exact this
        case measure => simp [intOf]; omega
      · obtain rfl : k = n := by omega
        go_wp2
        go_ret
        rw [show Zs.part F k = F by rw [← HFl.out]; exact Zs.part_all F] at Ho
        exact ⟨_, _, by rw [← HF.out, HFl.out]; rfl, by rw [← HF.out, HFl.out]; exact own_base Ho.out HB.out.size, HB.out.trans (HB2.out.mono HB.out.size)⟩

end Go.Proofs.Ytgkkeejhfofcaaa
