/- Texts of one claim laid into one file, in build order: Cod, DepI, TreeOkI, HasI, EndOfI, UndI, BoxC, Bxc, Px. -/
import Derived.Test.YtnfjdlocmdgefaaEa1
import Derived.Test.YtnfjdlocmdgefaaEa2
import Derived.Test.YtnfjdlocmdgefaaEa3
import Derived.BigQuiet
import Derived.Outline
import Derived.Test.YtnfjdlocmdgefaaRows
/- Contracts (Cod). -/
namespace Go.Proofs.Ytnfjdlocmdgefaa
open Go.RowKit
set_option linter.unusedVariables false


/-- the bytes of a number -/
def Num.varB (n : Int) : ByteArray := ⟨(Num.varR n).toArray⟩
/-- the bytes of a tree's count and of its first k nodes -/
def Tr.putTo (xs : Tr) : Nat → ByteArray
  | 0 => Num.varB xs.length
  | k + 1 => Tr.putTo xs k ++ Num.varB (Tr.l xs k) ++ Num.varB (Tr.d xs k)
def Tr.put (xs : Tr) : ByteArray := if Tr.ok xs then Tr.putTo xs xs.length else ⟨#[]⟩
/-- may a node of depth d come behind the first n nodes -/
def Tr.fits (xs : Tr) (n : Nat) (d : Int) : Bool := if n = 0 then decide (d = 0) else decide (1 ≤ d ∧ d ≤ Tr.d xs (n - 1) + 1)
theorem Tr.okAt_fits {xs : Tr} {k : Nat} (h1 : 0 ≤ Tr.l xs k ∧ Tr.l xs k ≤ 5) (h0 : 0 < k → 0 ≤ Tr.d xs (k - 1)) : Tr.okAt xs k = (decide (Tr.d xs k ≤ 12) && Tr.fits xs k (Tr.d xs k)) := by
  rw [Tr.okAt, Tr.fits, Bool.eq_iff_iff]
  by_cases hk : k = 0
  · simp [hk] at h1 ⊢; omega
  · have := h0 (by omega)
    simp [hk]; omega

/-- what stands behind the first u bytes -/
def Num.rest (t : ByteArray) (u : Nat) : ByteArray := t.extract u t.size
/-- the node at the start of t, behind the nodes xs: the node, its length, its code -/
def Tr.node (t : ByteArray) (xs : Tr) : (Int × Int) × Nat × Int :=
  if Num.rvK t = 0 then ((0, 0), 0, 1)
  else if Lab.ok (Num.rvN t) = false then ((0, 0), 0, 3)
  else if Num.rvK (Num.rest t (Num.rvK t)) = 0 then ((0, 0), 0, 1)
  else if 12 < Num.rvN (Num.rest t (Num.rvK t)) then ((0, 0), 0, 4)
  else if Tr.fits xs xs.length (Num.rvN (Num.rest t (Num.rvK t))) = false then ((0, 0), 0, 5)
  else (((Num.rvN t : Int), (Num.rvN (Num.rest t (Num.rvK t)) : Int)), Num.rvK t + Num.rvK (Num.rest t (Num.rvK t)), 0)
section
variable {t : ByteArray} {xs : Tr}
end
end Go.Proofs.Ytnfjdlocmdgefaa

/- Contracts (DepI). -/
namespace Go.Proofs.Ytnfjdlocmdgefaa
open Go.RowKit
set_option linter.unusedVariables false

set_option maxHeartbeats 800000 in
set_option maxRecDepth 100000 in
theorem depthFits_any (A : Option Addr) (n c : Nat) (xs : Tr) (d : Int) (w : World) (h : NdIn w w.heap.size A n xs) (hn : n ≤ 1048576) (hb : 0 < n → 0 ≤ Tr.d xs (n - 1) ∧ Tr.d xs (n - 1) ≤ 12) :
    Calls Try.prog 91 #[.slice A n c, .int .i64 d] w fun e w' => e = .returned (.bool (Tr.fits xs n d)) ∧ w = w' := by
  have H := Lib.hid h
  clear h
  rcases Nat.eq_zero_or_pos n with rfl | h0
  · have Hf := Lib.hid (show Tr.fits xs 0 d = (d == 0) by rw [Tr.fits, if_pos rfl, Bool.eq_iff_iff]; simp)
    clear hb
    go_enter Try.func91, Try.ntmps91
    go_wp2
    go_ret
    exact ⟨Kit.ret_bool Hf.out.symm, rfl⟩
  · obtain ⟨ad, rfl, _, hl', hd'⟩ := H.out.at_ (k := n - 1) (by omega)
    have hbd := hb h0
    have e0 : ((n : Int) == 0) = false := beq_eq_false_iff_ne.2 (by omega)
    have a1 : IntKind.i64.wrap ((n : Int) - 1) = (n : Int) - 1 := Kit.w64 (by omega) (by omega)
    have a2 : ((n : Int) - 1).toNat = n - 1 := by omega
    have a3 : (1 : Int) ≤ (n : Int) := by omega
    have a4 : (n : Int) - 1 < (n : Int) := by omega
    have a5 : IntKind.i64.wrap (Tr.d xs (n - 1) + 1) = Tr.d xs (n - 1) + 1 := Kit.w64 (by omega) (by omega)
    have Hf := Lib.hid (show Tr.fits xs n d = (decide (1 ≤ d) && decide (d ≤ Tr.d xs (n - 1) + 1)) by rw [Tr.fits, if_neg (by omega), Bool.eq_iff_iff]; simp)
    clear hb hbd
    by_cases h1 : 1 ≤ d
    · have e1 : decide (1 ≤ d) = true := by simpa using h1
      rw [e1] at Hf
      go_enter Try.func91, Try.ntmps91
      go_wp2
      go_ret
      exact ⟨Kit.ret_bool (by rw [Hf.out]; simp), rfl⟩
    · have e1 : decide (1 ≤ d) = false := by simpa using h1
      rw [e1] at Hf
      go_enter Try.func91, Try.ntmps91
      go_wp2
      go_ret
      exact ⟨Kit.ret_bool (by rw [Hf.out]; simp), rfl⟩

end Go.Proofs.Ytnfjdlocmdgefaa

/- Contracts (TreeOkI). -/
namespace Go.Proofs.Ytnfjdlocmdgefaa
open Go.RowKit
set_option linter.unusedVariables false

theorem Tr.fits_take {xs : Tr} {k : Nat} {d : Int} : Tr.fits (xs.take k) k d = Tr.fits xs k d := by
  unfold Tr.fits
  by_cases h : k = 0
  · simp [h]
  · rw [if_neg h, if_neg h]
    simp [Tr.d, List.getD_eq_getElem?_getD, show k - 1 < k by omega]
theorem Tr.d_take {xs : Tr} {k j : Nat} (h : j < k) : Tr.d (xs.take k) j = Tr.d xs j := by simp [Tr.d, List.getD_eq_getElem?_getD, h]
theorem NdIn.head {w : World} {B n : Nat} {A : Option Addr} {xs : Tr} (h : NdIn w B A n xs) {k : Nat} (hk : k ≤ n) : NdIn w B A k (xs.take k) := by
  refine ⟨by have := h.1; simp; omega, fun h0 => h.2.1 (by omega), fun ad e j hj => ?_⟩
  have := h.2.2 ad e j (by omega)
  have hg : (xs.take k).getD j (0, 0) = xs.getD j (0, 0) := by simp [List.getD_eq_getElem?_getD, hj]
  simp only [Tr.l, Tr.d] at this ⊢
  rw [hg]
  exact this
set_option maxHeartbeats 800000 in
set_option maxRecDepth 100000 in
theorem implTreeOk_any (A : Option Addr) (n c : Nat) (xs : Tr) (w : World) (h : NdIn w w.heap.size A n xs) (hn : n ≤ 1048576) (hnc : n ≤ c) :
    Calls Try.prog 69 #[.slice A n c] w fun e w' => e = .returned (.bool (Tr.ok xs)) ∧ Below w.heap.size w w' := by
  have H := Lib.hid h
  clear h
  have HL := Lib.hid H.out.1
  by_cases hn1 : n < 1
  · have Hf := Lib.hid (show Tr.ok xs = false by rw [Bool.eq_false_iff, Ne, Tr.ok_iff, HL.out]; omega)
    go_enter Try.func69, Try.ntmps69
    go_wp2
    go_ret
    exact ⟨Kit.ret_bool Hf.out.symm, Below.refl _ _⟩
  by_cases hn2 : 24 < n
  · have Hf := Lib.hid (show Tr.ok xs = false by rw [Bool.eq_false_iff, Ne, Tr.ok_iff, HL.out]; omega)
    go_enter Try.func69, Try.ntmps69
    go_wp2
    go_ret
    exact ⟨Kit.ret_bool Hf.out.symm, Below.refl _ _⟩
  obtain ⟨ad, rfl, _⟩ := H.out.2.1 (by omega)
  go_enter Try.func69, Try.ntmps69
  go_wp2
  go_loopw [15] (fun iv wr => ∃ k : Nat, k ≤ n ∧ iv = .int .i64 k ∧ Tr.okTo xs k ∧ Below w.heap.size w wr) (fun i _ => n - (intOf i).toNat)
  case atStart => exact ⟨0, Nat.zero_le _, rfl, fun j hj => absurd hj (by omega), Below.refl _ _⟩
  case round =>
    obtain ⟨k, hk, rfl, hok, hB⟩ := hrel
    have hsz := hB.size
    have Hok := Lib.hid hok
    have HB := Lib.hid hB
    clear hok hB
    by_cases hlt : k < n
    · obtain ⟨hl, hd⟩ := (H.out.below HB.out).here hlt
      have hkc : (k : Int) ≤ (c : Int) := by omega
      have hk0 : (0 : Int) ≤ (k : Int) := by omega
      have Hbk := Lib.hid (show 0 < k → 0 ≤ Tr.d (xs.take k) (k - 1) ∧ Tr.d (xs.take k) (k - 1) ≤ 12 by
        intro h0
        rw [Tr.d_take (by omega)]
        exact (Tr.okTo_at Hok.out (show k - 1 < k by omega)).2.1)
      have Hfit := Lib.hid (Tr.fits_take (xs := xs) (k := k) (d := Tr.d xs k))
      have Hc := Lib.hid (((H.out.below HB.out).more HB.out.size).to_below ((Below.refl _ _).alloc (Nat.le_refl _) (.cells #[.int .i64 (Tr.l xs k), .int .i64 (Tr.d xs k)] 61)) |>.head (Nat.le_of_lt hlt))
      by_cases h1 : 0 ≤ Tr.l xs k ∧ Tr.l xs k ≤ 5
      · have h1' : Lab.ok (Tr.l xs k) = true := by simp [Lab.ok, h1]
        have Hat := Lib.hid (Tr.okAt_fits (xs := xs) (k := k) h1 (fun h0 => (Tr.okTo_at Hok.out (show k - 1 < k by omega)).2.1.1))
        clear h1
        by_cases h2 : Tr.d xs k ≤ 12
        · have e2 : decide (12 < Tr.d xs k) = false := by simpa using h2
          cases h3 : Tr.fits (xs.take k) k (Tr.d xs k) with
          | true =>
            have Hk := Lib.hid (show Tr.okAt xs k = true by rw [Hat.out, ← Hfit.out, h3]; simp [h2])
            clear h2
            go_wp2
            go_quiet (first
              | (go_at_call 72; exact quiet_same (implLabelOk_any _ _))
              | (go_at_call 91; exact quiet_same (depthFits_any _ _ _ _ _ _ (Hc.out.drewN _) (by omega) Hbk.out)))
            go_wp2
            go_roundw
            case rel => exact ⟨k + 1, by omega, by go_num, Tr.okTo_succ Hok.out Hk.out, Drawn.below (HB.out.alloc HB.out.size _) ⟨_, rfl⟩⟩
            case measure => simp [intOf]; omega
          | false =>
            have Hf := Lib.hid (Tr.not_ok (xs := xs) (k := k) (by rw [HL.out]; exact hlt) (by rw [Hat.out, ← Hfit.out, h3]; simp))
            clear h2
            go_wp2
            go_quiet (first
              | (go_at_call 72; exact quiet_same (implLabelOk_any _ _))
              | (go_at_call 91; exact quiet_same (depthFits_any _ _ _ _ _ _ (Hc.out.drewN _) (by omega) Hbk.out)))
            go_wp2
            go_ret
            exact ⟨Kit.ret_bool Hf.out.symm, Drawn.below (HB.out.alloc HB.out.size _) ⟨_, rfl⟩⟩
        · have e2 : decide (12 < Tr.d xs k) = true := by simpa using h2
          have Hf := Lib.hid (Tr.not_ok (xs := xs) (k := k) (by rw [HL.out]; exact hlt) (by rw [Hat.out]; simp [h2]))
          clear h2
          go_wp2
          go_quiet (first
            | (go_at_call 72; exact quiet_same (implLabelOk_any _ _))
            | (go_at_call 91; exact quiet_same (depthFits_any _ _ _ _ _ _ (Hc.out.drewN _) (by omega) Hbk.out)))
          go_wp2
          go_ret
          exact ⟨Kit.ret_bool Hf.out.symm, Drawn.below (HB.out.alloc HB.out.size _) ⟨_, rfl⟩⟩
      · have h1' : Lab.ok (Tr.l xs k) = false := by simpa [Lab.ok] using h1
        have Hf := Lib.hid (Tr.not_ok (xs := xs) (k := k) (by rw [HL.out]; exact hlt) (by simp [Tr.okAt]; omega))
        clear h1
        go_wp2
        go_quiet (first
          | (go_at_call 72; exact quiet_same (implLabelOk_any _ _))
          | (go_at_call 91; exact quiet_same (depthFits_any _ _ _ _ _ _ (Hc.out.drewN _) (by omega) Hbk.out)))
        go_wp2
        go_ret
        exact ⟨Kit.ret_bool Hf.out.symm, Drawn.below (HB.out.alloc HB.out.size _) ⟨_, rfl⟩⟩
    · obtain rfl : k = n := by omega
      go_wp2
      go_ret
      exact ⟨Kit.ret_bool (Tr.ok_iff.2 (by rw [HL.out]; exact ⟨Hok.out, by omega, by omega⟩)).symm, HB.out⟩

end Go.Proofs.Ytnfjdlocmdgefaa

/- Contracts (HasI). -/
namespace Go.Proofs.Ytnfjdlocmdgefaa
open Go.RowKit
set_option linter.unusedVariables false

set_option maxHeartbeats 800000 in
set_option maxRecDepth 100000 in
theorem hasNode_any (A : Option Addr) (n c : Nat) (xs : Tr) (i : Int) (w : World) (h : NdIn w w.heap.size A n xs) (hn : n ≤ 1048576) (hnc : n ≤ c) :
    Calls Try.prog 70 #[.slice A n c, .int .i64 i] w fun e w' => e = .returned (.bool (Tr.has xs i)) ∧ Below w.heap.size w w' := by
  have H := Lib.hid h
  clear h
  have HL := Lib.hid H.out.1
  by_cases h0 : 0 ≤ i
  · by_cases h1 : i < n
    · have Hs := Lib.hid (show Tr.has xs i = Tr.ok xs by simp [Tr.has, HL.out, h0, h1])
      go_enter Try.func70, Try.ntmps70
      go_wp2_with (go_at_call 69; refine (implTreeOk_any _ _ _ xs _ H.out hn hnc).mono ?_; rintro e w1 ⟨rfl, hb⟩)
      go_ret
      exact ⟨Kit.ret_bool Hs.out.symm, hb⟩
    · have Hs := Lib.hid (show Tr.has xs i = false by simp [Tr.has, HL.out, h1])
      go_enter Try.func70, Try.ntmps70
      go_wp2
      go_ret
      exact ⟨Kit.ret_bool Hs.out.symm, Below.refl _ _⟩
  · have Hs := Lib.hid (show Tr.has xs i = false by simp [Tr.has, h0])
    have h0' : decide (0 ≤ i) = false := by simpa using h0
    go_enter Try.func70, Try.ntmps70
    go_wp2
    go_ret
    exact ⟨Kit.ret_bool Hs.out.symm, Below.refl _ _⟩

end Go.Proofs.Ytnfjdlocmdgefaa

/- Contracts (EndOfI). -/
namespace Go.Proofs.Ytnfjdlocmdgefaa
open Go.RowKit
set_option linter.unusedVariables false

set_option maxHeartbeats 800000 in
set_option maxRecDepth 100000 in
theorem implEndOf_any (A : Option Addr) (n c : Nat) (xs : Tr) (i : Int) (w : World) (h : NdIn w w.heap.size A n xs) (hn : n ≤ 1048576) (hnc : n ≤ c) :
    Calls Try.prog 96 #[.slice A n c, .int .i64 i] w fun e w' => e = .returned (.int .i64 (Tr.endOf xs i)) ∧ Below w.heap.size w w' := by
  have H := Lib.hid h
  clear h
  have HL := Lib.hid H.out.1
  rcases hok : Tr.has xs i with _ | _
  · have Hf := Lib.hid (show Tr.endOf xs i = -1 by simp [Tr.endOf, hok])
    have Hok := Lib.hid hok
    clear hok
    go_enter Try.func96, Try.ntmps96
    go_wp2_with fail
    refine (hasNode_any _ _ _ xs _ _ H.out hn hnc).mono ?_
    rintro e w1 ⟨rfl, hd⟩
    rw [Hok.out]
    go_wp2
    go_ret
    exact ⟨Kit.ret_int Hf.out.symm, hd⟩
  · have h1 := (Tr.has_iff.1 hok).2
    rw [HL.out] at h1
    have Hf := Lib.hid (show Tr.endOf xs i = Tr.endN xs i.toNat by simp [Tr.endOf, hok])
    have Hok := Lib.hid hok
    clear hok
    obtain ⟨j, rfl⟩ := Int.eq_ofNat_of_zero_le h1.1
    have hj : j < n := by omega
    clear h1
    go_enter Try.func96, Try.ntmps96
    go_wp2_with fail
    refine (hasNode_any _ _ _ xs _ _ H.out hn hnc).mono ?_
    rintro e w1 ⟨rfl, hd1⟩
    have Hd1 := Lib.hid hd1
    have H1 := Lib.hid (H.out.below Hd1.out)
    clear hd1
    rw [Hok.out]
    go_wp2
    go_loopw [5] (fun kv wr => ∃ k : Nat, j < k ∧ k ≤ n ∧ kv = .int .i64 k ∧ (∀ m, j < m → m < k → Tr.d xs j < Tr.d xs m) ∧ Drawn w1 wr) (fun k _ => n - (intOf k).toNat)
    case atStart => exact ⟨j + 1, by omega, by omega, by go_num, fun m h1 h2 => absurd h1 (by omega), Drawn.refl _⟩
    case round =>
      obtain ⟨k, hjk, hk, rfl, hall, hD⟩ := hrel
      have Hall := Lib.hid hall
      clear hall
      have hk0 : (0 : Int) ≤ (k : Int) := by omega
      have hj0 : (0 : Int) ≤ (j : Int) := by omega
      by_cases hlt : k < n
      · have hltd : decide (k < n) = true := by simpa using hlt
        obtain ⟨ad, rfl, hb, hl, hd⟩ := (H1.out.drawn hD).at_ hlt
        obtain ⟨hl', hd'⟩ := (H1.out.drawn hD).here hj
        clear hl hl'
        by_cases hgt : Tr.d xs j < Tr.d xs k
        · have hg : decide (Tr.d xs j < Tr.d xs k) = true := by simpa using hgt
          have Hg := Lib.hid hgt
          clear hgt
          go_wp2
          go_quiet (fail)
          go_wp2
          go_roundw
          case rel => exact ⟨k + 1, by omega, by omega, by go_num, fun m h1 h2 => by
            rcases Nat.lt_succ_iff_lt_or_eq.1 h2 with h' | rfl
            · exact Hall.out m h1 h'
            · exact Hg.out, hD.drewN _⟩
          case measure => simp [intOf]; omega
        · have hg : decide (Tr.d xs j < Tr.d xs k) = false := by simpa using hgt
          have He := Lib.hid (Tr.endN_is (xs := xs) hjk (by rw [HL.out]; exact hk) Hall.out (.inr (by omega)))
          clear hgt
          go_wp2
          go_quiet (fail)
          go_wp2
          go_ret
          exact ⟨Kit.ret_int (by rw [Hf.out, Int.toNat_natCast, He.out]), Drawn.below Hd1.out (hD.drewN _)⟩
      · have hltd : decide (k < n) = false := by simpa using hlt
        obtain rfl : k = n := by omega
        have He := Lib.hid (Tr.endN_is (xs := xs) hjk (by rw [HL.out]; exact hk) Hall.out (.inl HL.out.symm))
        go_wp2
        go_quiet (fail)
        go_wp2
        go_ret
        exact ⟨Kit.ret_int (by rw [Hf.out, Int.toNat_natCast, He.out]), Drawn.below Hd1.out (hD.drewN _)⟩

end Go.Proofs.Ytnfjdlocmdgefaa

/- Contracts (UndI). -/
namespace Go.Proofs.Ytnfjdlocmdgefaa
open Go.RowKit
set_option linter.unusedVariables false

theorem Tr.under_alt (xs : Tr) (i j : Int) : Tr.under xs i j = (Tr.has xs i && decide (i < j) && decide (j < Tr.endOf xs i)) := by
  unfold Tr.under
  rcases h1 : Tr.has xs i with _ | _
  · rfl
  · rcases h2 : Tr.has xs j with _ | _
    · have hi := Tr.has_iff.1 h1
      obtain ⟨k, rfl⟩ := Int.eq_ofNat_of_zero_le hi.2.1
      have he := (Tr.endN_spec xs k (by omega)).2.1
      rw [Tr.endOf_yes h1]
      by_cases h3 : (k : Int) < j
      · have : ¬ j < (Tr.endN xs k : Nat) := by
          intro h4
          rw [Tr.has_iff.2 ⟨hi.1, by omega, by omega⟩] at h2
          cases h2
        simp [this]
      · simp [h3]
    · simp
set_option maxHeartbeats 1600000 in
set_option maxRecDepth 100000 in
theorem implUnder_any (A : Option Addr) (n c : Nat) (xs : Tr) (i j : Int) (w : World) (h : NdIn w w.heap.size A n xs) (hn : n ≤ 1048576) (hnc : n ≤ c) :
    Calls Try.prog 92 #[.slice A n c, .int .i64 i, .int .i64 j] w fun e w' => e = .returned (.bool (Tr.under xs i j)) ∧ Below w.heap.size w w' := by
  have H := Lib.hid h
  clear h
  have HF := Lib.hid (Tr.under_alt xs i j)
  rcases h1 : Tr.has xs i with _ | _
  · have Hf := Lib.hid (show Tr.under xs i j = false by rw [HF.out, h1]; rfl)
    have Hh := Lib.hid h1
    clear h1
    go_enter Try.func92, Try.ntmps92
    go_wp2_with fail
    refine (hasNode_any _ _ _ xs _ _ H.out hn hnc).mono ?_
    rintro e w1 ⟨rfl, hb⟩
    have HB := Lib.hid hb
    clear hb
    rw [Hh.out]
    go_wp2
    go_ret
    exact ⟨Kit.ret_bool Hf.out.symm, HB.out⟩
  · obtain ⟨E, hE⟩ : ∃ E, E = Tr.endOf xs i := ⟨_, rfl⟩
    have HE := Lib.hid hE
    by_cases h3 : i < j
    · have e3 : decide (i < j) = true := by simpa using h3
      have Hf := Lib.hid (show Tr.under xs i j = decide (j < E) by rw [HF.out, h1, e3, hE]; rfl)
      have Hh := Lib.hid h1
      clear h1 hE h3
      go_enter Try.func92, Try.ntmps92
      go_wp2_with fail
      refine (hasNode_any _ _ _ xs _ _ H.out hn hnc).mono ?_
      rintro e w1 ⟨rfl, hb⟩
      have HB := Lib.hid hb
      have H1 := Lib.hid (H.out.to_below hb)
      clear hb
      rw [Hh.out]
      go_wp2_with fail
      refine (implEndOf_any _ _ _ xs _ _ H1.out hn hnc).mono ?_
      rintro e w2 ⟨rfl, hb⟩
      have HB := Lib.hid (HB.out.trans (hb.mono HB.out.size))
      clear hb
      rw [← HE.out]
      go_wp2
      go_ret
      exact ⟨Kit.ret_bool Hf.out.symm, HB.out⟩
    · have e3 : decide (i < j) = false := by simpa using h3
      have Hf := Lib.hid (show Tr.under xs i j = false by rw [HF.out, h1, e3]; rfl)
      have Hh := Lib.hid h1
      clear h1 hE h3
      go_enter Try.func92, Try.ntmps92
      go_wp2_with fail
      refine (hasNode_any _ _ _ xs _ _ H.out hn hnc).mono ?_
      rintro e w1 ⟨rfl, hb⟩
      have HB := Lib.hid hb
      clear hb
      rw [Hh.out]
      go_wp2
      go_ret
      exact ⟨Kit.ret_bool Hf.out.symm, HB.out⟩

end Go.Proofs.Ytnfjdlocmdgefaa

/- Contracts (BoxC). -/
namespace Go.Proofs.Ytnfjdlocmdgefaa
open Go.RowKit
set_option linter.unusedVariables false

/-- a block of three cells -/
def Box3 (w : World) (g : Nat) (v0 v1 v2 : Value) : Prop := w.cell? ⟨g, 0, none⟩ = some v0 ∧ w.cell? ⟨g, 1, none⟩ = some v1 ∧ w.cell? ⟨g, 2, none⟩ = some v2
theorem Box3.drawn {w w' : World} {g : Nat} {v0 v1 v2 : Value} (h : Box3 w g v0 v1 v2) (hd : Drawn w w') : Box3 w' g v0 v1 v2 := ⟨(hd.cell _).trans h.1, (hd.cell _).trans h.2.1, (hd.cell _).trans h.2.2⟩
theorem Box3.below {w w' : World} {g B : Nat} {v0 v1 v2 : Value} (h : Box3 w g v0 v1 v2) (hb : Below B w w') (hg : g < B) : Box3 w' g v0 v1 v2 := ⟨(hb.cell (p := ⟨g, 0, none⟩) hg).trans h.1, (hb.cell (p := ⟨g, 1, none⟩) hg).trans h.2.1, (hb.cell (p := ⟨g, 2, none⟩) hg).trans h.2.2⟩
theorem Box3.made (w : World) (v0 v1 v2 : Value) (e : TypeId) : Box3 (w.alloc (.cells #[v0, v1, v2] e)) w.heap.size v0 v1 v2 := ⟨by simp, by simp, by simp⟩
theorem Box3.free (w : World) (v0 v1 v2 : Value) (e : TypeId) (off : Nat) : (w.alloc (.cells #[v0, v1, v2] e)).frozen? ⟨w.heap.size, off, none⟩ = false := by simp
theorem free_below {w w' : World} {g B : Nat} (hb : Below B w w') (hg : g < B) (h : ∀ off, w.frozen? ⟨g, off, none⟩ = false) (off : Nat) : w'.frozen? ⟨g, off, none⟩ = false := by
  have e := hb.block g hg
  have := h off
  unfold World.frozen? at this ⊢
  simp only [e]
  exact this
theorem Box3.alloc {w : World} {g : Nat} {v0 v1 v2 : Value} (h : Box3 w g v0 v1 v2) (hg : g < w.heap.size) (o : Obj) : Box3 (w.alloc o) g v0 v1 v2 :=
  ⟨(World.cell?_alloc_lt w o ⟨g, 0, none⟩ hg).trans h.1, (World.cell?_alloc_lt w o ⟨g, 1, none⟩ hg).trans h.2.1, (World.cell?_alloc_lt w o ⟨g, 2, none⟩ hg).trans h.2.2⟩

end Go.Proofs.Ytnfjdlocmdgefaa

/- Contracts (Bxc). -/
namespace Go.Proofs.Ytnfjdlocmdgefaa
open Go.RowKit
set_option linter.unusedVariables false

/-- below a world's blocks nothing has turned -/
def BelA (w wq : World) : Prop := Below w.heap.size w wq
section
variable {wa wx wy : World} {b : Nat} {v0 v1 v2 : Value}
end

end Go.Proofs.Ytnfjdlocmdgefaa

/- Contracts (Px). -/
namespace Go.Proofs.Ytnfjdlocmdgefaa
open Go.RowKit
set_option linter.unusedVariables false

section
variable {wa wx wy : World} {s t : Nat} {v0 v1 v2 v3 : Int}
theorem px_below (h : (wx.cell? ⟨s, 0, none⟩ = some (.int .i64 v0) ∧ wx.cell? ⟨s, 1, none⟩ = some (.int .i64 v1) ∧ wx.cell? ⟨t, 0, none⟩ = some (.int .i64 v2) ∧ wx.cell? ⟨t, 1, none⟩ = some (.int .i64 v3)) ∧ BelA wa wx) : Below wa.heap.size wa wx := h.2
theorem px_keep (h : (wx.cell? ⟨s, 0, none⟩ = some (.int .i64 v0) ∧ wx.cell? ⟨s, 1, none⟩ = some (.int .i64 v1) ∧ wx.cell? ⟨t, 0, none⟩ = some (.int .i64 v2) ∧ wx.cell? ⟨t, 1, none⟩ = some (.int .i64 v3)) ∧ BelA wa wx) (hb : Below wx.heap.size wx wy) : (wy.cell? ⟨s, 0, none⟩ = some (.int .i64 v0) ∧ wy.cell? ⟨s, 1, none⟩ = some (.int .i64 v1) ∧ wy.cell? ⟨t, 0, none⟩ = some (.int .i64 v2) ∧ wy.cell? ⟨t, 1, none⟩ = some (.int .i64 v3)) ∧ BelA wa wy :=
  have c : ∀ {p : Addr} {v : Value}, wx.cell? p = some v → wy.cell? p = some v := fun hc => (hb.cell (World.block_lt_of_cell? _ _ hc)).trans hc
  ⟨⟨c h.1.1, c h.1.2.1, c h.1.2.2.1, c h.1.2.2.2⟩, h.2.trans (hb.mono h.2.size)⟩
theorem p2_below (h : (wx.cell? ⟨s, 0, none⟩ = some (.int .i64 v0) ∧ wx.cell? ⟨s, 1, none⟩ = some (.int .i64 v1)) ∧ BelA wa wx) : Below wa.heap.size wa wx := h.2
theorem p2_keep (h : (wx.cell? ⟨s, 0, none⟩ = some (.int .i64 v0) ∧ wx.cell? ⟨s, 1, none⟩ = some (.int .i64 v1)) ∧ BelA wa wx) (hb : Below wx.heap.size wx wy) : (wy.cell? ⟨s, 0, none⟩ = some (.int .i64 v0) ∧ wy.cell? ⟨s, 1, none⟩ = some (.int .i64 v1)) ∧ BelA wa wy :=
  have c : ∀ {p : Addr} {v : Value}, wx.cell? p = some v → wy.cell? p = some v := fun hc => (hb.cell (World.block_lt_of_cell? _ _ hc)).trans hc
  ⟨⟨c h.1.1, c h.1.2⟩, h.2.trans (hb.mono h.2.size)⟩
/-- two ints in a block -/
def Bx2 (w : World) (b : Nat) (i j : Int) : Prop := w.cell? ⟨b, 0, none⟩ = some (.int .i64 i) ∧ w.cell? ⟨b, 1, none⟩ = some (.int .i64 j)
theorem Bx2.below {w w' : World} {b B : Nat} {i j : Int} (h : Bx2 w b i j) (hb : Below B w w') (hl : b < B) : Bx2 w' b i j := ⟨(hb.cell (p := ⟨b, 0, none⟩) hl).trans h.1, (hb.cell (p := ⟨b, 1, none⟩) hl).trans h.2⟩
theorem Bx2.made (w : World) (i j : Int) (e : TypeId) : Bx2 (w.alloc (.cells #[.int .i64 i, .int .i64 j] e)) w.heap.size i j := ⟨by simp, by simp⟩
theorem Bx2.lt {w : World} {b : Nat} {i j : Int} (h : Bx2 w b i j) : b < w.heap.size := World.block_lt_of_cell? _ _ h.1
theorem below_drawn_b {B : Nat} {a b : World} (h : Below B a b) (n : Nat) : Below B a (b.drewN n) := ⟨h.os, h.tape, h.output, h.size, h.block⟩
end

end Go.Proofs.Ytnfjdlocmdgefaa
