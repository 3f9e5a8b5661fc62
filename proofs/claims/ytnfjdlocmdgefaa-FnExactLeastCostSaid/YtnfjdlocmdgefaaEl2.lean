/- Texts of one claim laid into one file, in build order: TreeOkI, HasI, EndOfI, UndI, BoxC, Bxc, Px, FitI, Ext, RwS, Fst, Fr, KinP, IdxP, FrT, Co, Mem3, InS, LabOkS. -/
import Derived.Test.YtnfjdlocmdgefaaEl1
import Derived.BigQuiet
import Derived.Deep.RegionHeld3
import Derived.LoopIn
import Derived.LoopNIn
import Derived.Maps.AppendAt
import Derived.Outline
import Derived.OwnWalkIn
import Derived.Shelf.Abstract
import Derived.Shelf.RegionOpen
import Derived.TacticsInMore
import Derived.Test.YtnfjdlocmdgefaaRows
/- Contracts (TreeOkI). -/
namespace Go.Proofs.Ytnfjdlocmdgefaa
open Go.RowKit
set_option linter.unusedVariables false

theorem Tr.fits_take {xs : Tr} {k : Nat} {d : Int} : Tr.fits (xs.take k) k d = Tr.fits xs k d := by
  unfold Tr.fits
  by_cases h : k = 0
  · simp [h]
  · rw [if_neg h, if_neg h]
    simp [Tr.d, List.getD_eq_getElem?_getD, show k - 1 < k by omega]
theorem Tr.d_take {xs : Tr} {k j : Nat} (h : j < k) : Tr.d (xs.take k) j = Tr.d xs j := by simp [Tr.d, List.getD_eq_getElem?_getD, h]
theorem NdIn.head {w : World} {B n : Nat} {A : Option Addr} {xs : Tr} (h : NdIn w B A n xs) {k : Nat} (hk : k ≤ n) : NdIn w B A k (xs.take k) := by
  refine ⟨by have := h.1; simp; omega, fun h0 => h.2.1 (by omega), fun ad e j hj => ?_⟩
  have := h.2.2 ad e j (by omega)
  have hg : (xs.take k).getD j (0, 0) = xs.getD j (0, 0) := by simp [List.getD_eq_getElem?_getD, hj]
  simp only [Tr.l, Tr.d] at this ⊢
  rw [hg]
  exact this
set_option maxHeartbeats 800000 in
set_option maxRecDepth 100000 in
theorem implTreeOk_any (A : Option Addr) (n c : Nat) (xs : Tr) (w : World) (h : NdIn w w.heap.size A n xs) (hn : n ≤ 1048576) (hnc : n ≤ c) :
    Calls Try.prog 69 #[.slice A n c] w fun e w' => e = .returned (.bool (Tr.ok xs)) ∧ Below w.heap.size w w' := by
  have H := Lib.hid h
  clear h
  have HL := Lib.hid H.out.1
  by_cases hn1 : n < 1
  · have Hf := Lib.hid (show Tr.ok xs = false by rw [Bool.eq_false_iff, Ne, Tr.ok_iff, HL.out]; omega)
    go_enter Try.func69, Try.ntmps69
    go_wp2
    go_ret
    exact ⟨Kit.ret_bool Hf.out.symm, Below.refl _ _⟩
  by_cases hn2 : 24 < n
  · have Hf := Lib.hid (show Tr.ok xs = false by rw [Bool.eq_false_iff, Ne, Tr.ok_iff, HL.out]; omega)
    go_enter Try.func69, Try.ntmps69
    go_wp2
    go_ret
    exact ⟨Kit.ret_bool Hf.out.symm, Below.refl _ _⟩
  obtain ⟨ad, rfl, _⟩ := H.out.2.1 (by omega)
  go_enter Try.func69, Try.ntmps69
  go_wp2
  go_loopw [15] (fun iv wr => ∃ k : Nat, k ≤ n ∧ iv = .int .i64 k ∧ Tr.okTo xs k ∧ Below w.heap.size w wr) (fun i _ => n - (intOf i).toNat)
  case atStart => exact ⟨0, Nat.zero_le _, rfl, fun j hj => absurd hj (by omega), Below.refl _ _⟩
  case round =>
    obtain ⟨k, hk, rfl, hok, hB⟩ := hrel
    have hsz := hB.size
    have Hok := Lib.hid hok
    have HB := Lib.hid hB
    clear hok hB
    by_cases hlt : k < n
    · obtain ⟨hl, hd⟩ := (H.out.below HB.out).here hlt
      have hkc : (k : Int) ≤ (c : Int) := by omega
      have hk0 : (0 : Int) ≤ (k : Int) := by omega
      have Hbk := Lib.hid (show 0 < k → 0 ≤ Tr.d (xs.take k) (k - 1) ∧ Tr.d (xs.take k) (k - 1) ≤ 12 by
        intro h0
        rw [Tr.d_take (by omega)]
        exact (Tr.okTo_at Hok.out (show k - 1 < k by omega)).2.1)
      have Hfit := Lib.hid (Tr.fits_take (xs := xs) (k := k) (d := Tr.d xs k))
      have Hc := Lib.hid (((H.out.below HB.out).more HB.out.size).to_below ((Below.refl _ _).alloc (Nat.le_refl _) (.cells #[.int .i64 (Tr.l xs k), .int .i64 (Tr.d xs k)] 61)) |>.head (Nat.le_of_lt hlt))
      by_cases h1 : 0 ≤ Tr.l xs k ∧ Tr.l xs k ≤ 5
      · have h1' : Lab.ok (Tr.l xs k) = true := by simp [Lab.ok, h1]
        have Hat := Lib.hid (Tr.okAt_fits (xs := xs) (k := k) h1 (fun h0 => (Tr.okTo_at Hok.out (show k - 1 < k by omega)).2.1.1))
        clear h1
        by_cases h2 : Tr.d xs k ≤ 12
        · have e2 : decide (12 < Tr.d xs k) = false := by simpa using h2
          cases h3 : Tr.fits (xs.take k) k (Tr.d xs k) with
          | true =>
            have Hk := Lib.hid (show Tr.okAt xs k = true by rw [Hat.out, ← Hfit.out, h3]; simp [h2])
            clear h2
            go_wp2
            go_quiet (first
              | (go_at_call 72; exact quiet_same (implLabelOk_any _ _))
              | (go_at_call 91; exact quiet_same (depthFits_any _ _ _ _ _ _ (Hc.out.drewN _) (by omega) Hbk.out)))
            go_wp2
            go_roundw
            case rel => exact ⟨k + 1, by omega, by go_num, Tr.okTo_succ Hok.out Hk.out, Drawn.below (HB.out.alloc HB.out.size _) ⟨_, rfl⟩⟩
            case measure => simp [intOf]; omega
          | false =>
            have Hf := Lib.hid (Tr.not_ok (xs := xs) (k := k) (by rw [HL.out]; exact hlt) (by rw [Hat.out, ← Hfit.out, h3]; simp))
            clear h2
            go_wp2
            go_quiet (first
              | (go_at_call 72; exact quiet_same (implLabelOk_any _ _))
              | (go_at_call 91; exact quiet_same (depthFits_any _ _ _ _ _ _ (Hc.out.drewN _) (by omega) Hbk.out)))
            go_wp2
            go_ret
            exact ⟨Kit.ret_bool Hf.out.symm, Drawn.below (HB.out.alloc HB.out.size _) ⟨_, rfl⟩⟩
        · have e2 : decide (12 < Tr.d xs k) = true := by simpa using h2
          have Hf := Lib.hid (Tr.not_ok (xs := xs) (k := k) (by rw [HL.out]; exact hlt) (by rw [Hat.out]; simp [h2]))
          clear h2
          go_wp2
          go_quiet (first
            | (go_at_call 72; exact quiet_same (implLabelOk_any _ _))
            | (go_at_call 91; exact quiet_same (depthFits_any _ _ _ _ _ _ (Hc.out.drewN _) (by omega) Hbk.out)))
          go_wp2
          go_ret
          exact ⟨Kit.ret_bool Hf.out.symm, Drawn.below (HB.out.alloc HB.out.size _) ⟨_, rfl⟩⟩
      · have h1' : Lab.ok (Tr.l xs k) = false := by simpa [Lab.ok] using h1
        have Hf := Lib.hid (Tr.not_ok (xs := xs) (k := k) (by rw [HL.out]; exact hlt) (by simp [Tr.okAt]; omega))
        clear h1
        go_wp2
        go_quiet (first
          | (go_at_call 72; exact quiet_same (implLabelOk_any _ _))
          | (go_at_call 91; exact quiet_same (depthFits_any _ _ _ _ _ _ (Hc.out.drewN _) (by omega) Hbk.out)))
        go_wp2
        go_ret
        exact ⟨Kit.ret_bool Hf.out.symm, Drawn.below (HB.out.alloc HB.out.size _) ⟨_, rfl⟩⟩
    · obtain rfl : k = n := by omega
      go_wp2
      go_ret
      exact ⟨Kit.ret_bool (Tr.ok_iff.2 (by rw [HL.out]; exact ⟨Hok.out, by omega, by omega⟩)).symm, HB.out⟩

end Go.Proofs.Ytnfjdlocmdgefaa

/- Contracts (HasI). -/
namespace Go.Proofs.Ytnfjdlocmdgefaa
open Go.RowKit
set_option linter.unusedVariables false

set_option maxHeartbeats 800000 in
set_option maxRecDepth 100000 in
theorem hasNode_any (A : Option Addr) (n c : Nat) (xs : Tr) (i : Int) (w : World) (h : NdIn w w.heap.size A n xs) (hn : n ≤ 1048576) (hnc : n ≤ c) :
    Calls Try.prog 70 #[.slice A n c, .int .i64 i] w fun e w' => e = .returned (.bool (Tr.has xs i)) ∧ Below w.heap.size w w' := by
  have H := Lib.hid h
  clear h
  have HL := Lib.hid H.out.1
  by_cases h0 : 0 ≤ i
  · by_cases h1 : i < n
    · have Hs := Lib.hid (show Tr.has xs i = Tr.ok xs by simp [Tr.has, HL.out, h0, h1])
      go_enter Try.func70, Try.ntmps70
      go_wp2_with (go_at_call 69; refine (implTreeOk_any _ _ _ xs _ H.out hn hnc).mono ?_; rintro e w1 ⟨rfl, hb⟩)
      go_ret
      exact ⟨Kit.ret_bool Hs.out.symm, hb⟩
    · have Hs := Lib.hid (show Tr.has xs i = false by simp [Tr.has, HL.out, h1])
      go_enter Try.func70, Try.ntmps70
      go_wp2
      go_ret
      exact ⟨Kit.ret_bool Hs.out.symm, Below.refl _ _⟩
  · have Hs := Lib.hid (show Tr.has xs i = false by simp [Tr.has, h0])
    have h0' : decide (0 ≤ i) = false := by simpa using h0
    go_enter Try.func70, Try.ntmps70
    go_wp2
    go_ret
    exact ⟨Kit.ret_bool Hs.out.symm, Below.refl _ _⟩

end Go.Proofs.Ytnfjdlocmdgefaa

/- Contracts (EndOfI). -/
namespace Go.Proofs.Ytnfjdlocmdgefaa
open Go.RowKit
set_option linter.unusedVariables false

set_option maxHeartbeats 800000 in
set_option maxRecDepth 100000 in
theorem implEndOf_any (A : Option Addr) (n c : Nat) (xs : Tr) (i : Int) (w : World) (h : NdIn w w.heap.size A n xs) (hn : n ≤ 1048576) (hnc : n ≤ c) :
    Calls Try.prog 96 #[.slice A n c, .int .i64 i] w fun e w' => e = .returned (.int .i64 (Tr.endOf xs i)) ∧ Below w.heap.size w w' := by
  have H := Lib.hid h
  clear h
  have HL := Lib.hid H.out.1
  rcases hok : Tr.has xs i with _ | _
  · have Hf := Lib.hid (show Tr.endOf xs i = -1 by simp [Tr.endOf, hok])
    have Hok := Lib.hid hok
    clear hok
    go_enter Try.func96, Try.ntmps96
    go_wp2_with fail
    refine (hasNode_any _ _ _ xs _ _ H.out hn hnc).mono ?_
    rintro e w1 ⟨rfl, hd⟩
    rw [Hok.out]
    go_wp2
    go_ret
    exact ⟨Kit.ret_int Hf.out.symm, hd⟩
  · have h1 := (Tr.has_iff.1 hok).2
    rw [HL.out] at h1
    have Hf := Lib.hid (show Tr.endOf xs i = Tr.endN xs i.toNat by simp [Tr.endOf, hok])
    have Hok := Lib.hid hok
    clear hok
    obtain ⟨j, rfl⟩ := Int.eq_ofNat_of_zero_le h1.1
    have hj : j < n := by omega
    clear h1
    go_enter Try.func96, Try.ntmps96
    go_wp2_with fail
    refine (hasNode_any _ _ _ xs _ _ H.out hn hnc).mono ?_
    rintro e w1 ⟨rfl, hd1⟩
    have Hd1 := Lib.hid hd1
    have H1 := Lib.hid (H.out.below Hd1.out)
    clear hd1
    rw [Hok.out]
    go_wp2
    go_loopw [5] (fun kv wr => ∃ k : Nat, j < k ∧ k ≤ n ∧ kv = .int .i64 k ∧ (∀ m, j < m → m < k → Tr.d xs j < Tr.d xs m) ∧ Drawn w1 wr) (fun k _ => n - (intOf k).toNat)
    case atStart => exact ⟨j + 1, by omega, by omega, by go_num, fun m h1 h2 => absurd h1 (by omega), Drawn.refl _⟩
    case round =>
      obtain ⟨k, hjk, hk, rfl, hall, hD⟩ := hrel
      have Hall := Lib.hid hall
      clear hall
      have hk0 : (0 : Int) ≤ (k : Int) := by omega
      have hj0 : (0 : Int) ≤ (j : Int) := by omega
      by_cases hlt : k < n
      · have hltd : decide (k < n) = true := by simpa using hlt
        obtain ⟨ad, rfl, hb, hl, hd⟩ := (H1.out.drawn hD).at_ hlt
        obtain ⟨hl', hd'⟩ := (H1.out.drawn hD).here hj
        clear hl hl'
        by_cases hgt : Tr.d xs j < Tr.d xs k
        · have hg : decide (Tr.d xs j < Tr.d xs k) = true := by simpa using hgt
          have Hg := Lib.hid hgt
          clear hgt
          go_wp2
          go_quiet (fail)
          go_wp2
          go_roundw
          case rel => exact ⟨k + 1, by omega, by omega, by go_num, fun m h1 h2 => by
            rcases Nat.lt_succ_iff_lt_or_eq.1 h2 with h' | rfl
            · exact Hall.out m h1 h'
            · exact Hg.out, hD.drewN _⟩
          case measure => simp [intOf]; omega
        · have hg : decide (Tr.d xs j < Tr.d xs k) = false := by simpa using hgt
          have He := Lib.hid (Tr.endN_is (xs := xs) hjk (by rw [HL.out]; exact hk) Hall.out (.inr (by omega)))
          clear hgt
          go_wp2
          go_quiet (fail)
          go_wp2
          go_ret
          exact ⟨Kit.ret_int (by rw [Hf.out, Int.toNat_natCast, He.out]), Drawn.below Hd1.out (hD.drewN _)⟩
      · have hltd : decide (k < n) = false := by simpa using hlt
        obtain rfl : k = n := by omega
        have He := Lib.hid (Tr.endN_is (xs := xs) hjk (by rw [HL.out]; exact hk) Hall.out (.inl HL.out.symm))
        go_wp2
        go_quiet (fail)
        go_wp2
        go_ret
        exact ⟨Kit.ret_int (by rw [Hf.out, Int.toNat_natCast, He.out]), Drawn.below Hd1.out (hD.drewN _)⟩

end Go.Proofs.Ytnfjdlocmdgefaa

/- Contracts (UndI). -/
namespace Go.Proofs.Ytnfjdlocmdgefaa
open Go.RowKit
set_option linter.unusedVariables false

theorem Tr.under_alt (xs : Tr) (i j : Int) : Tr.under xs i j = (Tr.has xs i && decide (i < j) && decide (j < Tr.endOf xs i)) := by
  unfold Tr.under
  rcases h1 : Tr.has xs i with _ | _
  · rfl
  · rcases h2 : Tr.has xs j with _ | _
    · have hi := Tr.has_iff.1 h1
      obtain ⟨k, rfl⟩ := Int.eq_ofNat_of_zero_le hi.2.1
      have he := (Tr.endN_spec xs k (by omega)).2.1
      rw [Tr.endOf_yes h1]
      by_cases h3 : (k : Int) < j
      · have : ¬ j < (Tr.endN xs k : Nat) := by
          intro h4
          rw [Tr.has_iff.2 ⟨hi.1, by omega, by omega⟩] at h2
          cases h2
        simp [this]
      · simp [h3]
    · simp
set_option maxHeartbeats 1600000 in
set_option maxRecDepth 100000 in
theorem implUnder_any (A : Option Addr) (n c : Nat) (xs : Tr) (i j : Int) (w : World) (h : NdIn w w.heap.size A n xs) (hn : n ≤ 1048576) (hnc : n ≤ c) :
    Calls Try.prog 92 #[.slice A n c, .int .i64 i, .int .i64 j] w fun e w' => e = .returned (.bool (Tr.under xs i j)) ∧ Below w.heap.size w w' := by
  have H := Lib.hid h
  clear h
  have HF := Lib.hid (Tr.under_alt xs i j)
  rcases h1 : Tr.has xs i with _ | _
  · have Hf := Lib.hid (show Tr.under xs i j = false by rw [HF.out, h1]; rfl)
    have Hh := Lib.hid h1
    clear h1
    go_enter Try.func92, Try.ntmps92
    go_wp2_with fail
    refine (hasNode_any _ _ _ xs _ _ H.out hn hnc).mono ?_
    rintro e w1 ⟨rfl, hb⟩
    have HB := Lib.hid hb
    clear hb
    rw [Hh.out]
    go_wp2
    go_ret
    exact ⟨Kit.ret_bool Hf.out.symm, HB.out⟩
  · obtain ⟨E, hE⟩ : ∃ E, E = Tr.endOf xs i := ⟨_, rfl⟩
    have HE := Lib.hid hE
    by_cases h3 : i < j
    · have e3 : decide (i < j) = true := by simpa using h3
      have Hf := Lib.hid (show Tr.under xs i j = decide (j < E) by rw [HF.out, h1, e3, hE]; rfl)
      have Hh := Lib.hid h1
      clear h1 hE h3
      go_enter Try.func92, Try.ntmps92
      go_wp2_with fail
      refine (hasNode_any _ _ _ xs _ _ H.out hn hnc).mono ?_
      rintro e w1 ⟨rfl, hb⟩
      have HB := Lib.hid hb
      have H1 := Lib.hid (H.out.to_below hb)
      clear hb
      rw [Hh.out]
      go_wp2_with fail
      refine (implEndOf_any _ _ _ xs _ _ H1.out hn hnc).mono ?_
      rintro e w2 ⟨rfl, hb⟩
      have HB := Lib.hid (HB.out.trans (hb.mono HB.out.size))
      clear hb
      rw [← HE.out]
      go_wp2
      go_ret
      exact ⟨Kit.ret_bool Hf.out.symm, HB.out⟩
    · have e3 : decide (i < j) = false := by simpa using h3
      have Hf := Lib.hid (show Tr.under xs i j = false by rw [HF.out, h1, e3]; rfl)
      have Hh := Lib.hid h1
      clear h1 hE h3
      go_enter Try.func92, Try.ntmps92
      go_wp2_with fail
      refine (hasNode_any _ _ _ xs _ _ H.out hn hnc).mono ?_
      rintro e w1 ⟨rfl, hb⟩
      have HB := Lib.hid hb
      clear hb
      rw [Hh.out]
      go_wp2
      go_ret
      exact ⟨Kit.ret_bool Hf.out.symm, HB.out⟩

end Go.Proofs.Ytnfjdlocmdgefaa

/- Contracts (BoxC). -/
namespace Go.Proofs.Ytnfjdlocmdgefaa
open Go.RowKit
set_option linter.unusedVariables false

/-- a block of three cells -/
def Box3 (w : World) (g : Nat) (v0 v1 v2 : Value) : Prop := w.cell? ⟨g, 0, none⟩ = some v0 ∧ w.cell? ⟨g, 1, none⟩ = some v1 ∧ w.cell? ⟨g, 2, none⟩ = some v2
theorem Box3.drawn {w w' : World} {g : Nat} {v0 v1 v2 : Value} (h : Box3 w g v0 v1 v2) (hd : Drawn w w') : Box3 w' g v0 v1 v2 := ⟨(hd.cell _).trans h.1, (hd.cell _).trans h.2.1, (hd.cell _).trans h.2.2⟩
theorem Box3.below {w w' : World} {g B : Nat} {v0 v1 v2 : Value} (h : Box3 w g v0 v1 v2) (hb : Below B w w') (hg : g < B) : Box3 w' g v0 v1 v2 := ⟨(hb.cell (p := ⟨g, 0, none⟩) hg).trans h.1, (hb.cell (p := ⟨g, 1, none⟩) hg).trans h.2.1, (hb.cell (p := ⟨g, 2, none⟩) hg).trans h.2.2⟩
theorem Box3.made (w : World) (v0 v1 v2 : Value) (e : TypeId) : Box3 (w.alloc (.cells #[v0, v1, v2] e)) w.heap.size v0 v1 v2 := ⟨by simp, by simp, by simp⟩
theorem Box3.free (w : World) (v0 v1 v2 : Value) (e : TypeId) (off : Nat) : (w.alloc (.cells #[v0, v1, v2] e)).frozen? ⟨w.heap.size, off, none⟩ = false := by simp
theorem free_below {w w' : World} {g B : Nat} (hb : Below B w w') (hg : g < B) (h : ∀ off, w.frozen? ⟨g, off, none⟩ = false) (off : Nat) : w'.frozen? ⟨g, off, none⟩ = false := by
  have e := hb.block g hg
  have := h off
  unfold World.frozen? at this ⊢
  simp only [e]
  exact this
theorem Box3.alloc {w : World} {g : Nat} {v0 v1 v2 : Value} (h : Box3 w g v0 v1 v2) (hg : g < w.heap.size) (o : Obj) : Box3 (w.alloc o) g v0 v1 v2 :=
  ⟨(World.cell?_alloc_lt w o ⟨g, 0, none⟩ hg).trans h.1, (World.cell?_alloc_lt w o ⟨g, 1, none⟩ hg).trans h.2.1, (World.cell?_alloc_lt w o ⟨g, 2, none⟩ hg).trans h.2.2⟩

end Go.Proofs.Ytnfjdlocmdgefaa

/- Contracts (Bxc). -/
namespace Go.Proofs.Ytnfjdlocmdgefaa
open Go.RowKit
set_option linter.unusedVariables false

/-- below a world's blocks nothing has turned -/
def BelA (w wq : World) : Prop := Below w.heap.size w wq
section
variable {wa wx wy : World} {b : Nat} {v0 v1 v2 : Value}
end

end Go.Proofs.Ytnfjdlocmdgefaa

/- Contracts (Px). -/
namespace Go.Proofs.Ytnfjdlocmdgefaa
open Go.RowKit
set_option linter.unusedVariables false

section
variable {wa wx wy : World} {s t : Nat} {v0 v1 v2 v3 : Int}
theorem px_below (h : (wx.cell? ⟨s, 0, none⟩ = some (.int .i64 v0) ∧ wx.cell? ⟨s, 1, none⟩ = some (.int .i64 v1) ∧ wx.cell? ⟨t, 0, none⟩ = some (.int .i64 v2) ∧ wx.cell? ⟨t, 1, none⟩ = some (.int .i64 v3)) ∧ BelA wa wx) : Below wa.heap.size wa wx := h.2
theorem px_keep (h : (wx.cell? ⟨s, 0, none⟩ = some (.int .i64 v0) ∧ wx.cell? ⟨s, 1, none⟩ = some (.int .i64 v1) ∧ wx.cell? ⟨t, 0, none⟩ = some (.int .i64 v2) ∧ wx.cell? ⟨t, 1, none⟩ = some (.int .i64 v3)) ∧ BelA wa wx) (hb : Below wx.heap.size wx wy) : (wy.cell? ⟨s, 0, none⟩ = some (.int .i64 v0) ∧ wy.cell? ⟨s, 1, none⟩ = some (.int .i64 v1) ∧ wy.cell? ⟨t, 0, none⟩ = some (.int .i64 v2) ∧ wy.cell? ⟨t, 1, none⟩ = some (.int .i64 v3)) ∧ BelA wa wy :=
  have c : ∀ {p : Addr} {v : Value}, wx.cell? p = some v → wy.cell? p = some v := fun hc => (hb.cell (World.block_lt_of_cell? _ _ hc)).trans hc
  ⟨⟨c h.1.1, c h.1.2.1, c h.1.2.2.1, c h.1.2.2.2⟩, h.2.trans (hb.mono h.2.size)⟩
theorem p2_below (h : (wx.cell? ⟨s, 0, none⟩ = some (.int .i64 v0) ∧ wx.cell? ⟨s, 1, none⟩ = some (.int .i64 v1)) ∧ BelA wa wx) : Below wa.heap.size wa wx := h.2
theorem p2_keep (h : (wx.cell? ⟨s, 0, none⟩ = some (.int .i64 v0) ∧ wx.cell? ⟨s, 1, none⟩ = some (.int .i64 v1)) ∧ BelA wa wx) (hb : Below wx.heap.size wx wy) : (wy.cell? ⟨s, 0, none⟩ = some (.int .i64 v0) ∧ wy.cell? ⟨s, 1, none⟩ = some (.int .i64 v1)) ∧ BelA wa wy :=
  have c : ∀ {p : Addr} {v : Value}, wx.cell? p = some v → wy.cell? p = some v := fun hc => (hb.cell (World.block_lt_of_cell? _ _ hc)).trans hc
  ⟨⟨c h.1.1, c h.1.2⟩, h.2.trans (hb.mono h.2.size)⟩
/-- two ints in a block -/
def Bx2 (w : World) (b : Nat) (i j : Int) : Prop := w.cell? ⟨b, 0, none⟩ = some (.int .i64 i) ∧ w.cell? ⟨b, 1, none⟩ = some (.int .i64 j)
theorem Bx2.below {w w' : World} {b B : Nat} {i j : Int} (h : Bx2 w b i j) (hb : Below B w w') (hl : b < B) : Bx2 w' b i j := ⟨(hb.cell (p := ⟨b, 0, none⟩) hl).trans h.1, (hb.cell (p := ⟨b, 1, none⟩) hl).trans h.2⟩
theorem Bx2.made (w : World) (i j : Int) (e : TypeId) : Bx2 (w.alloc (.cells #[.int .i64 i, .int .i64 j] e)) w.heap.size i j := ⟨by simp, by simp⟩
theorem Bx2.lt {w : World} {b : Nat} {i j : Int} (h : Bx2 w b i j) : b < w.heap.size := World.block_lt_of_cell? _ _ h.1
theorem below_drawn_b {B : Nat} {a b : World} (h : Below B a b) (n : Nat) : Below B a (b.drewN n) := ⟨h.os, h.tape, h.output, h.size, h.block⟩
end

end Go.Proofs.Ytnfjdlocmdgefaa

/- Contracts (FitI). -/
namespace Go.Proofs.Ytnfjdlocmdgefaa
open Go.RowKit
set_option linter.unusedVariables false

set_option maxHeartbeats 3200000 in
set_option maxRecDepth 100000 in
theorem pairFits_any (A A' A'' : Option Addr) (n n' n'' c c' c'' : Nat) (xs ys ms : Tr) (a b : Int) (w : World) (h : NdIn w w.heap.size A n xs) (h' : NdIn w w.heap.size A' n' ys) (h'' : NdIn w w.heap.size A'' n'' ms) (hn : n ≤ 1048576) (hn' : n' ≤ 1048576) (hn'' : n'' ≤ 1048576) (hc : n ≤ c) (hc' : n' ≤ c') :
    Calls Try.prog 71 #[.slice A n c, .slice A' n' c', .slice A'' n'' c'', .agg #[.int .i64 a, .int .i64 b]] w fun e w' => e = .returned (.bool (Mp.after xs ys ms n'' a b)) ∧ Below w.heap.size w w' := by
  have H := Lib.hid h
  have H' := Lib.hid h'
  have H2 := Lib.hid h''
  clear h h' h''
  have HL := Lib.hid H2.out.1
  obtain ⟨w1, hw1⟩ : ∃ w1, w1 = w.alloc (.cells #[.int .i64 a, .int .i64 b] 77) := ⟨_, rfl⟩
  have B1 := Lib.hid (show Below w.heap.size w w1 by rw [hw1]; exact (Below.refl _ _).alloc (Nat.le_refl _) _)
  have P1 := Lib.hid (show Bx2 w1 w.heap.size a b by rw [hw1]; exact Bx2.made _ _ _ _)
  have W1 := Lib.hid hw1
  clear hw1
  go_enter Try.func71, Try.ntmps71
  go_wp2
  rw [← W1.out]
  go_loopw [13] (fun iv wr => ∃ k : Nat, k ≤ n'' ∧ iv = .int .i64 k ∧ (∀ q, q < k → Mp.at xs ys ms a b q = true) ∧ Below w.heap.size w wr ∧ Bx2 wr w.heap.size a b) (fun i _ => n'' - (intOf i).toNat)
  case atStart => exact ⟨0, by omega, rfl, fun q hq => absurd hq (by omega), B1.out, P1.out⟩
  case round =>
    obtain ⟨k, hk, rfl, hgood, hB, hP⟩ := hrel
    have HG := Lib.hid hgood
    clear hgood
    by_cases hlt : k < n''
    · obtain ⟨ad, rfl, hb, hl, hd⟩ := (H2.out.below hB).at_ (k := k) hlt
      have hk0 : (0 : Int) ≤ (k : Int) := by omega
      have hklt : (k : Int) < (n'' : Int) := by omega
      obtain ⟨wz, hwz⟩ : ∃ wz, wz = wr.alloc (.cells #[.int .i64 (Tr.l ms k), .int .i64 (Tr.d ms k)] 77) := ⟨_, rfl⟩
      have BZ := Lib.hid (show Below wr.heap.size wr wz by rw [hwz]; exact (Below.refl _ _).alloc (Nat.le_refl _) _)
      have HQ := Lib.hid (show Bx2 wz wr.heap.size (Tr.l ms k) (Tr.d ms k) by rw [hwz]; exact Bx2.made _ _ _ _)
      have HP := Lib.hid (hP.below BZ.out hP.lt)
      have HB := Lib.hid (hB.trans (BZ.out.mono hB.size))
      have HZ := Lib.hid hwz
      have HS := Lib.hid (show w.heap.size ≤ wz.heap.size from HB.out.size)
      clear hwz hP hB
      by_cases hla : Tr.l ms k < a
      · have g1 : decide (a ≤ Tr.l ms k) = false := decide_eq_false (by omega)
        by_cases hdb : Tr.d ms k < b
        · have g2 : decide (b ≤ Tr.d ms k) = false := decide_eq_false (by omega)
          obtain ⟨u1, hu1⟩ : ∃ u, u = Tr.under xs (Tr.l ms k) a := ⟨_, rfl⟩
          obtain ⟨u2, hu2⟩ : ∃ u, u = Tr.under ys (Tr.d ms k) b := ⟨_, rfl⟩
          have QU := Lib.hid (fun (wq : World) (hq : Below wz.heap.size wz wq) => show Calls Try.prog 92 #[.slice A n c, .int .i64 (Tr.l ms k), .int .i64 a] wq fun e w' => e = .returned (.bool u1) ∧ Below wq.heap.size wq w' from by rw [hu1]; exact implUnder_any _ _ _ xs _ _ _ (H.out.to_below (HB.out.trans (hq.mono HS.out))) hn hc)
          have QV := Lib.hid (fun (wq : World) (hq : Below wz.heap.size wz wq) => show Calls Try.prog 92 #[.slice A' n' c', .int .i64 (Tr.d ms k), .int .i64 b] wq fun e w' => e = .returned (.bool u2) ∧ Below wq.heap.size wq w' from by rw [hu2]; exact implUnder_any _ _ _ ys _ _ _ (H'.out.to_below (HB.out.trans (hq.mono HS.out))) hn' hc')
          have HU1 := Lib.hid hu1
          have HU2 := Lib.hid hu2
          clear hu1 hu2
          cases u1 with
          | false =>
            cases u2 with
            | false =>
              have HA := Lib.hid (Mp.at_yes hla hdb (by rw [← HU1.out, ← HU2.out]) : Mp.at xs ys ms a b k = true)
              as_aux_lemma =>
                go_wp2_with fail
                rw [← HZ.out]
                have S0 := Lib.hid (show (wz.drew.cell? ⟨wr.heap.size, 0, none⟩ = some (.int .i64 (Tr.l ms k)) ∧ wz.drew.cell? ⟨wr.heap.size, 1, none⟩ = some (.int .i64 (Tr.d ms k)) ∧ wz.drew.cell? ⟨w.heap.size, 0, none⟩ = some (.int .i64 (a)) ∧ wz.drew.cell? ⟨w.heap.size, 1, none⟩ = some (.int .i64 (b))) ∧ BelA wz wz.drew from ⟨⟨HQ.out.1, HQ.out.2, HP.out.1, HP.out.2⟩, (Drawn.refl _).drew.toBelow⟩)
                go_region_held3 (fun wq => (wq.cell? ⟨wr.heap.size, 0, none⟩ = some (.int .i64 (Tr.l ms k)) ∧ wq.cell? ⟨wr.heap.size, 1, none⟩ = some (.int .i64 (Tr.d ms k)) ∧ wq.cell? ⟨w.heap.size, 0, none⟩ = some (.int .i64 (a)) ∧ wq.cell? ⟨w.heap.size, 1, none⟩ = some (.int .i64 (b))) ∧ BelA wz wq) (first | (with_reducible exact SC) | (with_reducible exact S0.out)) (first | ((go_at_call 92; with_reducible refine (QU.out _ (px_below (by assumption))).mono ?_); rintro e w5 ⟨rfl, hb5⟩; have SC := px_keep (by assumption) hb5) | ((go_at_call 92; with_reducible refine (QV.out _ (px_below (by assumption))).mono ?_); rintro e w6 ⟨rfl, hb5⟩; have SC := px_keep (by assumption) hb5))
                have HE := Lib.hid (HB.out.trans ((px_below SC).mono HB.out.size))
                obtain ⟨⟨_, _, p0, p1⟩, _⟩ := id SC
                have HP := Lib.hid (show Bx2 w6 w.heap.size a b from ⟨p0, p1⟩)
                clear p0 p1
                go_wp2
                go_roundw
                case rel => exact ⟨k + 1, by omega, by go_num, fun q hq => by
                  rcases Nat.lt_succ_iff_lt_or_eq.1 hq with h' | rfl
                  · exact HG.out q h'
                  · exact HA.out, HE.out, HP.out⟩
                case measure => simp [intOf]; omega
            | true =>
              have hf := Lib.hid (Mp.after_no hlt (Mp.at_u (by rw [← HU1.out, ← HU2.out]; decide)) : Mp.after xs ys ms n'' a b = false)
              as_aux_lemma =>
                go_wp2_with fail
                rw [← HZ.out]
                have S0 := Lib.hid (show (wz.drew.cell? ⟨wr.heap.size, 0, none⟩ = some (.int .i64 (Tr.l ms k)) ∧ wz.drew.cell? ⟨wr.heap.size, 1, none⟩ = some (.int .i64 (Tr.d ms k)) ∧ wz.drew.cell? ⟨w.heap.size, 0, none⟩ = some (.int .i64 (a)) ∧ wz.drew.cell? ⟨w.heap.size, 1, none⟩ = some (.int .i64 (b))) ∧ BelA wz wz.drew from ⟨⟨HQ.out.1, HQ.out.2, HP.out.1, HP.out.2⟩, (Drawn.refl _).drew.toBelow⟩)
                go_region_held3 (fun wq => (wq.cell? ⟨wr.heap.size, 0, none⟩ = some (.int .i64 (Tr.l ms k)) ∧ wq.cell? ⟨wr.heap.size, 1, none⟩ = some (.int .i64 (Tr.d ms k)) ∧ wq.cell? ⟨w.heap.size, 0, none⟩ = some (.int .i64 (a)) ∧ wq.cell? ⟨w.heap.size, 1, none⟩ = some (.int .i64 (b))) ∧ BelA wz wq) (first | (with_reducible exact SC) | (with_reducible exact S0.out)) (first | ((go_at_call 92; with_reducible refine (QU.out _ (px_below (by assumption))).mono ?_); rintro e w5 ⟨rfl, hb5⟩; have SC := px_keep (by assumption) hb5) | ((go_at_call 92; with_reducible refine (QV.out _ (px_below (by assumption))).mono ?_); rintro e w6 ⟨rfl, hb5⟩; have SC := px_keep (by assumption) hb5))
                have HE := Lib.hid (HB.out.trans ((px_below SC).mono HB.out.size))
                obtain ⟨⟨_, _, p0, p1⟩, _⟩ := id SC
                go_wp2
                go_ret
                exact ⟨Kit.ret_bool hf.out.symm, HE.out⟩
          | true =>
            cases u2 with
            | false =>
              have hf := Lib.hid (Mp.after_no hlt (Mp.at_u (by rw [← HU1.out, ← HU2.out]; decide)) : Mp.after xs ys ms n'' a b = false)
              as_aux_lemma =>
                go_wp2_with fail
                rw [← HZ.out]
                have S0 := Lib.hid (show (wz.drew.cell? ⟨wr.heap.size, 0, none⟩ = some (.int .i64 (Tr.l ms k)) ∧ wz.drew.cell? ⟨wr.heap.size, 1, none⟩ = some (.int .i64 (Tr.d ms k)) ∧ wz.drew.cell? ⟨w.heap.size, 0, none⟩ = some (.int .i64 (a)) ∧ wz.drew.cell? ⟨w.heap.size, 1, none⟩ = some (.int .i64 (b))) ∧ BelA wz wz.drew from ⟨⟨HQ.out.1, HQ.out.2, HP.out.1, HP.out.2⟩, (Drawn.refl _).drew.toBelow⟩)
                go_region_held3 (fun wq => (wq.cell? ⟨wr.heap.size, 0, none⟩ = some (.int .i64 (Tr.l ms k)) ∧ wq.cell? ⟨wr.heap.size, 1, none⟩ = some (.int .i64 (Tr.d ms k)) ∧ wq.cell? ⟨w.heap.size, 0, none⟩ = some (.int .i64 (a)) ∧ wq.cell? ⟨w.heap.size, 1, none⟩ = some (.int .i64 (b))) ∧ BelA wz wq) (first | (with_reducible exact SC) | (with_reducible exact S0.out)) (first | ((go_at_call 92; with_reducible refine (QU.out _ (px_below (by assumption))).mono ?_); rintro e w5 ⟨rfl, hb5⟩; have SC := px_keep (by assumption) hb5) | ((go_at_call 92; with_reducible refine (QV.out _ (px_below (by assumption))).mono ?_); rintro e w6 ⟨rfl, hb5⟩; have SC := px_keep (by assumption) hb5))
                have HE := Lib.hid (HB.out.trans ((px_below SC).mono HB.out.size))
                obtain ⟨⟨_, _, p0, p1⟩, _⟩ := id SC
                go_wp2
                go_ret
                exact ⟨Kit.ret_bool hf.out.symm, HE.out⟩
            | true =>
              have HA := Lib.hid (Mp.at_yes hla hdb (by rw [← HU1.out, ← HU2.out]) : Mp.at xs ys ms a b k = true)
              as_aux_lemma =>
                go_wp2_with fail
                rw [← HZ.out]
                have S0 := Lib.hid (show (wz.drew.cell? ⟨wr.heap.size, 0, none⟩ = some (.int .i64 (Tr.l ms k)) ∧ wz.drew.cell? ⟨wr.heap.size, 1, none⟩ = some (.int .i64 (Tr.d ms k)) ∧ wz.drew.cell? ⟨w.heap.size, 0, none⟩ = some (.int .i64 (a)) ∧ wz.drew.cell? ⟨w.heap.size, 1, none⟩ = some (.int .i64 (b))) ∧ BelA wz wz.drew from ⟨⟨HQ.out.1, HQ.out.2, HP.out.1, HP.out.2⟩, (Drawn.refl _).drew.toBelow⟩)
                go_region_held3 (fun wq => (wq.cell? ⟨wr.heap.size, 0, none⟩ = some (.int .i64 (Tr.l ms k)) ∧ wq.cell? ⟨wr.heap.size, 1, none⟩ = some (.int .i64 (Tr.d ms k)) ∧ wq.cell? ⟨w.heap.size, 0, none⟩ = some (.int .i64 (a)) ∧ wq.cell? ⟨w.heap.size, 1, none⟩ = some (.int .i64 (b))) ∧ BelA wz wq) (first | (with_reducible exact SC) | (with_reducible exact S0.out)) (first | ((go_at_call 92; with_reducible refine (QU.out _ (px_below (by assumption))).mono ?_); rintro e w5 ⟨rfl, hb5⟩; have SC := px_keep (by assumption) hb5) | ((go_at_call 92; with_reducible refine (QV.out _ (px_below (by assumption))).mono ?_); rintro e w6 ⟨rfl, hb5⟩; have SC := px_keep (by assumption) hb5))
                have HE := Lib.hid (HB.out.trans ((px_below SC).mono HB.out.size))
                obtain ⟨⟨_, _, p0, p1⟩, _⟩ := id SC
                have HP := Lib.hid (show Bx2 w6 w.heap.size a b from ⟨p0, p1⟩)
                clear p0 p1
                go_wp2
                go_roundw
                case rel => exact ⟨k + 1, by omega, by go_num, fun q hq => by
                  rcases Nat.lt_succ_iff_lt_or_eq.1 hq with h' | rfl
                  · exact HG.out q h'
                  · exact HA.out, HE.out, HP.out⟩
                case measure => simp [intOf]; omega
        · have g2 : decide (b ≤ Tr.d ms k) = true := decide_eq_true (by omega)
          have hf := Lib.hid (Mp.after_no hlt (Mp.at_d hdb) : Mp.after xs ys ms n'' a b = false)
          as_aux_lemma =>
            go_wp2_with fail
            rw [← HZ.out]
            obtain ⟨q0, q1⟩ := HQ.out
            obtain ⟨p0, p1⟩ := HP.out
            go_quiet (fail)
            go_wp2
            go_ret
            exact ⟨Kit.ret_bool hf.out.symm, below_drawn_b HB.out _⟩
      · have g1 : decide (a ≤ Tr.l ms k) = true := decide_eq_true (by omega)
        have hf := Lib.hid (Mp.after_no hlt (Mp.at_l hla) : Mp.after xs ys ms n'' a b = false)
        as_aux_lemma =>
          go_wp2_with fail
          rw [← HZ.out]
          obtain ⟨q0, q1⟩ := HQ.out
          obtain ⟨p0, p1⟩ := HP.out
          go_quiet (fail)
          go_wp2
          go_ret
          exact ⟨Kit.ret_bool hf.out.symm, below_drawn_b HB.out _⟩
    · obtain rfl : k = n'' := by omega
      have hf := Lib.hid (Mp.after_iff.2 HG.out : Mp.after xs ys ms k a b = true)
      go_wp2
      go_ret
      exact ⟨Kit.ret_bool hf.out.symm, hB⟩

end Go.Proofs.Ytnfjdlocmdgefaa

/- Contracts (Ext). -/
namespace Go.Proofs.Ytnfjdlocmdgefaa
open Go.RowKit
set_option linter.unusedVariables false


theorem info_prX : (Try.prog.info? 77).map (fun i => (i.zero, i.size, i.bytes)) = some (some (.agg #[.int .i64 0, .int .i64 0]), 2, 16) := by kernel_rfl
theorem grown_of_below {w w' : World} (h : Below w.heap.size w w') (row : Option Nat) : w.grownBy w' row := ⟨h.os, h.tape, h.output, h.size, fun k hk _ => h.block k hk⟩
/-- the front of a row that was made longer in its place -/
theorem own_front {w : World} {base size n m g c : Nat} {e : TypeId} {xs ys : List Value} (h : w.ownsRow base e size (.slice (some ⟨g, 0, none⟩) (n + m) c) (n + m) (xs ++ ys)) (hx : xs.length = n * size) :
    w.ownsRow base e size (.slice (some ⟨g, 0, none⟩) n c) n xs := by
  rcases h.2 with ⟨h1, _⟩ | ⟨g', cap, cur, hv, hb, hg, hn, hm, hs, ht⟩
  · cases h1
  · cases hv
    refine ⟨hx, .inr ⟨g, c, cur, rfl, hb, hg, by omega, hm, hs, ?_⟩⟩
    have : (cur.toList.take ((n + m) * size)).take (n * size) = (xs ++ ys).take (n * size) := by rw [ht]
    rw [List.take_take, Nat.min_eq_left (Nat.mul_le_mul_right _ (by omega))] at this
    rw [this, ← hx, List.take_left]
/-- a row in a block that stays as it is -/
theorem own_stay {w w' : World} {base size n g c : Nat} {e : TypeId} {xs : List Value} (h : w.ownsRow base e size (.slice (some ⟨g, 0, none⟩) n c) n xs) (hg : w'.heap[g]? = w.heap[g]?) :
    w'.ownsRow base e size (.slice (some ⟨g, 0, none⟩) n c) n xs := by
  refine ⟨h.1, ?_⟩
  rcases h.2 with ⟨h1, _⟩ | ⟨g', cap, cur, hv, hb, hg', hr⟩
  · cases h1
  · cases hv
    exact .inr ⟨g, c, cur, rfl, hb, hg.trans hg', hr⟩
theorem own_lt {w : World} {base size n g c : Nat} {e : TypeId} {xs : List Value} (h : w.ownsRow base e size (.slice (some ⟨g, 0, none⟩) n c) n xs) : base ≤ g ∧ g < w.heap.size := by
  rcases h.2 with ⟨h1, _⟩ | ⟨g', cap, cur, hv, hb, hg', hr⟩
  · cases h1
  · cases hv
    exact ⟨hb, (Array.getElem?_eq_some_iff.1 hg').1⟩

set_option maxHeartbeats 800000 in
set_option maxRecDepth 100000 in
theorem clonePair_any (ad : Addr) (n c : Nat) (xs : Tr) (w : World) (h : NdIn w w.heap.size (some ad) n xs) (hn : n ≤ 1048576) :
    Calls Try.prog 86 #[.slice (some ad) n c] w (OwnNodes 77 xs w) := by
  have H := Lib.hid h
  clear h
  have HL := Lib.hid H.out.1
  obtain ⟨i0, hi, hz0, hz1, hz2⟩ := info_parts info_prX
  have hnil := fun W : World => Lib.run_eql_slice_nil (P := Try.prog) W
  go_enter Try.func86, Try.ntmps86
  go_wp2_with (at_builtin; refine wpList_append_own (World.alloc w (.cells #[] 77)) rfl _ _ 36 rfl w.heap.size 77 i0 (.agg #[.int .i64 0, .int .i64 0]) 2 16 Try.underlying36 hi hz0 hz1 hz2 rfl (by omega) (.slice (some ⟨w.heap.size, 0, none⟩) 0 0) 0 [] rfl (World.ownsRow_lit w #[] 0 (Nat.le_refl _) (Nat.zero_le _) rfl) ad n c (Tr.cells xs) rfl (by rw [Tr.cells_length, HL.out]) (NdIn.cells_at (H.out.to_below ((Below.refl _ _).alloc (Nat.le_refl _) _))) (Tr.cells_cell xs) (by unfold maxLen; omega) (by omega) (by simp) ?_; intro v' w1 hown1 hgrow1 hnil1)
  clear hnil1 hnil
  have hown2 : w1.ownsRow w.heap.size 77 2 v' n (Tr.cells xs) := by simpa using hown1
  obtain ⟨A', c', rfl⟩ := own_slice hown2
  have hb : Below w.heap.size w w1 := ((Below.refl w.heap.size w).alloc (Nat.le_refl _) _).grown hgrow1 (by simp) (fun k hk => by simp [Value.ownBlock] at hk; omega)
  go_ret
  exact ⟨A', c', by rw [HL.out]; rfl, by rw [HL.out]; exact hown2, hb⟩

/-- a guarded operation whose guard says yes is as one without a guard -/
theorem wpList_want {P : Program} {ops : Array Oper} {Q : Exit → Act → World → Prop} {a : Act} {w : World} {rest : List Oper} {o : Oper} (hw : Region.wanted o (yielded ops a.tmps) = true) (h : wpList P ops Q ({ o with guard := none } :: rest) a w) : wpList P ops Q (o :: rest) a w := by
  unfold wpList at h ⊢
  rw [if_pos hw]
  rw [if_pos (by simp [Region.wanted])] at h
  cases o
  exact h
theorem two_new (w : World) (a b : Int) (e : TypeId) : ∀ j u, (Tr.cells [(a, b)])[j]? = some u → (w.alloc (.cells #[.int .i64 a, .int .i64 b] e)).cell? ((⟨w.heap.size, 0, none⟩ : Addr).add j) = some u := by
  intro j u hj
  have hj2 : j < 2 := by
    have := (List.getElem?_eq_some_iff.1 hj).1
    simpa [Tr.cells] using this
  have : j = 0 ∨ j = 1 := by omega
  rcases this with rfl | rfl <;> (simp [Tr.cells] at hj; subst hj; simp [Addr.add])

attribute [local go_sem] Oper.semAt_some
/-- what a call of extend ends in -/
def Exd (J : List Tr → (Nat → Prop) → World → Prop) (n0 g cm : Nat) (pre : List Tr) (ms : Tr) (M : Nat → Prop) (W W' : World) : Prop :=
  J pre M W' ∧ (∀ q, M q → q ≠ g → W'.heap[q]? = W.heap[q]?) ∧ Below n0 W W' ∧ W'.ownsRow n0 77 2 (.slice (some ⟨g, 0, none⟩) ms.length cm) ms.length (Tr.cells ms)

set_option maxHeartbeats 800000 in
set_option maxRecDepth 100000 in
theorem extend_leaf {xs ys : Tr} {A A' : Option Addr} {n n' c c' n0 l : Nat} {all : List Tr} {J : List Tr → (Nat → Prop) → World → Prop} (hJ : Frees J) (hY : Yields Try.prog 77 n0 l all J)
    (g cm : Nat) (ms : Tr) (pre : List Tr) (M : Nat → Prop) (W : World) (hn : n ≤ 1048576) (hm : W.ownsRow n0 77 2 (.slice (some ⟨g, 0, none⟩) ms.length cm) ms.length (Tr.cells ms)) (hM : M g) (hI : InM n0 M W)
    (hj : J pre M W) (h1 : 1 ≤ ms.length) (h2 : ms.length ≤ 1048576) (hp : pre ++ [ms] <+: all) (hn0 : n0 ≤ W.heap.size) :
    Calls Try.prog 64 #[.slice A n c, .slice A' n' c', .slice (some ⟨g, 0, none⟩) ms.length cm, .int .i64 (n : Int), .func (.yield l) #[] #[]] W fun e W' => e = .returned (.bool true) ∧ Exd J n0 g cm (pre ++ [ms]) ms M W W' := by
  have HJ := Lib.hid hj
  have HP := Lib.hid hp
  have HM := Lib.hid hm
  have HI := Lib.hid hI
  have C0 := Lib.hid ((clonePair_any ⟨g, 0, none⟩ ms.length cm ms W (NdIn.of_own hm) h2).mono (R' := fun e w1 => ∃ b c2 fn tmps assign body, e = .returned (.slice (some ⟨b, 0, none⟩) ms.length c2) ∧
      (Instr.yield l #[.slice (some ⟨b, 0, none⟩) ms.length c2]).run Try.prog w1 = .ok (.round l fn tmps assign body) w1 ∧ RoundIn Fence.wide 0 Try.prog l fn tmps assign body w1 fun e W' => e = .returned (.bool true) ∧ Exd J n0 g cm (pre ++ [ms]) ms M W W') (by
    rintro e w1 ⟨A1, c1, rfl, ho, hb⟩
    obtain ⟨b, rfl, hb1, hb2⟩ := own_form ho (by omega)
    have hI1 : InM n0 M w1 := fun r e => ⟨(hI r e).1, Nat.lt_of_lt_of_le (hI r e).2 hb.size⟩
    obtain ⟨fn, tmps, assign, body, hy, hR⟩ := hY pre ms _ M w1 (hJ _ _ _ _ _ none hj (grown_of_below hb none) (fun r e => by cases e) (fun b e => .inl e)) hI1 hp ⟨b, c1, rfl, own_base ho hn0, fun e => by have := (hI b e).2; omega⟩
    refine ⟨b, c1, fn, tmps, assign, body, rfl, hy, hR.mono ?_⟩
    rintro e W3 ⟨he, hJ3, hk3, hB3⟩
    exact ⟨he, hJ3, fun q e _ => (hk3 q e).trans (hb.block q (hI q e).2), (hb.mono hn0).trans hB3, own_stay (own_below hm hb) (hk3 g hM)⟩))
  clear hj hp hm hI hY hJ
  refine (callsIn_wide (n := 1)).1 ?_
  refine callsIn_of_wp Try.func64 rfl trivial ?_ rfl
  simp only [Try.ntmps64, List.size_toArray, List.length_cons, List.length_nil, Nat.reduceAdd, Nat.reduceSub, Array.replicate_succ, Array.replicate_zero, List.push_toArray, List.append_toArray, List.nil_append, List.cons_append]
  gi_wp2_with (refine ⟨trivial, ?_⟩; gi_at_call 86; refine (callsIn_wide.2 C0.out).mono ?_; rintro e w1 ⟨b, c2, fn, tmps, assign, body, rfl, hy, hR⟩; have HR := Lib.hid hR; clear hR)
  refine HR.out.mono ?_
  rintro e W3 ⟨rfl, hx3⟩
  have HX := Lib.hid hx3
  clear hx3
  gi_wp2
  go_ret
  exact ⟨rfl, HX.out⟩

end Go.Proofs.Ytnfjdlocmdgefaa

/- Contracts (RwS). -/
namespace Go.Proofs.Ytnfjdlocmdgefaa
open Go.RowKit
set_option linter.unusedVariables false


/-- a row of rows of pairs: the outer row holds the inner rows' values, each inner row reads as one list -/
def RowsP (w : World) (base : Nat) (v : Value) (vs : List Value) (ms : List Tr) : Prop :=
  w.ownsRow base 36 1 v vs.length vs ∧ vs.length = ms.length ∧ ∀ i, i < ms.length → w.ownsRow base 77 2 (vs.getD i undef) (ms.getD i []).length (Tr.cells (ms.getD i []))
section
variable {w w' : World} {base base' b n size : Nat} {e : TypeId} {v v' u : Value} {vs vs' xs : List Value} {ms ms' : List Tr} {row : Option Nat}
theorem own_other (h : w.ownsRow base e size u n xs) (hg : w.grownBy w' row) (hne : u.ownBlock = none ∨ u.ownBlock ≠ row) : w'.ownsRow base e size u n xs := by
  refine ⟨h.1, ?_⟩
  rcases h.2 with h1 | ⟨g, cap, cur, hv, hb, hg', hr⟩
  · exact .inl h1
  · subst hv
    refine .inr ⟨g, cap, cur, rfl, hb, (hg.block g (Array.getElem?_eq_some_iff.1 hg').1 ?_).trans hg', hr⟩
    rcases hne with h | h
    · cases h
    · exact h
theorem own_ne {b1 b2 n1 n2 s1 s2 : Nat} {e1 e2 : TypeId} {v1 v2 : Value} {x1 x2 : List Value} (h1 : w.ownsRow b1 e1 s1 v1 n1 x1) (h2 : w.ownsRow b2 e2 s2 v2 n2 x2) (he : e1 ≠ e2) : v1.ownBlock = none ∨ v1.ownBlock ≠ v2.ownBlock := by
  rcases h1.2 with ⟨rfl, _⟩ | ⟨g, cap, cur, rfl, _, hg, _⟩
  · exact .inl rfl
  · refine .inr fun e => ?_
    rcases h2.2 with ⟨rfl, _⟩ | ⟨g', cap', cur', rfl, _, hg', _⟩
    · cases e
    · simp only [Value.ownBlock, Option.some.injEq] at e
      subst e
      rw [hg] at hg'
      simp only [Option.some.injEq, Obj.cells.injEq] at hg'
      exact he hg'.2.1
theorem own_one (h : w.ownsRow base e size u n xs) : u.oneCell' = true := by
  obtain ⟨A, c, rfl⟩ := own_slice h
  rfl
theorem RowsP.below (h : RowsP w base v vs ms) (hb : Below w.heap.size w w') : RowsP w' base v vs ms := ⟨own_below h.1 hb, h.2.1, fun i hi => own_below (h.2.2 i hi) hb⟩
theorem RowsP.lower (h : RowsP w base v vs ms) (hb : base' ≤ base) : RowsP w base' v vs ms := ⟨own_base h.1 hb, h.2.1, fun i hi => own_base (h.2.2 i hi) hb⟩
theorem RowsP.ones (h : RowsP w base v vs ms) : ∀ u ∈ vs, u.oneCell' = true := fun u hu => by
  obtain ⟨i, hi, rfl⟩ := List.getElem_of_mem hu
  have := own_one (h.2.2 i (by rw [← h.2.1]; exact hi))
  rwa [List.getD_eq_getElem?_getD, List.getElem?_eq_getElem hi] at this
/-- one row -/
theorem RowsP.one {m : Tr} (hb : base ≤ w.heap.size) (h : w.ownsRow base 77 2 u m.length (Tr.cells m)) : RowsP (w.alloc (.cells #[u] 36)) base (.slice (some ⟨w.heap.size, 0, none⟩) 1 1) [u] [m] :=
  ⟨World.ownsRow_lit w #[u] 1 hb (by decide) rfl, rfl, fun i hi => by
    obtain rfl : i = 0 := by simpa using hi
    exact h.alloc _⟩
theorem pr_ne : 77 ≠ 36 := by decide
/-- the rows behind an append of the outer row -/
theorem RowsP.append (h : RowsP w base v vs ms) (h' : RowsP w base v' vs' ms') (hg : w.grownBy w' v.ownBlock) {v3 : Value} (ho : w'.ownsRow base 36 1 v3 (vs.length + vs'.length) (vs ++ vs')) : RowsP w' base v3 (vs ++ vs') (ms ++ ms') := by
  refine ⟨by rw [List.length_append]; exact ho, by rw [List.length_append, List.length_append, h.2.1, h'.2.1], fun i hi => ?_⟩
  by_cases hlt : i < ms.length
  · have hv : (vs ++ vs').getD i undef = vs.getD i undef := by simp [List.getD_eq_getElem?_getD, List.getElem?_append_left (show i < vs.length by rw [h.2.1]; exact hlt)]
    have hm : (ms ++ ms').getD i [] = ms.getD i [] := by simp [List.getD_eq_getElem?_getD, List.getElem?_append_left hlt]
    rw [hv, hm]
    exact own_other (h.2.2 i hlt) hg (own_ne (h.2.2 i hlt) h.1 pr_ne)
  · rw [List.length_append] at hi
    have hv : (vs ++ vs').getD i undef = vs'.getD (i - ms.length) undef := by rw [List.getD_eq_getElem?_getD, List.getElem?_append_right (show vs.length ≤ i by rw [h.2.1]; omega), ← List.getD_eq_getElem?_getD, h.2.1]
    have hm : (ms ++ ms').getD i [] = ms'.getD (i - ms.length) [] := by rw [List.getD_eq_getElem?_getD, List.getElem?_append_right (by omega), ← List.getD_eq_getElem?_getD]
    rw [hv, hm]
    have h1 := h'.2.2 (i - ms.length) (by omega)
    exact own_other h1 hg (own_ne h1 h.1 pr_ne)
end

end Go.Proofs.Ytnfjdlocmdgefaa

/- Contracts (Fst). -/
namespace Go.Proofs.Ytnfjdlocmdgefaa
open Go.RowKit
set_option linter.unusedVariables false

/-! Ordered forests and their edit distance, as plain mathematics. -/
/-- a forest: the trees ahead, the last tree's root, the trees under it -/
inductive Fst where
  | nil : Fst
  | snoc : Fst → Int → Fst → Fst
def Fst.size : Fst → Nat
  | .nil => 0
  | .snoc l _ s => l.size + s.size + 1
def Fst.cat (f : Fst) : Fst → Fst
  | .nil => f
  | .snoc l a s => .snoc (f.cat l) a s
theorem Fst.nil_cat (f : Fst) : Fst.nil.cat f = f := by
  induction f with
  | nil => rfl
  | snoc l a s ih _ => rw [Fst.cat, ih]
theorem Fst.cat_assoc (f g h : Fst) : (f.cat g).cat h = f.cat (g.cat h) := by
  induction h with
  | nil => rfl
  | snoc l a s ih _ => rw [Fst.cat, Fst.cat, Fst.cat, ih]
theorem Fst.size_cat (f g : Fst) : (f.cat g).size = f.size + g.size := by
  induction g with
  | nil => rfl
  | snoc l a s ih _ => simp only [Fst.cat, Fst.size, ih]; omega
/-- costs as functions of labels -/
structure Cs where
  del : Int → Int
  ins : Int → Int
  rel : Int → Int → Int
def Cs.swap (K : Cs) : Cs := ⟨K.ins, K.del, fun a b => K.rel b a⟩
/-- the least cost of turning one forest into another -/
def FD (K : Cs) : Fst → Fst → Int
  | .nil, .nil => 0
  | .snoc l a s, .nil => FD K (l.cat s) .nil + K.del a
  | .nil, .snoc m b t => FD K .nil (m.cat t) + K.ins b
  | .snoc l a s, .snoc m b t => min (min (FD K (l.cat s) (.snoc m b t) + K.del a) (FD K (.snoc l a s) (m.cat t) + K.ins b)) (FD K l m + FD K s t + K.rel a b)
termination_by f g => f.size + g.size
decreasing_by all_goals (simp only [Fst.size, Fst.size_cat]; omega)
section
variable (K : Cs)
theorem FD_nn : FD K .nil .nil = 0 := by rw [FD]
theorem FD_sn (l s : Fst) (a : Int) : FD K (.snoc l a s) .nil = FD K (l.cat s) .nil + K.del a := by rw [FD]
theorem FD_ns (m t : Fst) (b : Int) : FD K .nil (.snoc m b t) = FD K .nil (m.cat t) + K.ins b := by rw [FD]
theorem FD_ss (l s m t : Fst) (a b : Int) : FD K (.snoc l a s) (.snoc m b t) = min (min (FD K (l.cat s) (.snoc m b t) + K.del a) (FD K (.snoc l a s) (m.cat t) + K.ins b)) (FD K l m + FD K s t + K.rel a b) := by rw [FD]
theorem FD_del (l s g : Fst) (a : Int) : FD K (.snoc l a s) g ≤ FD K (l.cat s) g + K.del a := by
  cases g with
  | nil => rw [FD_sn]; exact Int.le_refl _
  | snoc m b t => rw [FD_ss]; omega
theorem FD_ins (f m t : Fst) (b : Int) : FD K f (.snoc m b t) ≤ FD K f (m.cat t) + K.ins b := by
  cases f with
  | nil => rw [FD_ns]; exact Int.le_refl _
  | snoc l a s => rw [FD_ss]; omega
theorem FD_match (l s m t : Fst) (a b : Int) : FD K (.snoc l a s) (.snoc m b t) ≤ FD K l m + FD K s t + K.rel a b := by rw [FD_ss]; omega
/-- which of the three is met -/
theorem FD_cases (l s m t : Fst) (a b : Int) : FD K (.snoc l a s) (.snoc m b t) = FD K (l.cat s) (.snoc m b t) + K.del a ∨ FD K (.snoc l a s) (.snoc m b t) = FD K (.snoc l a s) (m.cat t) + K.ins b ∨ FD K (.snoc l a s) (.snoc m b t) = FD K l m + FD K s t + K.rel a b := by
  rw [FD_ss]; omega
/-- forests side by side -/
theorem FD_cat : ∀ (n : Nat) (A B C D : Fst), B.size + D.size = n → FD K (A.cat B) (C.cat D) ≤ FD K A C + FD K B D := by
  intro n
  induction n using Nat.strongRecOn with
  | ind n ih =>
    intro A B C D hn
    cases B with
    | nil =>
      cases D with
      | nil => rw [FD_nn]; simp only [Fst.cat]; omega
      | snoc m b t =>
        have h := ih (Fst.nil.size + (m.cat t).size) (by simp only [Fst.size, Fst.size_cat] at hn ⊢; omega) A .nil C (m.cat t) rfl
        have h2 := FD_ins K A (C.cat m) t b
        rw [Fst.cat_assoc] at h2
        rw [FD_ns]
        simp only [Fst.cat] at h ⊢
        omega
    | snoc l a s =>
      cases D with
      | nil =>
        have h := ih ((l.cat s).size + Fst.nil.size) (by simp only [Fst.size, Fst.size_cat] at hn ⊢; omega) A (l.cat s) C .nil rfl
        have h2 := FD_del K (A.cat l) s C a
        rw [Fst.cat_assoc] at h2
        rw [FD_sn]
        simp only [Fst.cat] at h ⊢
        omega
      | snoc m b t =>
        rcases FD_cases K l s m t a b with e | e | e
        · have h := ih ((l.cat s).size + (Fst.snoc m b t).size) (by simp only [Fst.size, Fst.size_cat] at hn ⊢; omega) A (l.cat s) C (.snoc m b t) rfl
          have h2 := FD_del K (A.cat l) s (C.cat (.snoc m b t)) a
          rw [Fst.cat_assoc] at h2
          rw [e]
          simp only [Fst.cat] at h h2 ⊢
          omega
        · have h := ih ((Fst.snoc l a s).size + (m.cat t).size) (by simp only [Fst.size, Fst.size_cat] at hn ⊢; omega) A (.snoc l a s) C (m.cat t) rfl
          have h2 := FD_ins K (A.cat (.snoc l a s)) (C.cat m) t b
          rw [Fst.cat_assoc] at h2
          rw [e]
          simp only [Fst.cat] at h h2 ⊢
          omega
        · have h := ih (l.size + m.size) (by simp only [Fst.size] at hn ⊢; omega) A l C m rfl
          have h2 := FD_match K (A.cat l) s (C.cat m) t a b
          rw [e]
          simp only [Fst.cat]
          omega
/-- the last tree alone -/
def Fst.one (a : Int) (s : Fst) : Fst := .snoc .nil a s
theorem Fst.cat_one (l : Fst) (a : Int) (s : Fst) : l.cat (.one a s) = .snoc l a s := rfl
/-- the third way by the last trees' own distance -/
theorem FD_trees (l s m t : Fst) (a b : Int) : FD K (.snoc l a s) (.snoc m b t) = min (min (FD K (l.cat s) (.snoc m b t) + K.del a) (FD K (.snoc l a s) (m.cat t) + K.ins b)) (FD K l m + FD K (.one a s) (.one b t)) := by
  have h1 := FD_cat K _ l (.one a s) m (.one b t) rfl
  have h2 := FD_match K .nil s .nil t a b
  rw [Fst.cat_one, Fst.cat_one] at h1
  rw [FD_nn] at h2
  rw [FD_ss] at h1 ⊢
  unfold Fst.one at h1 ⊢
  omega
/-- costs that stand n times as high -/
def Cs.times (K : Cs) (n : Int) : Cs := ⟨fun a => n * K.del a, fun a => n * K.ins a, fun a b => n * K.rel a b⟩
end
end Go.Proofs.Ytnfjdlocmdgefaa

/- Contracts (Fr). -/
namespace Go.Proofs.Ytnfjdlocmdgefaa
open Go.RowKit
set_option linter.unusedVariables false

/-! A row of places in postorder as a forest: la p the place of the first leaf under p, x p its label. -/
def fr (la : Nat → Nat) (x : Nat → Int) (i j : Nat) : Fst :=
  if j ≤ i then .nil else .snoc (fr la x i (min (j - 1) (max i (la (j - 1))))) (x (j - 1)) (fr la x (min (j - 1) (max i (la (j - 1)))) (j - 1))
termination_by j - i
decreasing_by all_goals omega
/-- first leaves of the first n places: each stands no later than its node, and all that lies between belongs to the node -/
def Nest (la : Nat → Nat) (n : Nat) : Prop := ∀ p, p < n → la p ≤ p ∧ ∀ q, la p ≤ q → q < p → la p ≤ la q
theorem fr_nil {la : Nat → Nat} {x : Nat → Int} {i j : Nat} (h : j ≤ i) : fr la x i j = .nil := by rw [fr, if_pos h]
section
variable {la : Nat → Nat} {x : Nat → Int} {n : Nat} (hN : Nest la n)
include hN
theorem fr_succ {i j : Nat} (h : i ≤ j) (hj : j < n) : fr la x i (j + 1) = .snoc (fr la x i (max i (la j))) (x j) (fr la x (max i (la j)) j) := by
  have h1 := (hN j hj).1
  rw [fr, if_neg (by omega)]
  simp only [Nat.add_sub_cancel]
  rw [show min j (max i (la j)) = max i (la j) by omega]
/-- a row parted where no node's subtree is cut -/
theorem fr_cat {i p : Nat} (hip : i ≤ p) : ∀ (m j : Nat), j - p = m → p ≤ j → j ≤ n → (∀ q, p ≤ q → q < j → p ≤ la q) → fr la x i j = (fr la x i p).cat (fr la x p j) := by
  intro m
  induction m using Nat.strongRecOn with
  | ind m ih =>
    intro j hm hpj hj hall
    by_cases e : j = p
    · subst e; rw [fr_nil (i := j) (Nat.le_refl _)]; rfl
    · obtain ⟨j, rfl⟩ : ∃ k, j = k + 1 := ⟨j - 1, by omega⟩
      have h1 := (hN j (by omega)).1
      have h2 := hall j (by omega) (by omega)
      rw [fr_succ hN (i := i) (by omega) (by omega), fr_succ hN (i := p) (by omega) (by omega), Fst.cat]
      rw [show max i (la j) = la j by omega, show max p (la j) = la j by omega]
      rw [ih _ (by omega) (la j) rfl (by omega) (by omega) (fun q a b => hall q a (by omega))]
/-- the last root taken out -/
theorem fr_open {i j : Nat} (h : i ≤ j) (hj : j < n) : (fr la x i (max i (la j))).cat (fr la x (max i (la j)) j) = fr la x i j := by
  have h1 := hN j hj
  by_cases e : la j ≤ i
  · rw [show max i (la j) = i by omega, fr_nil (j := i) (Nat.le_refl _), Fst.nil_cat]
  · rw [show max i (la j) = la j by omega]
    exact (fr_cat hN (by omega) _ j rfl h1.1 (by omega) h1.2).symm
/-- a whole subtree -/
theorem fr_tree {p : Nat} (hp : p < n) : fr la x (la p) (p + 1) = .one (x p) (fr la x (la p) p) := by
  rw [fr_succ hN (hN p hp).1 hp, Nat.max_self, fr_nil (Nat.le_refl _)]
  rfl
end
/-- the distance of two rows of places -/
def RD (K : Cs) (la lb : Nat → Nat) (x y : Nat → Int) (i j k m : Nat) : Int := FD K (fr la x i j) (fr lb y k m)
/-- .. of two subtrees -/
def TD (K : Cs) (la lb : Nat → Nat) (x y : Nat → Int) (p q : Nat) : Int := RD K la lb x y (la p) (p + 1) (lb q) (q + 1)
section
variable {K : Cs} {la lb : Nat → Nat} {x y : Nat → Int} {n m : Nat}
theorem RD_none {i j k l : Nat} (h1 : j ≤ i) (h2 : l ≤ k) : RD K la lb x y i j k l = 0 := by unfold RD; rw [fr_nil h1, fr_nil h2, FD_nn]
theorem RD_left (hN : Nest la n) {i j k l : Nat} (h1 : i ≤ j) (hj : j < n) (h2 : l ≤ k) : RD K la lb x y i (j + 1) k l = RD K la lb x y i j k l + K.del (x j) := by
  unfold RD; rw [fr_nil h2, fr_succ hN h1 hj, FD_sn, fr_open hN h1 hj]
theorem RD_right (hM : Nest lb m) {i j k l : Nat} (h1 : j ≤ i) (h2 : k ≤ l) (hl : l < m) : RD K la lb x y i j k (l + 1) = RD K la lb x y i j k l + K.ins (y l) := by
  unfold RD; rw [fr_nil h1, fr_succ hM h2 hl, FD_ns, fr_open hM h2 hl]
theorem RD_both (hN : Nest la n) (hM : Nest lb m) {i j k l : Nat} (h1 : i ≤ j) (hj : j < n) (h2 : k ≤ l) (hl : l < m) :
    RD K la lb x y i (j + 1) k (l + 1) = min (min (RD K la lb x y i j k (l + 1) + K.del (x j)) (RD K la lb x y i (j + 1) k l + K.ins (y l)))
      (RD K la lb x y i (max i (la j)) k (max k (lb l)) + RD K la lb x y (max i (la j)) j (max k (lb l)) l + K.rel (x j) (y l)) := by
  unfold RD
  rw [fr_succ hN h1 hj, fr_succ hM h2 hl, FD_ss, fr_open hN h1 hj, fr_open hM h2 hl]
/-- by way of the subtrees' distance -/
theorem RD_trees (hN : Nest la n) (hM : Nest lb m) {i j k l : Nat} (h1 : i ≤ la j) (hj : j < n) (h2 : k ≤ lb l) (hl : l < m) :
    RD K la lb x y i (j + 1) k (l + 1) = min (min (RD K la lb x y i j k (l + 1) + K.del (x j)) (RD K la lb x y i (j + 1) k l + K.ins (y l)))
      (RD K la lb x y i (la j) k (lb l) + TD K la lb x y j l) := by
  have a := (hN j hj).1
  have b := (hM l hl).1
  unfold TD RD
  rw [fr_tree hN hj, fr_tree hM hl, fr_succ hN (i := i) (by omega) hj, fr_succ hM (i := k) (by omega) hl, FD_trees, fr_open hN (by omega) hj, fr_open hM (by omega) hl, show max i (la j) = la j by omega, show max k (lb l) = lb l by omega]
/-- of two subtrees, rows that begin at their first leaves -/
theorem TD_rec (hN : Nest la n) (hM : Nest lb m) {j l : Nat} (hj : j < n) (hl : l < m) :
    TD K la lb x y j l = min (min (RD K la lb x y (la j) j (lb l) (l + 1) + K.del (x j)) (RD K la lb x y (la j) (j + 1) (lb l) l + K.ins (y l)))
      (RD K la lb x y (la j) j (lb l) l + K.rel (x j) (y l)) := by
  unfold TD
  rw [RD_both hN hM (hN j hj).1 hj (hM l hl).1 hl, Nat.max_self, Nat.max_self, RD_none (Nat.le_refl _) (Nat.le_refl _)]
  omega
end

end Go.Proofs.Ytnfjdlocmdgefaa

/- Contracts (KinP). -/
namespace Go.Proofs.Ytnfjdlocmdgefaa
open Go.RowKit
set_option linter.unusedVariables false

/-! mathematics of the laws on kin -/
/-- the five ways in which two nodes stand to one another -/
def Tr.ways (xs : Tr) (i j : Nat) : List Bool := [decide ((i : Int) = j), Tr.under xs i j, Tr.under xs j i, Tr.leftOf xs i j, Tr.leftOf xs j i]
def Bs.count (bs : List Bool) (k : Nat) : Nat := (bs.take k).countP id
section
variable {xs : Tr} (hok : Tr.ok xs = true)
include hok
end

end Go.Proofs.Ytnfjdlocmdgefaa

/- Contracts (IdxP). -/
namespace Go.Proofs.Ytnfjdlocmdgefaa
open Go.RowKit
set_option linter.unusedVariables false

theorem Zs.last_iff (F : List Nat) (k m : Nat) : Zs.lastTo F k m = true ↔ ∀ j, j < m → k < j → F.getD j 0 ≠ F.getD k 0 := by
  simp only [Zs.lastTo, List.all_eq_true, List.mem_range, Bool.or_eq_true, decide_eq_true_eq]
  constructor
  · intro h j h1 h2
    rcases h j h1 with q | q
    · omega
    · exact q
  · intro h j h1
    by_cases q : j ≤ k
    · exact .inl q
    · exact .inr (h j h1 (by omega))
section
variable {xs : Tr} (hok : Tr.ok xs = true)
include hok
theorem Tr.krs_last : ∃ r, Tr.krs xs = r ++ [xs.length - 1] := by
  have hlen : (Tr.lfs xs).length = xs.length := by rw [Tr.lfs_length, Tr.post_length hok]
  have h1 := (Tr.ok_iff.1 hok).2
  refine ⟨Tr.krTo xs (xs.length - 1), ?_⟩
  unfold Tr.krs
  have := Tr.krTo_succ xs (xs.length - 1)
  rw [show xs.length - 1 + 1 = xs.length by omega, hlen] at this
  rw [hlen, this, if_pos ((Zs.last_iff _ _ _).2 fun j h2 h3 => by omega)]
end
theorem Tr.krs_rise {xs : Tr} {a b : Nat} (hab : a < b) (hb : b < (Tr.krs xs).length) : (Tr.krs xs)[a] < (Tr.krs xs)[b] := by
  have hpw : List.Pairwise (· < ·) (Tr.krs xs) := by unfold Tr.krs Tr.krTo; exact List.pairwise_lt_range.filter _
  exact List.pairwise_iff_getElem.1 hpw a b (by omega) hb hab

end Go.Proofs.Ytnfjdlocmdgefaa

/- Contracts (FrT). -/
namespace Go.Proofs.Ytnfjdlocmdgefaa
open Go.RowKit
set_option linter.unusedVariables false

/-! The first leaves of a right tree nest; its key roots. -/
def Tr.la (xs : Tr) (p : Nat) : Nat := (Tr.lfs xs).getD p 0
def Tr.lab (xs : Tr) : List Int := (Tr.post xs).map fun i => Tr.l xs i
def Tr.xa (xs : Tr) (p : Nat) : Int := (Tr.lab xs).getD p 0
section
variable {xs : Tr} (hok : Tr.ok xs = true)
include hok
theorem Tr.la_at {p : Nat} (hp : p < xs.length) : ∃ i, i < xs.length ∧ Tr.rk xs i = p ∧ Tr.la xs p = i - Tr.dn xs i ∧ Tr.xa xs p = Tr.l xs i ∧ (Tr.post xs)[p]? = some i := by
  obtain ⟨i, h1, h2, h3⟩ := Tr.post_get hok hp
  refine ⟨i, h1, h3, ?_, ?_, h2⟩
  · unfold Tr.la Tr.lfs
    rw [List.getD_eq_getElem?_getD, List.getElem?_map, h2]
    rfl
  · unfold Tr.xa Tr.lab
    rw [List.getD_eq_getElem?_getD, List.getElem?_map, h2]
    rfl
theorem Tr.la_nest : Nest (Tr.la xs) xs.length := by
  intro p hp
  obtain ⟨i, h1, h2, h3, _⟩ := Tr.la_at hok hp
  have a := Tr.endN_dn hok h1
  have b := Tr.dn_le hok h1
  have e : Tr.rk xs i = Tr.endN xs i - 1 - Tr.dn xs i := rfl
  refine ⟨by rw [h3, ← h2, e]; omega, fun q hq hqp => ?_⟩
  obtain ⟨j, k1, k2, k3, _⟩ := Tr.la_at hok (p := q) (by omega)
  rw [h3] at hq
  rw [h3, k3]
  have c := Tr.endN_dn hok k1
  have d := Tr.dn_le hok k1
  have e2 : Tr.rk xs j = Tr.endN xs j - 1 - Tr.dn xs j := rfl
  have hij : i < j := by
    rcases Nat.lt_trichotomy i j with h | h | h
    · exact h
    · subst h; omega
    · by_cases hu : i < Tr.endN xs j
      · have := Tr.rk_under hok k1 h hu
        omega
      · have h5 := Tr.gap_mono hok (i := Tr.endN xs j) (j := i) (by omega) h1
        rcases c.2.2.2 with h6 | ⟨h6, h7⟩
        · omega
        · omega
  have := Tr.gap_mono hok (i := i) (j := j) (by omega) k1
  omega
/-- the last place of the whole tree -/
theorem Tr.la_last : Tr.la xs (xs.length - 1) = 0 := by
  have h1 := (Tr.ok_iff.1 hok).2
  obtain ⟨i, a, b, c, _⟩ := Tr.la_at hok (p := xs.length - 1) (by omega)
  have h0 := Tr.rk_inj hok (i := 0) (j := i) (by omega) a (by
    rw [b]
    unfold Tr.rk
    rw [Tr.endN_zero hok, Tr.dn_zero hok]
    omega)
  rw [c, ← h0]
  omega
/-- each place has its key root: the last one with the same first leaf -/
theorem Tr.kr_ex {p : Nat} (hp : p < xs.length) : ∃ q, q ∈ Tr.krs xs ∧ p ≤ q ∧ q < xs.length ∧ Tr.la xs q = Tr.la xs p := by
  have hlen : (Tr.lfs xs).length = xs.length := by rw [Tr.lfs_length, Tr.post_length hok]
  have key : ∀ r p, xs.length - p = r → p < xs.length → ∃ q, p ≤ q ∧ q < xs.length ∧ Zs.lastTo (Tr.lfs xs) q xs.length = true ∧ Tr.la xs q = Tr.la xs p := by
    intro r
    induction r using Nat.strongRecOn with
    | ind r ih =>
      intro p hr hp
      by_cases h : Zs.lastTo (Tr.lfs xs) p xs.length = true
      · exact ⟨p, Nat.le_refl _, hp, h, rfl⟩
      · have h2 : ∃ j, j < xs.length ∧ p < j ∧ (Tr.lfs xs).getD j 0 = (Tr.lfs xs).getD p 0 := by
          refine Classical.byContradiction fun hn => h ((Zs.last_iff _ p _).2 fun j h1 h3 e => hn ⟨j, h1, h3, e⟩)
        obtain ⟨j, h3, h4, h5⟩ := h2
        obtain ⟨q, q1, q2, q3, q4⟩ := ih (xs.length - j) (by omega) j rfl h3
        exact ⟨q, by omega, q2, q3, q4.trans h5⟩
  obtain ⟨q, h1, h2, h3, h4⟩ := key _ p rfl hp
  refine ⟨q, ?_, h1, h2, h4⟩
  unfold Tr.krs Tr.krTo
  rw [hlen]
  simp [h2, h3]
theorem Tr.kr_last {q j : Nat} (hq : q ∈ Tr.krs xs) (hj : j < xs.length) (hqj : q < j) : Tr.la xs j ≠ Tr.la xs q := by
  have hlen : (Tr.lfs xs).length = xs.length := by rw [Tr.lfs_length, Tr.post_length hok]
  unfold Tr.krs Tr.krTo at hq
  rw [hlen] at hq
  simp only [List.mem_filter, List.mem_range] at hq
  exact (Zs.last_iff _ _ _).1 hq.2 j hj hqj
/-- of a place under key root i that begins later, the key root stands ahead of i -/
theorem Tr.kr_under {i p q : Nat} (hi : i < xs.length) (hp1 : Tr.la xs i ≤ p) (hp2 : p ≤ i) (hla : Tr.la xs p ≠ Tr.la xs i) (hq : q < xs.length) (hqp : p ≤ q) (hql : Tr.la xs q = Tr.la xs p) : q < i := by
  have hN := Tr.la_nest hok
  have h1 : Tr.la xs i ≤ Tr.la xs p := by
    rcases Nat.lt_or_ge p i with h | h
    · exact (hN i hi).2 p hp1 h
    · have : p = i := by omega
      subst this; exact absurd rfl hla
  rcases Nat.lt_trichotomy q i with h | h | h
  · exact h
  · subst h; omega
  · have h2 := (hN q hq).2 i (by have := (hN p (by omega)).1; omega) h
    omega
end

end Go.Proofs.Ytnfjdlocmdgefaa

/- Contracts (Co). -/
namespace Go.Proofs.Ytnfjdlocmdgefaa
open Go.RowKit
set_option linter.unusedVariables false

/-! Costs: three rows of numbers. -/
structure Co where
  d : List Int
  i : List Int
  r : List Int
def Zs.fit (zs : List Int) (n : Nat) : Bool := zs.all (fun z => decide (0 ≤ z ∧ z ≤ 1000)) && decide (zs.length = n)
def Co.diag (k : Co) : Bool := (List.range 6).all fun a => decide (k.r.getD (a * 6 + a) 0 = 0)
def Co.ok (k : Co) : Bool := Zs.fit k.d 6 && Zs.fit k.i 6 && Zs.fit k.r 36 && Co.diag k
theorem Zs.fit_iff {zs : List Int} {n : Nat} : Zs.fit zs n = true ↔ zs.length = n ∧ ∀ k, k < zs.length → 0 ≤ Zs.at zs k ∧ Zs.at zs k ≤ 1000 := by
  simp only [Zs.fit, Bool.and_eq_true, List.all_eq_true, decide_eq_true_eq]
  constructor
  · rintro ⟨h, e⟩
    refine ⟨e, fun k hk => ?_⟩
    have := h (zs[k]) (List.getElem_mem hk)
    simpa [Zs.at, List.getD_eq_getElem?_getD, hk] using this
  · rintro ⟨e, h⟩
    refine ⟨fun z hz => ?_, e⟩
    obtain ⟨k, hk, rfl⟩ := List.getElem_of_mem hz
    have := h k hk
    simpa [Zs.at, List.getD_eq_getElem?_getD, hk] using this
/-- the first k numbers stand within bounds -/
def Zs.inTo (zs : List Int) (k : Nat) : Prop := ∀ j, j < k → 0 ≤ Zs.at zs j ∧ Zs.at zs j ≤ 1000
theorem Zs.fit_not {zs : List Int} {k n : Nat} (hk : k < zs.length) (h : ¬ (0 ≤ Zs.at zs k ∧ Zs.at zs k ≤ 1000)) : Zs.fit zs n = false := by
  rw [Bool.eq_false_iff]
  exact fun e => h ((Zs.fit_iff.1 e).2 k hk)
theorem Zs.fit_all {zs : List Int} {n : Nat} (h : Zs.inTo zs zs.length) : Zs.fit zs n = decide (zs.length = n) := by
  rw [Bool.eq_iff_iff, Zs.fit_iff]
  simp only [decide_eq_true_eq]
  exact ⟨fun e => e.1, fun e => ⟨e, h⟩⟩
def Co.del (k : Co) (a : Int) : Int := if Co.ok k && Lab.ok a then Zs.at k.d a.toNat else 0
def Co.ins (k : Co) (a : Int) : Int := if Co.ok k && Lab.ok a then Zs.at k.i a.toNat else 0
def Co.rel (k : Co) (a b : Int) : Int := if Co.ok k && Lab.ok a && Lab.ok b then Zs.at k.r (a * 6 + b).toNat else 0
theorem Co.ok_iff {k : Co} : Co.ok k = true ↔ Zs.fit k.d 6 = true ∧ Zs.fit k.i 6 = true ∧ Zs.fit k.r 36 = true ∧ Co.diag k = true := by
  simp only [Co.ok, Bool.and_eq_true, and_assoc]
/-- the three slices of a cost read as k -/
def CoIn (w : World) (B : Nat) (A0 A1 A2 : Option Addr) (n0 n1 n2 : Nat) (k : Co) : Prop := IntIn w B A0 n0 k.d ∧ IntIn w B A1 n1 k.i ∧ IntIn w B A2 n2 k.r
section
variable {w w' : World} {B : Nat} {A0 A1 A2 : Option Addr} {n0 n1 n2 : Nat} {k : Co}
theorem CoIn.below (h : CoIn w B A0 A1 A2 n0 n1 n2 k) (hb : Below B w w') : CoIn w' B A0 A1 A2 n0 n1 n2 k := ⟨h.1.below hb, h.2.1.below hb, h.2.2.below hb⟩
theorem CoIn.drawn (h : CoIn w B A0 A1 A2 n0 n1 n2 k) (hd : Drawn w w') : CoIn w' B A0 A1 A2 n0 n1 n2 k := ⟨h.1.drawn hd, h.2.1.drawn hd, h.2.2.drawn hd⟩
theorem CoIn.to_below (h : CoIn w w.heap.size A0 A1 A2 n0 n1 n2 k) (hb : Below w.heap.size w w') : CoIn w' w'.heap.size A0 A1 A2 n0 n1 n2 k := ⟨h.1.to_below hb, h.2.1.to_below hb, h.2.2.to_below hb⟩
theorem CoIn.to_drawn (h : CoIn w w.heap.size A0 A1 A2 n0 n1 n2 k) (hd : Drawn w w') : CoIn w' w'.heap.size A0 A1 A2 n0 n1 n2 k := h.to_below hd.toBelow
theorem CoIn.more {B' : Nat} (h : CoIn w B A0 A1 A2 n0 n1 n2 k) (hB : B ≤ B') : CoIn w B' A0 A1 A2 n0 n1 n2 k := ⟨h.1.more hB, h.2.1.more hB, h.2.2.more hB⟩
theorem CoIn.len (h : CoIn w B A0 A1 A2 n0 n1 n2 k) : k.d.length = n0 ∧ k.i.length = n1 ∧ k.r.length = n2 := ⟨h.1.1, h.2.1.1, h.2.2.1⟩
end

end Go.Proofs.Ytnfjdlocmdgefaa

/- Contracts (Mem3). -/
namespace Go.Proofs.Ytnfjdlocmdgefaa
open Go.RowKit
set_option linter.unusedVariables false

/-- the rows a and b lie in blocks apart (a's may be none) -/
def Apart (a b : Value) : Prop := a.ownBlock = none ∨ a.ownBlock ≠ b.ownBlock
end Go.Proofs.Ytnfjdlocmdgefaa

/- Contracts (InS). -/
namespace Go.Proofs.Ytnfjdlocmdgefaa
open Go.RowKit
set_option linter.unusedVariables false

set_option maxHeartbeats 400000 in
theorem l1In_any (x a b : Int) (w : World) :
    Calls Try.prog 34 #[.int .i64 x, .int .i64 a, .int .i64 b] w fun e w' => e = .returned (.bool (decide (a ≤ x ∧ x ≤ b))) ∧ w = w' := by
  go_enter Try.func34, Try.ntmps34
  go_wp2
  all_goals go_ret
  all_goals exact ⟨Kit.ret_bool (by simp; try omega), rfl⟩

end Go.Proofs.Ytnfjdlocmdgefaa

/- Contracts (LabOkS). -/
namespace Go.Proofs.Ytnfjdlocmdgefaa
open Go.RowKit
set_option linter.unusedVariables false

set_option maxHeartbeats 400000 in
theorem specLabelOk_any (n : Int) (w : World) :
    Calls Try.prog 33 #[.int .i64 n] w fun e w' => e = .returned (.bool (Lab.ok n)) ∧ w = w' := by
  go_enter Try.func33, Try.ntmps33
  go_wp2_with fail
  refine (l1In_any _ _ _ _).mono ?_
  rintro e w' ⟨rfl, rfl⟩
  go_wp2
  go_ret
  exact ⟨Kit.ret_bool (by simp [Lab.ok]), rfl⟩

end Go.Proofs.Ytnfjdlocmdgefaa
