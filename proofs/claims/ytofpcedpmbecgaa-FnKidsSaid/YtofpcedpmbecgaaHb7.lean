/- Texts of one claim laid into one file, in build order: SubI, InS, LabOkS, TreeOkS, Kids, ExKids. -/
import Derived.Test.YtofpcedpmbecgaaHb1
import Derived.Test.YtofpcedpmbecgaaHb2
import Derived.Test.YtofpcedpmbecgaaHb4
import Derived.Test.YtofpcedpmbecgaaHb5
import Derived.Test.YtofpcedpmbecgaaHb6
import Derived.BigQuiet
import Derived.Deep.RegionHeld3
import Derived.Outline
import Derived.Test.YtofpcedpmbecgaaRows
/- Contracts (SubI). -/
namespace Go.Proofs.Ytofpcedpmbecgaa
open Go.RowKit
set_option linter.unusedVariables false

set_option maxHeartbeats 800000 in
set_option maxRecDepth 100000 in
theorem implSubTree_any (A : Option Addr) (n c : Nat) (xs : Tr) (i : Int) (w : World) (h : NdIn w w.heap.size A n xs) (hn : n ≤ 1048576) (hnc : n ≤ c) :
    Calls Try.prog 14 #[.slice A n c, .int .i64 i] w (OwnNodes 40 (Tr.subTree xs i) w) := by
  have H := Lib.hid h
  clear h
  have HL := Lib.hid H.out.1
  rcases hok : Tr.has xs i with _ | _
  · have Hf := Lib.hid (Tr.subTree_no hok)
    have Hok := Lib.hid hok
    clear hok
    go_enter Try.func14, Try.ntmps14
    go_wp2_with fail
    refine (hasNode_any _ _ _ xs _ _ H.out hn hnc).mono ?_
    rintro e w1 ⟨rfl, hb1⟩
    have HB := Lib.hid hb1
    clear hb1
    rw [Hok.out]
    go_wp2
    go_ret
    exact ⟨_, _, by rw [Hf.out]; rfl, by rw [Hf.out]; exact own_nil, HB.out⟩
  · have h1 := (Tr.has_iff.1 hok).2
    have h0 := (Tr.has_iff.1 hok).1
    rw [HL.out] at h1
    have hbd := Lib.hid fun k => Tr.ok_at (xs := xs) h0 (k := k)
    obtain ⟨j, rfl⟩ := Int.eq_ofNat_of_zero_le h1.1
    have hj : j < n := by omega
    have Hf := Lib.hid (Tr.subTree_yes hok)
    have He := Lib.hid (Tr.endOf_yes hok)
    have hE := Tr.endN_spec xs j (by rw [HL.out]; exact hj)
    have hE1 := hE.1
    have hE2 := hE.2.1
    rw [HL.out] at hE2
    have Hok := Lib.hid hok
    clear hok h1 h0 hE
    obtain ⟨ad, rfl, _⟩ := H.out.2.1 (by omega)
    have hcj : ¬ c = j := by omega
    have hec : ((Tr.endN xs j : Nat) : Int) ≤ (c : Int) := by omega
    have hje : (j : Int) ≤ ((Tr.endN xs j : Nat) : Int) := by omega
    go_enter Try.func14, Try.ntmps14
    go_wp2_with fail
    refine (hasNode_any _ _ _ xs _ _ H.out hn hnc).mono ?_
    rintro e w1 ⟨rfl, hb1⟩
    have H1 := Lib.hid (H.out.to_below hb1)
    have HB1 := Lib.hid hb1
    clear hb1
    rw [Hok.out]
    have H1' := Lib.hid (H1.out : NdIn w1.drew w1.heap.size (some ad) n xs)
    obtain ⟨hl', hd'⟩ := H1.out.here hj
    have bj := (hbd.out j (by rw [HL.out]; exact hj)).2.1
    have a5 : IntKind.i64.wrap (-Tr.d xs j) = -Tr.d xs j := Kit.w64 (by omega) (by omega)
    have b2 : (0 : Int) ≤ (j : Int) := by omega
    have b3 : (j : Int) < (n : Int) := by omega
    have C0 := Lib.hid (fun (wq : World) (hb : Below w1.heap.size w1 wq) => show Calls Try.prog 16 #[.slice (some ad) n c, .int .i64 (j : Int)] wq fun e w' => e = .returned (.int .i64 ((Tr.endN xs j : Nat) : Int)) ∧ Below wq.heap.size wq w' from by
      have := implEndOf_any (some ad) n c xs (j : Int) wq (H1.out.to_below hb) hn hnc
      rw [He.out] at this
      exact this)
    have C1 := Lib.hid (fun (wq : World) (hb : Below w1.heap.size w1 wq) (c' : Nat) => show Calls Try.prog 55 #[.slice (some (ad.add (j * 2))) (Tr.endN xs j - j) c', .int .i64 (-Tr.d xs j)] wq (OwnNodes 40 (Tr.subTree xs (j : Int)) wq) from by
      have hc := (H1.out.to_below hb).cut (j := j) (m := Tr.endN xs j - j) (by omega)
      have := shifted_any _ (Tr.endN xs j - j) c' _ (-Tr.d xs j) wq hc (by omega) (by omega) (fun k hk => by
        have hg : ((xs.drop j).take (Tr.endN xs j - j)).getD k (0, 0) = xs.getD (j + k) (0, 0) := by simp [List.getD_eq_getElem?_getD, hk]
        have := (hbd.out (j + k) (by rw [HL.out]; omega)).2.1
        simp only [Tr.d, hg] at this ⊢
        omega)
      rw [Tr.up_sub xs (by rw [HL.out]; exact hE2) (by omega), ← Hf.out] at this
      exact this)
    have S0 := Lib.hid (show w1.drew.cell? ⟨(ad.add (j * 2)).block, (ad.add (j * 2)).off + 1, none⟩ = some (.int .i64 (Tr.d xs j)) ∧ BelA w1 w1.drew from ⟨hd', (Drawn.refl _).drew.toBelow⟩)
    have hs1 := HB1.out.size
    clear hl' hd' bj hE1 hE2
    go_wp2_with fail
    go_region_held3 (fun wq => wq.cell? ⟨(ad.add (j * 2)).block, (ad.add (j * 2)).off + 1, none⟩ = some (.int .i64 (Tr.d xs j)) ∧ BelA w1 wq) (first | (with_reducible exact SD) | (with_reducible exact SC) | (with_reducible exact S0.out)) (first | ((go_at_call 16; with_reducible refine (C0.out _ (c1_below (by assumption))).mono ?_); rintro e w5 ⟨rfl, hb5⟩; have SC := c1_keep (by assumption) hb5) | (go_loud (go_at_call 55; refine (C1.out _ (c1_below SC) _).mono ?_; rintro e w6 ⟨A6, c6, rfl, ho6, hb6⟩; have hs6 := (c1_below SC).size; have SD := c1_keep SC hb6)))
    have HE := Lib.hid (HB1.out.trans ((c1_below SD).mono hs1))
    go_wp2
    go_ret
    exact ⟨_, _, rfl, own_base ho6 (by omega), HE.out⟩

end Go.Proofs.Ytofpcedpmbecgaa

/- Contracts (InS). -/
namespace Go.Proofs.Ytofpcedpmbecgaa
open Go.RowKit
set_option linter.unusedVariables false

set_option maxHeartbeats 400000 in
theorem l1In_any (x a b : Int) (w : World) :
    Calls Try.prog 57 #[.int .i64 x, .int .i64 a, .int .i64 b] w fun e w' => e = .returned (.bool (decide (a ≤ x ∧ x ≤ b))) ∧ w = w' := by
  go_enter Try.func57, Try.ntmps57
  go_wp2
  all_goals go_ret
  all_goals exact ⟨Kit.ret_bool (by simp; try omega), rfl⟩

end Go.Proofs.Ytofpcedpmbecgaa

/- Contracts (LabOkS). -/
namespace Go.Proofs.Ytofpcedpmbecgaa
open Go.RowKit
set_option linter.unusedVariables false

set_option maxHeartbeats 400000 in
theorem specLabelOk_any (n : Int) (w : World) :
    Calls Try.prog 56 #[.int .i64 n] w fun e w' => e = .returned (.bool (Lab.ok n)) ∧ w = w' := by
  go_enter Try.func56, Try.ntmps56
  go_wp2_with fail
  refine (l1In_any _ _ _ _).mono ?_
  rintro e w' ⟨rfl, rfl⟩
  go_wp2
  go_ret
  exact ⟨Kit.ret_bool (by simp [Lab.ok]), rfl⟩

end Go.Proofs.Ytofpcedpmbecgaa

/- Contracts (TreeOkS). -/
namespace Go.Proofs.Ytofpcedpmbecgaa
open Go.RowKit
set_option linter.unusedVariables false

set_option maxHeartbeats 800000 in
set_option maxRecDepth 100000 in
theorem specTreeOk_any (A : Option Addr) (n c : Nat) (xs : Tr) (w : World) (h : NdIn w w.heap.size A n xs) (hn : n ≤ 1048576) :
    Calls Try.prog 15 #[.slice A n c] w fun e w' => e = .returned (.bool (Tr.ok xs)) ∧ Drawn w w' := by
  have H := Lib.hid h
  clear h
  go_enter Try.func15, Try.ntmps15
  go_wp2
  go_loopw [3] (fun iv wr => ∃ k : Nat, k ≤ n ∧ iv = .int .i64 k ∧ Tr.okTo xs k ∧ Drawn w wr) (fun i _ => n - (intOf i).toNat)
  case atStart => exact ⟨0, Nat.zero_le _, rfl, fun j hj => absurd hj (by omega), Drawn.refl _⟩
  case round =>
    obtain ⟨k, hk, rfl, hok, hD⟩ := hrel
    have Hok := Lib.hid hok
    clear hok
    have HL := Lib.hid H.out.1
    by_cases hlt : k < n
    · obtain ⟨ad, rfl, hb, hl, hd⟩ := (H.out.drawn hD).at_ hlt
      by_cases h1 : 0 ≤ Tr.l xs k ∧ Tr.l xs k ≤ 5
      · have h1' : Lab.ok (Tr.l xs k) = true := by simp [Lab.ok, h1]
        by_cases h2 : 0 ≤ Tr.d xs k ∧ Tr.d xs k ≤ 12
        · have h2' : decide (0 ≤ Tr.d xs k ∧ Tr.d xs k ≤ 12) = true := by simpa using h2
          by_cases hk0 : k = 0
          · have e1 : ((k : Int) == 0) = true := by simp [hk0]
            have e2 : decide (0 < k) = false := by simp; omega
            by_cases h3 : Tr.d xs k = 0
            · have e3 : (Tr.d xs k == 0) = true := by simpa using h3
              have Hk := Lib.hid (show Tr.okAt xs k = true by simp [Tr.okAt]; omega)
              clear h1 h2 h3 hk0
              go_wp2
              go_quiet (first
                | (go_at_call 56; exact quiet_same (specLabelOk_any _ _))
                | (go_at_call 57; exact quiet_same (l1In_any _ _ _ _)))
              go_wp2
              go_roundw
              case rel => exact ⟨k + 1, by omega, by go_num, Tr.okTo_succ Hok.out Hk.out, hD.drewN _⟩
              case measure => simp [intOf]; omega
            · have e3 : (Tr.d xs k == 0) = false := by simpa using h3
              have Hf := Lib.hid (Tr.not_ok (xs := xs) (k := k) (by rw [HL.out]; exact hlt) (by simp [Tr.okAt]; omega))
              clear h1 h2 h3 hk0
              go_wp2
              go_quiet (first
                | (go_at_call 56; exact quiet_same (specLabelOk_any _ _))
                | (go_at_call 57; exact quiet_same (l1In_any _ _ _ _)))
              go_wp2
              go_ret
              exact ⟨Kit.ret_bool Hf.out.symm, hD.drewN _⟩
          · have e1 : ((k : Int) == 0) = false := by simp [hk0]
            have e2 : decide (0 < k) = true := by simp; omega
            obtain ⟨hl', hd'⟩ := (H.out.drawn hD).here (show k - 1 < n by omega)
            by_cases h3 : Tr.d xs k = 0
            · have e3 : (Tr.d xs k == 0) = true := by simpa using h3
              have Hf := Lib.hid (Tr.not_ok (xs := xs) (k := k) (by rw [HL.out]; exact hlt) (by simp [Tr.okAt]; omega))
              clear h1 h2 h3 hk0
              go_wp2
              go_quiet (first
                | (go_at_call 56; exact quiet_same (specLabelOk_any _ _))
                | (go_at_call 57; exact quiet_same (l1In_any _ _ _ _)))
              go_wp2
              go_ret
              exact ⟨Kit.ret_bool Hf.out.symm, hD.drewN _⟩
            · have e3 : (Tr.d xs k == 0) = false := by simpa using h3
              have a1 : IntKind.i64.wrap ((k : Int) - 1) = (k : Int) - 1 := Kit.w64 (by omega) (by omega)
              have a2 : ((k : Int) - 1).toNat = k - 1 := by omega
              have a3 : (1 : Int) ≤ (k : Int) := by omega
              have a4 : (k : Int) - 1 < (n : Int) := by omega
              have a5 : IntKind.i64.wrap (Tr.d xs (k - 1) + 1) = Tr.d xs (k - 1) + 1 := by
                have := Tr.okTo_at (Hok.out) (show k - 1 < k by omega)
                exact Kit.w64 (by omega) (by omega)
              by_cases h4 : Tr.d xs k ≤ Tr.d xs (k - 1) + 1
              · have e4 : decide (Tr.d xs (k - 1) + 1 < Tr.d xs k) = false := by simpa using h4
                have Hk := Lib.hid (show Tr.okAt xs k = true by simp [Tr.okAt]; omega)
                clear h1 h2 h3 h4 hk0
                go_wp2
                go_quiet (first
                  | (go_at_call 56; exact quiet_same (specLabelOk_any _ _))
                  | (go_at_call 57; exact quiet_same (l1In_any _ _ _ _)))
                clear a1 a2 a3 a4 a5
                go_wp2
                go_roundw
                case rel => exact ⟨k + 1, by omega, by go_num, Tr.okTo_succ Hok.out Hk.out, hD.drewN _⟩
                case measure => simp [intOf]; omega
              · have e4 : decide (Tr.d xs (k - 1) + 1 < Tr.d xs k) = true := by simpa using h4
                have Hf := Lib.hid (Tr.not_ok (xs := xs) (k := k) (by rw [HL.out]; exact hlt) (by simp [Tr.okAt]; omega))
                clear h1 h2 h3 h4 hk0
                go_wp2
                go_quiet (first
                  | (go_at_call 56; exact quiet_same (specLabelOk_any _ _))
                  | (go_at_call 57; exact quiet_same (l1In_any _ _ _ _)))
                clear a1 a2 a3 a4 a5
                go_wp2
                go_ret
                exact ⟨Kit.ret_bool Hf.out.symm, hD.drewN _⟩
        · have h2' : decide (0 ≤ Tr.d xs k ∧ Tr.d xs k ≤ 12) = false := by simpa using h2
          have Hf := Lib.hid (Tr.not_ok (xs := xs) (k := k) (by rw [HL.out]; exact hlt) (by simp [Tr.okAt]; omega))
          clear h1 h2
          go_wp2
          go_quiet (first
            | (go_at_call 56; exact quiet_same (specLabelOk_any _ _))
            | (go_at_call 57; exact quiet_same (l1In_any _ _ _ _)))
          go_wp2
          go_ret
          exact ⟨Kit.ret_bool Hf.out.symm, hD.drewN _⟩
      · have h1' : Lab.ok (Tr.l xs k) = false := by simpa [Lab.ok] using h1
        have Hf := Lib.hid (Tr.not_ok (xs := xs) (k := k) (by rw [HL.out]; exact hlt) (by simp [Tr.okAt]; omega))
        clear h1
        go_wp2
        go_quiet (first
          | (go_at_call 56; exact quiet_same (specLabelOk_any _ _))
          | (go_at_call 57; exact quiet_same (l1In_any _ _ _ _)))
        go_wp2
        go_ret
        exact ⟨Kit.ret_bool Hf.out.symm, hD.drewN _⟩
    · obtain rfl : k = n := by omega
      have Hs := Lib.hid (Tr.ok_size (xs := xs) (by rw [HL.out]; exact Hok.out))
      go_wp2_with (go_at_call 57; refine (l1In_any _ _ _ _).mono ?_; rintro e w' ⟨rfl, rfl⟩)
      go_ret
      exact ⟨Kit.ret_bool (by rw [Hs.out, HL.out, ← Bool.decide_and, decide_eq_decide]; omega), hD⟩

end Go.Proofs.Ytofpcedpmbecgaa

/- Contracts (Kids). -/
namespace Go.Proofs.Ytofpcedpmbecgaa
open Go.RowKit
set_option linter.unusedVariables false

set_option maxHeartbeats 3200000 in
set_option maxRecDepth 100000 in
theorem kids_any (k : Code) (w : World) (hcode : CodeIn w w.heap.size k.a k.cs) (hlen : k.cs.length ≤ 1048576) :
    Calls Try.prog 3 #[.slice k.a k.cs.length k.cap] w fun e w' => e = .returned (.bool true) ∧ Below w.heap.size w w' := by
  have HC := Lib.hid hcode
  clear hcode
  go_enter Try.func3, Try.ntmps3
  go_wp2_with fail
  refine (big_small _ _ _ (by omega) _).mono ?_
  rintro e w0 ⟨rfl, rfl⟩
  have HW := Lib.hid (Below.refl (World.heap w).size w)
  go_wp2_with fail
  refine (drawKidsOf_ex _ k HC.out hlen).mono ?_
  rintro e w1 ⟨xs, A, n, cp, i, rfl, hn, hcp, hn31, hb⟩
  have HW := Lib.hid (HW.out.trans (hb.mono HW.out.size))
  have HN := Lib.hid hn
  have HL := Lib.hid hn.1
  have hn20 : n ≤ 1048576 := by omega
  clear hb hn
  cases hh : Tr.has xs i with
  | false =>
    have Hk0 := Lib.hid (Tr.kidsI_no hh)
    have Hs0 := Lib.hid (Tr.subTree_no hh)
    have Hen := Lib.hid (Tr.endOf_no hh)
    go_wp2_with fail
    refine (implKidsOf_any _ _ _ xs _ _ HN.out hn20 hcp).mono ?_
    rintro e w2 ⟨Ak, ck, rfl, ho, hb⟩
    have HW := Lib.hid (HW.out.trans (hb.mono HW.out.size))
    have HN := Lib.hid (HN.out.to_below hb)
    have HK := Lib.hid (IntIn.of_own ho)
    clear ho hb
    go_wp2_with fail
    refine (implSubTree_any _ _ _ xs _ _ HN.out hn20 hcp).mono ?_
    rintro e w3 ⟨As, cs, rfl, ho, hb⟩
    have HW := Lib.hid (HW.out.trans (hb.mono HW.out.size))
    have HN := Lib.hid (HN.out.to_below hb)
    have HK := Lib.hid (HK.out.to_below hb)
    have HS := Lib.hid (NdIn.of_own ho)
    have hcs := own_cap ho
    clear ho hb
    go_wp2_with fail
    refine (specTreeOk_any _ _ _ xs _ HN.out hn20).mono ?_
    rintro e w4 ⟨rfl, hd⟩
    have HW := Lib.hid (Drawn.below HW.out hd)
    have HN := Lib.hid (HN.out.to_drawn hd)
    have HK := Lib.hid (HK.out.to_drawn hd)
    have HS := Lib.hid (HS.out.to_drawn hd)
    clear hd
    rw [Hk0.out, Hs0.out]
    cases hok : Tr.ok xs with
    | false =>
      clear hh hok
      go_wp2_with fail
      refine (implEndOf_any _ _ _ xs _ _ HN.out hn20 hcp).mono ?_
      rintro e w5 ⟨rfl, hb⟩
      have HW := Lib.hid (HW.out.trans (hb.mono HW.out.size))
      clear hb
      rw [Hen.out]
      go_wp2
      go_ret
      exact ⟨rfl, HW.out⟩
    | true =>
      by_cases h1 : i < 0
      · have e1 : decide (i < 0) = true := by simpa using h1
        clear hh hok h1
        go_wp2_with fail
        refine (implEndOf_any _ _ _ xs _ _ HN.out hn20 hcp).mono ?_
        rintro e w5 ⟨rfl, hb⟩
        have HW := Lib.hid (HW.out.trans (hb.mono HW.out.size))
        clear hb
        rw [Hen.out]
        go_wp2
        go_ret
        exact ⟨rfl, HW.out⟩
      · have e1 : decide (i < 0) = false := by simpa using h1
        have h3 : (n : Int) ≤ i := by
          refine Classical.byContradiction fun h4 => ?_
          rw [Tr.has_iff.2 ⟨hok, by omega, by rw [HL.out]; omega⟩] at hh
          cases hh
        have e3 : decide ((n : Int) ≤ i) = true := by simpa using h3
        clear hh hok h1 h3
        go_wp2_with fail
        refine (implEndOf_any _ _ _ xs _ _ HN.out hn20 hcp).mono ?_
        rintro e w5 ⟨rfl, hb⟩
        have HW := Lib.hid (HW.out.trans (hb.mono HW.out.size))
        clear hb
        rw [Hen.out]
        go_wp2
        go_ret
        exact ⟨rfl, HW.out⟩
  | true =>
    have hok := (Tr.has_iff.1 hh).1
    have hi := (Tr.has_iff.1 hh).2
    rw [HL.out] at hi
    have hle := (Tr.ok_iff.1 hok).2
    rw [HL.out] at hle
    obtain ⟨i, rfl⟩ := Int.eq_ofNat_of_zero_le hi.1
    have hin : i < n := by omega
    have hix : i < xs.length := by rw [HL.out]; exact hin
    have HR := Lib.hid (fun b j hb hj hlt => Tr.kid_round hok hix (b := b) (j := j) hb hj hlt)
    have HLast := Lib.hid (fun b j hb hj hlt => Tr.kid_last hok hix (b := b) (j := j) hb hj hlt)
    have HB0 := Lib.hid (Tr.bound_start hok hix)
    have HSok := Lib.hid (Tr.sub_ok hok hix)
    have HSl := Lib.hid (show (Tr.subTree xs (i : Int)).length = Tr.endN xs i - i by rw [Tr.subTree_yes hh, Tr.subTo_length])
    have Hen := Lib.hid (Tr.endOf_yes hh)
    have hE := Tr.endN_dn hok hix
    have hE1 := hE.1
    have hE2 := hE.2.1
    rw [HL.out] at hE2
    have HKl := Lib.hid (show (Tr.kidsI xs (i : Int)).length = (Tr.kidsTo xs i (Tr.endN xs i)).length by rw [Tr.kidsI_yes hh]; unfold Tr.kidsZ; rw [List.length_map])
    have hKle := Tr.kidsI_len xs (i : Int)
    rw [HL.out] at hKle
    have Hok := Lib.hid hok
    have e1 : decide ((i : Int) < 0) = false := by simp
    have e3 : decide (n ≤ i) = false := by simp; omega
    clear hh hok hi hix hE
    go_wp2_with fail
    refine (implKidsOf_any _ _ _ xs _ _ HN.out hn20 hcp).mono ?_
    rintro e w2 ⟨Ak, ck, rfl, ho, hb⟩
    have HW := Lib.hid (HW.out.trans (hb.mono HW.out.size))
    have HN := Lib.hid (HN.out.to_below hb)
    have HK := Lib.hid (IntIn.of_own ho)
    clear ho hb
    go_wp2_with fail
    refine (implSubTree_any _ _ _ xs _ _ HN.out hn20 hcp).mono ?_
    rintro e w3 ⟨As, cs, rfl, ho, hb⟩
    have HW := Lib.hid (HW.out.trans (hb.mono HW.out.size))
    have HN := Lib.hid (HN.out.to_below hb)
    have HK := Lib.hid (HK.out.to_below hb)
    have HS := Lib.hid (NdIn.of_own ho)
    have hcs := own_cap ho
    clear ho hb
    go_wp2_with fail
    refine (specTreeOk_any _ _ _ xs _ HN.out hn20).mono ?_
    rintro e w4 ⟨rfl, hd⟩
    have HW := Lib.hid (Drawn.below HW.out hd)
    have HN := Lib.hid (HN.out.to_drawn hd)
    have HK := Lib.hid (HK.out.to_drawn hd)
    have HS := Lib.hid (HS.out.to_drawn hd)
    clear hd
    rw [Hok.out]
    obtain ⟨E, hEE⟩ : ∃ E, E = Tr.endN xs i := ⟨_, rfl⟩
    obtain ⟨m, hm⟩ : ∃ m, m = (Tr.kidsI xs (i : Int)).length := ⟨_, rfl⟩
    rw [← hEE] at HR HLast HSl Hen HKl hE1 hE2
    obtain ⟨D, hD⟩ : ∃ D, D = E - i := ⟨_, rfl⟩
    have HD := Lib.hid (show E = i + D by omega)
    rw [← hD] at HSl
    rw [← hm] at HK HKl hKle
    rw [HSl.out] at HS hcs
    rw [← hm, HSl.out]
    have hDn : D ≤ 1048576 := by omega
    clear hm hEE hD
    go_wp2
    go_loopw [7, 8] (fun nv jv wr => ∃ (j b d : Nat), j ≤ m ∧ jv = .int .i64 j ∧ nv = .int .i64 d ∧ b = i + d ∧ Tr.bound xs i b ∧ (Tr.kidsTo xs i b).length = j ∧ b ≤ E ∧ NdIn wr wr.heap.size A n xs ∧ IntIn wr wr.heap.size Ak m (Tr.kidsI xs i) ∧ NdIn wr wr.heap.size As D (Tr.subTree xs i) ∧ Below w.heap.size w wr) (fun _ j _ => m - (intOf j).toNat)
    case atStart => exact ⟨0, i + 1, 1, Nat.zero_le _, rfl, rfl, rfl, HB0.out, by rw [Tr.kidsTo_start]; rfl, by omega, HN.out, HK.out, HS.out, HW.out⟩
    case round =>
      clear HN HK HS HW HB0
      obtain ⟨j, b, d, hj, rfl, rfl, hbi, hbd, hjl, hbE, hN, hK, hS, hB⟩ := hrel
      have HN := Lib.hid hN
      have HK := Lib.hid hK
      have HS := Lib.hid hS
      have HW := Lib.hid hB
      clear hN hK hS hB
      by_cases hlt : j < m
      · obtain ⟨r1, r2, r3, r4, r5, r6, r7, r8, r9, r10⟩ := HR.out b j hbd hjl (by rw [← HKl.out]; exact hlt)
        obtain ⟨ak, rfl, _, c0⟩ := HK.out.at_ hlt
        rw [r2] at c0
        rw [HL.out] at r1 r9
        have rE := r6.2.1
        obtain ⟨e', he'⟩ : ∃ e', e' = Tr.endN xs b := ⟨_, rfl⟩
        obtain ⟨L, hL⟩ : ∃ L, L = e' - b := ⟨_, rfl⟩
        have q : ((b : Int) != (i : Int) + (d : Int)) = false := by simp; omega
        rw [← he'] at r5 r6 r7 r8 r9
        have rE2 : e' ≤ E := by have := r6.2.1; rw [HD.out]; have := Hen.out; rw [Tr.endOf_yes (Tr.has_nat Hok.out (by rw [HL.out]; exact hin))] at this; have := HD.out; omega
        rw [← hL] at r5
        have R2 := Lib.hid r2
        have R3 := Lib.hid r3
        have R4 := Lib.hid r4
        have R5 := Lib.hid r5
        have R6 := Lib.hid r6
        have R7 := Lib.hid r7
        have RB := Lib.hid (show e' = i + (d + L) by omega)
        have hdL : d + L ≤ 31 := by omega
        have b0 : (0 : Int) ≤ (j : Int) := by omega
        have b1 : (j : Int) < (m : Int) := by omega
        clear r2 r3 r4 r5 r6 r7 r8 r10 rE he' hL hbd hjl hbi
        go_wp2_with fail
        refine (implParentOf_any _ _ _ xs _ _ HN.out hn20 hcp).mono ?_
        rintro e w5 ⟨rfl, hb⟩
        have HW := Lib.hid (HW.out.trans (hb.mono HW.out.size))
        have HN := Lib.hid (HN.out.to_below hb)
        have HK := Lib.hid (HK.out.to_below hb)
        have HS := Lib.hid (HS.out.to_below hb)
        clear hb
        rw [R3.out]
        have c1 := HK.out.here hlt
        rw [R2.out] at c1
        go_wp2_with fail
        refine (implKidRank_any _ _ _ xs _ _ HN.out hn20 hcp).mono ?_
        rintro e w6 ⟨rfl, hb⟩
        have HW := Lib.hid (HW.out.trans (hb.mono HW.out.size))
        have HN := Lib.hid (HN.out.to_below hb)
        have HK := Lib.hid (HK.out.to_below hb)
        have HS := Lib.hid (HS.out.to_below hb)
        clear hb
        rw [R4.out]
        have c2 := HK.out.here hlt
        rw [R2.out] at c2
        go_wp2_with fail
        refine (implSubTree_any _ _ _ xs _ _ HN.out hn20 hcp).mono ?_
        rintro e w7 ⟨A7, c7, rfl, ho, hb⟩
        clear ho
        have HW := Lib.hid (HW.out.trans (hb.mono HW.out.size))
        have HN := Lib.hid (HN.out.to_below hb)
        have HK := Lib.hid (HK.out.to_below hb)
        have HS := Lib.hid (HS.out.to_below hb)
        clear hb
        rw [R5.out]
        clear c0 c1 c2
        go_wp2
        go_roundw
        case rel =>
          exact ⟨j + 1, e', d + L, by omega, by go_num, by go_num, RB.out, R6.out, R7.out, rE2, HN.out, HK.out, HS.out, HW.out⟩
        case measure => simp [intOf]; omega
      · obtain rfl : j = m := by omega
        have hbe := HLast.out b j hbd hjl HKl.out
        obtain rfl : d = D := by have := HD.out; omega
        have q2 : ((E : Int) == (i : Int) + (d : Int)) = true := by have := HD.out; simp; omega
        clear hbe hbd hjl hbi
        go_wp2_with fail
        refine (implEndOf_any _ _ _ xs _ _ HN.out hn20 hcp).mono ?_
        rintro e w5 ⟨rfl, hb⟩
        have HW := Lib.hid (HW.out.trans (hb.mono HW.out.size))
        have HN := Lib.hid (HN.out.to_below hb)
        have HK := Lib.hid (HK.out.to_below hb)
        have HS := Lib.hid (HS.out.to_below hb)
        clear hb
        rw [Hen.out]
        go_wp2_with fail
        refine (specTreeOk_any _ _ _ (Tr.subTree xs i) _ HS.out hDn).mono ?_
        rintro e w6 ⟨rfl, hd⟩
        have HW := Lib.hid (Drawn.below HW.out hd)
        have HS := Lib.hid (HS.out.to_drawn hd)
        clear hd
        rw [HSok.out]
        go_wp2_with fail
        refine (implTreeOk_any _ _ _ (Tr.subTree xs i) _ HS.out hDn hcs).mono ?_
        rintro e w7 ⟨rfl, hb⟩
        have HW := Lib.hid (HW.out.trans (hb.mono HW.out.size))
        clear hb
        rw [HSok.out]
        go_wp2
        go_ret
        exact ⟨rfl, HW.out⟩

end Go.Proofs.Ytofpcedpmbecgaa

/- Contracts (ExKids). -/
namespace Go.Proofs.Ytofpcedpmbecgaa
open Go.RowKit
set_option linter.unusedVariables false

set_option maxHeartbeats 400000 in
theorem kids_walk (a : Option Addr) (n cap : Nat) (zs : List Int) (w : World) (hz : Kit.BytesIn w a n cap zs) :
    Calls Try.prog 3 #[.slice a n cap] w fun e w' => e = .returned (.bool true) ∧ Below w.heap.size w w' := by
  by_cases hb : (1048576 : Int) < n
  · clear hz
    go_enter Try.func3, Try.ntmps3
    go_wp2_with fail
    refine (big_big _ _ _ hb _).mono ?_
    rintro e w0 ⟨rfl, rfl⟩
    go_wp2
    go_ret
    exact ⟨rfl, Below.refl _ _⟩
  · obtain ⟨hl, hcode⟩ := code_of hz
    have h := kids_any ⟨a, zs.take n, cap⟩ w hcode (by simp only; omega)
    simp only [hl] at h
    exact h

end Go.Proofs.Ytofpcedpmbecgaa
