/- Contracts (PutCS). -/
import Derived.Test.YtpdpkcadolcbmaaTriB
import Derived.Test.YtpdpkcadolcbmaaStepA
import Derived.Test.YtpdpkcadolcbmaaCostOkS
import Derived.Test.YtpdpkcadolcbmaaVarB
import Derived.Test.YtpdpkcadolcbmaaRes
import Derived.Outline
import Derived.Deep.RegionHeld3
namespace Go.Proofs.Ytpdpkcadolcbmaa
open Go.RowKit
set_option linter.unusedVariables false

theorem info_intP : (Try.prog.info? 3).map (fun i => (i.zero, i.size, i.bytes)) = some (some (.int .i64 0), 1, 8) := by kernel_rfl
set_option maxHeartbeats 1600000 in
set_option maxRecDepth 100000 in
theorem specPutCost_any (A0 A1 A2 : Option Addr) (n0 n1 n2 c0 c1 c2 : Nat) (k : Co) (w : World) (h : CoIn w w.heap.size A0 A1 A2 n0 n1 n2 k) (h0 : n0 ≤ 1048576) (h1 : n1 ≤ 1048576) (h2 : n2 ≤ 1048576) :
    Calls Try.prog 32 #[.agg #[.slice A0 n0 c0, .slice A1 n1 c1, .slice A2 n2 c2]] w fun e w' => e = .returned (.string (Co.put k)) ∧ Below w.heap.size w w' := by
  have H := Lib.hid h
  have HLE := Lib.hid h.len
  clear h
  cases e0 : Co.ok k with
  | false =>
    have HB := Lib.hid ((Below.refl w.heap.size w).alloc (Nat.le_refl _) (.cells #[.slice A0 n0 c0, .slice A1 n1 c1, .slice A2 n2 c2] 26))
    have H1 := Lib.hid (H.out.to_below HB.out)
    have Hf := Lib.hid (Co.put_no e0)
    have E0 := Lib.hid e0
    clear e0
    go_enter Try.func32, Try.ntmps32
    go_wp2_with fail
    refine (specCostOk_any _ _ _ _ _ _ _ _ _ k _ H1.out h0 h1 h2).mono ?_
    rintro e w1 ⟨rfl, hb⟩
    have HB := Lib.hid (HB.out.trans (hb.mono HB.out.size))
    clear hb
    rw [E0.out]
    go_wp2
    go_ret
    exact ⟨by rw [Hf.out]; rfl, HB.out⟩
  | true =>
    have Hf := Lib.hid (Co.put_all e0)
    have hln := Co.ok_len e0
    obtain rfl : n0 = 6 := by rw [← hln.1]; exact HLE.out.1.symm
    obtain rfl : n1 = 6 := by rw [← hln.2.1]; exact HLE.out.2.1.symm
    obtain rfl : n2 = 36 := by rw [← hln.2.2]; exact HLE.out.2.2.symm
    have HLN := Lib.hid hln
    have E0 := Lib.hid e0
    have HB := Lib.hid ((Below.refl w.heap.size w).alloc (Nat.le_refl _) (.cells #[.slice A0 6 c0, .slice A1 6 c1, .slice A2 36 c2] 26))
    have H1 := Lib.hid (H.out.to_below HB.out)
    have HX := Lib.hid (Box3.made w (.slice A0 6 c0) (.slice A1 6 c1) (.slice A2 36 c2) 26)
    have HLT := Lib.hid (show w.heap.size < (w.alloc (.cells #[.slice A0 6 c0, .slice A1 6 c1, .slice A2 36 c2] 26)).heap.size by simp)
    obtain ⟨i0, hi, hz0, hz1, hz2⟩ := info_parts info_intP
    have Hi := Lib.hid hi
    clear e0 hi hln
    go_enter Try.func32, Try.ntmps32
    go_wp2_with fail
    refine (specCostOk_any _ _ _ _ _ _ _ _ _ k _ H1.out h0 h1 h2).mono ?_
    rintro e w1 ⟨rfl, hb⟩
    have HB := Lib.hid (HB.out.trans (hb.mono HB.out.size))
    have H1 := Lib.hid (H1.out.to_below hb)
    obtain ⟨g0, g1, g2⟩ := HX.out.below hb HLT.out
    have HLT := Lib.hid (Nat.lt_of_lt_of_le HLT.out hb.size)
    clear hb
    rw [E0.out]
    go_wp2_with fail
    have S0 := Lib.hid (show w1.drew.cell? ⟨w.heap.size, 0, none⟩ = some (.slice A0 6 c0) ∧ w1.drew.cell? ⟨w.heap.size, 1, none⟩ = some (.slice A1 6 c1) ∧ w1.drew.cell? ⟨w.heap.size, 2, none⟩ = some (.slice A2 36 c2) ∧ TriB w1.heap.size w1 w.heap.size w1.drew from ⟨g0, g1, g2, (Below.refl _ _).drew, HLT.out, Nat.le_refl _⟩)
    clear g0 g1 g2
    go_region_held3 (fun wq => wq.cell? ⟨w.heap.size, 0, none⟩ = some (.slice A0 6 c0) ∧ wq.cell? ⟨w.heap.size, 1, none⟩ = some (.slice A1 6 c1) ∧ wq.cell? ⟨w.heap.size, 2, none⟩ = some (.slice A2 36 c2) ∧ TriB w1.heap.size w1 w.heap.size wq) (first | exact S0.out | exact triB_alloc S0.out _ | (refine triB_keep ?_ hb; assumption)) (first | ((fail_if_success (have := o1)); refine step_append_ints _ rfl _ _ 24 rfl w1.heap.size 3 i0 Try.underlying24 Hi.out hz0 hz1 hz2 _ 0 6 6 [] k.d rfl (World.ownsRow_lit (base := w1.heap.size) (e := 3) (size := 1) w1.drew #[] 0 (Nat.le_refl _) (Nat.zero_le _) rfl) A0 c0 rfl ((H1.out.below (triB_below (by assumption))).1) (by decide) rfl (by decide) (triB_size (by assumption)) ?_; intro v1 w2 o1 hg; have hb := below_of_own (World.ownsRow_lit (base := w1.heap.size) (e := 3) (size := 1) w1.drew #[] 0 (Nat.le_refl _) (Nat.zero_le _) rfl) hg (triB_size (by assumption)); obtain ⟨B1, d1, rfl⟩ := own_slice o1; clear hg) | ((fail_if_success (have := o2)); have := o1; refine step_append_ints _ rfl _ _ 24 rfl w1.heap.size 3 i0 Try.underlying24 Hi.out hz0 hz1 hz2 _ 6 6 12 ([] ++ k.d) k.i rfl o1 A1 c1 rfl ((H1.out.below (triB_below (by assumption))).2.1) (by decide) rfl (by decide) (triB_size (by assumption)) ?_; intro v2 w3 o2 hg; have hb := below_of_own o1 hg (triB_size (by assumption)); obtain ⟨B2, d2, rfl⟩ := own_slice o2; clear hg) | ((fail_if_success (have := o3)); have := o1; have := o2; refine step_append_ints _ rfl _ _ 24 rfl w1.heap.size 3 i0 Try.underlying24 Hi.out hz0 hz1 hz2 _ 12 36 48 (([] ++ k.d) ++ k.i) k.r rfl o2 A2 c2 rfl ((H1.out.below (triB_below (by assumption))).2.2) (by decide) rfl (by decide) (triB_size (by assumption)) ?_; intro v3 w4 o3 hg; have hb := below_of_own o2 hg (triB_size (by assumption)); obtain ⟨B3, d3, rfl⟩ := own_slice o3; clear hg))
    have HG := Lib.hid (show TriB w1.heap.size w1 w.heap.size w4 by (first | (rename_i q; exact q.2.2.2) | (rename_i q _; exact q.2.2.2)))
    obtain ⟨L, eL⟩ : ∃ L, L = Co.all k := ⟨_, rfl⟩
    have HO := Lib.hid (show IntIn w4 w4.heap.size B3 48 L by rw [eL, Co.all, ← List.nil_append k.d]; exact IntIn.of_own o3)
    have HL := Lib.hid (show L.length = 48 from HO.out.1)
    have HB := Lib.hid (HB.out.trans (HG.out.1.mono HB.out.size))
    have HEL := Lib.hid eL
    clear eL o1 o2 o3
    go_wp2
    go_loopw [5, 3] (fun iv sv wr => ∃ j : Nat, j ≤ 48 ∧ iv = .int .i64 j ∧ sv = .string (Zs.putTo L j) ∧ Below w4.heap.size w4 wr) (fun i _ _ => 48 - (intOf i).toNat)
    case atStart => exact ⟨0, Nat.zero_le _, rfl, rfl, Below.refl _ _⟩
    case round =>
      obtain ⟨j, hj, rfl, rfl, hB⟩ := hrel
      have HBR := Lib.hid hB
      clear hB
      by_cases hlt : j < 48
      · obtain ⟨ad, rfl, _, x1⟩ := (HO.out.below HBR.out).at_ hlt
        have z1 := Zs.putTo_size L j
        have z2 := Num.varB_size (Zs.at L j)
        have y1 : ¬ 9223372036854775807 < (Zs.putTo L j).size + (Num.varB (Zs.at L j)).size := by omega
        have Hs := Lib.hid (show Zs.putTo L (j + 1) = Zs.putTo L j ++ Num.varB (Zs.at L j) from rfl)
        have k0 : (0 : Int) ≤ (j : Int) := by omega
        have k1 : (j : Int) < 48 := by omega
        have k2 : decide ((j : Int) < 48) = true := by simp; omega
        clear z1 z2
        go_wp2_with fail
        refine (specVarB_any _ _).mono ?_
        rintro e w5 ⟨rfl, hb⟩
        have HBR := Lib.hid (HBR.out.trans (hb.mono HBR.out.size))
        clear hb
        go_wp2
        go_roundw
        case rel => exact ⟨j + 1, by omega, by go_num, by rw [Hs.out], HBR.out⟩
        case measure => simp [intOf]; omega
      · obtain rfl : j = 48 := by omega
        have k2 : decide (((48 : Nat) : Int) < 48) = false := rfl
        go_wp2
        go_ret
        refine ⟨?_, HB.out.trans (HBR.out.mono HB.out.size)⟩
        rw [Hf.out, ← HEL.out, Zs.put, HL.out]
        rfl

end Go.Proofs.Ytpdpkcadolcbmaa
