/- Contracts (ExSameCost). -/
import Derived.Test.YtpdpkcadolcbmaaSameCS
import Derived.Test.YtpdpkcadolcbmaaSameCI
import Derived.Test.YtpdpkcadolcbmaaSzC
import Derived.Test.YtpdpkcadolcbmaaToCo
import Derived.Test.YtpdpkcadolcbmaaHarC
import Derived.Test.YtpdpkcadolcbmaaCoX
import Derived.Deep.RegionHeld3
namespace Go.Proofs.Ytpdpkcadolcbmaa
open Go.RowKit
set_option linter.unusedVariables false

set_option maxHeartbeats 3200000 in
set_option maxRecDepth 100000 in
theorem exactSameCost_walk (A00 A01 A02 : Option Addr) (n00 n01 n02 c00 c01 c02 : Nat) (x0 : Co) (A10 A11 A12 : Option Addr) (n10 n11 n12 c10 c11 c12 : Nat) (x1 : Co) (le00 : n00 ≤ maxLen) (le01 : n01 ≤ maxLen) (le02 : n02 ≤ maxLen) (le10 : n10 ≤ maxLen) (le11 : n11 ≤ maxLen) (le12 : n12 ≤ maxLen) (w : World) (h0 : CoIn w w.heap.size A00 A01 A02 n00 n01 n02 x0) (h1 : CoIn w w.heap.size A10 A11 A12 n10 n11 n12 x1) :
    Calls Try.prog 9 #[.agg #[.slice A00 n00 c00, .slice A01 n01 c01, .slice A02 n02 c02], .agg #[.slice A10 n10 c10, .slice A11 n11 c11, .slice A12 n12 c12]] w fun e w' => e = .returned (.bool true) ∧ Below w.heap.size w w' := by
  have Ia0 := Lib.hid h0
  have Hn0 := Lib.hid h0.len
  clear h0
  unfold maxLen at le00 le01 le02
  have Ia1 := Lib.hid h1
  have Hn1 := Lib.hid h1.len
  clear h1
  unfold maxLen at le10 le11 le12
  obtain ⟨wa, hwa⟩ : ∃ wa, wa = ((w.alloc (.cells #[.slice A00 n00 c00, .slice A01 n01 c01, .slice A02 n02 c02] 34)).alloc (.cells #[.slice A10 n10 c10, .slice A11 n11 c11, .slice A12 n12 c12] 34)) := ⟨_, rfl⟩
  have LW := Lib.hid (show Below w.heap.size w wa by rw [hwa]; exact ((Below.refl _ _).alloc (Nat.le_refl _) _).alloc (by simp) _)
  have HX0 := Lib.hid (show Box3 wa (w.heap.size) (.slice A00 n00 c00) (.slice A01 n01 c01) (.slice A02 n02 c02) by rw [hwa]; exact (Box3.made _ _ _ _ _).alloc (by simp) _)
  have GL0 := Lib.hid (show w.heap.size < wa.heap.size by rw [hwa]; simp; omega)
  have LB0 := Lib.hid (Below.refl wa.heap.size wa)
  have HX1 := Lib.hid (show Box3 wa (w.heap.size + 1) (.slice A10 n10 c10) (.slice A11 n11 c11) (.slice A12 n12 c12) by rw [hwa]; have := Box3.made (w.alloc (.cells #[.slice A00 n00 c00, .slice A01 n01 c01, .slice A02 n02 c02] 34)) (.slice A10 n10 c10) (.slice A11 n11 c11) (.slice A12 n12 c12) 34; simpa using this)
  have GL1 := Lib.hid (show w.heap.size + 1 < wa.heap.size by rw [hwa]; simp)
  have LB1 := Lib.hid (Below.refl wa.heap.size wa)
  by_cases hs0 : n00 + n01 + n02 ≤ 1048576
  rotate_left
  · go_enter Try.func9, Try.ntmps9
    go_wp2_with fail
    rw [← hwa]
    refine (szCost_any _ _ _ _ _ _ _ _ _ (1048576) _ (by omega) (by omega) (by omega) (by omega) (by omega)).mono ?_
    rintro e w1 ⟨rfl, hb⟩
    have LB0 := Lib.hid (LB0.out.trans (hb.mono LB0.out.size))
    have LB1 := Lib.hid (LB1.out.trans (hb.mono LB1.out.size))
    have LW := Lib.hid (LW.out.trans (hb.mono LW.out.size))
    clear hb
    rw [if_neg (by omega)]
    go_wp2
    go_ret
    exact ⟨rfl, LW.out⟩
  by_cases hs1 : n00 + n01 + n02 + n10 + n11 + n12 ≤ 1048576
  rotate_left
  · go_enter Try.func9, Try.ntmps9
    go_wp2_with fail
    rw [← hwa]
    refine (szCost_any _ _ _ _ _ _ _ _ _ (1048576) _ (by omega) (by omega) (by omega) (by omega) (by omega)).mono ?_
    rintro e w1 ⟨rfl, hb⟩
    have LB0 := Lib.hid (LB0.out.trans (hb.mono LB0.out.size))
    have LB1 := Lib.hid (LB1.out.trans (hb.mono LB1.out.size))
    have LW := Lib.hid (LW.out.trans (hb.mono LW.out.size))
    clear hb
    rw [if_pos (by omega)]
    obtain ⟨g10, g11, g12⟩ := HX1.out.below LB1.out GL1.out
    go_wp2_with fail
    clear g10 g11 g12
    refine (szCost_any _ _ _ _ _ _ _ _ _ (1048576 - (n00 + n01 + n02 : Nat)) _ (by omega) (by omega) (by omega) (by omega) (by omega)).mono ?_
    rintro e w2 ⟨rfl, hb⟩
    have LB0 := Lib.hid (LB0.out.trans (hb.mono LB0.out.size))
    have LB1 := Lib.hid (LB1.out.trans (hb.mono LB1.out.size))
    have LW := Lib.hid (LW.out.trans (hb.mono LW.out.size))
    clear hb
    rw [if_neg (by omega)]
    go_wp2
    go_ret
    exact ⟨rfl, LW.out⟩
  have hn00 : n00 ≤ 1048576 := by omega
  have hn01 : n01 ≤ 1048576 := by omega
  have hn02 : n02 ≤ 1048576 := by omega
  have hn10 : n10 ≤ 1048576 := by omega
  have hn11 : n11 ≤ 1048576 := by omega
  have hn12 : n12 ≤ 1048576 := by omega
  have La0 := Lib.hid LW.out
  have La1 := Lib.hid LW.out
  go_enter Try.func9, Try.ntmps9
  go_wp2_with fail
  rw [← hwa]
  refine (szCost_any _ _ _ _ _ _ _ _ _ (1048576) _ (by omega) (by omega) (by omega) (by omega) (by omega)).mono ?_
  rintro e w1 ⟨rfl, hb⟩
  have La0 := Lib.hid (La0.out.trans (hb.mono La0.out.size))
  have La1 := Lib.hid (La1.out.trans (hb.mono La1.out.size))
  have LB0 := Lib.hid (LB0.out.trans (hb.mono LB0.out.size))
  have LB1 := Lib.hid (LB1.out.trans (hb.mono LB1.out.size))
  have LW := Lib.hid (LW.out.trans (hb.mono LW.out.size))
  clear hb
  rw [if_pos (by omega)]
  obtain ⟨g10, g11, g12⟩ := HX1.out.below LB1.out GL1.out
  go_wp2_with fail
  clear g10 g11 g12
  refine (szCost_any _ _ _ _ _ _ _ _ _ (1048576 - (n00 + n01 + n02 : Nat)) _ (by omega) (by omega) (by omega) (by omega) (by omega)).mono ?_
  rintro e w2 ⟨rfl, hb⟩
  have La0 := Lib.hid (La0.out.trans (hb.mono La0.out.size))
  have La1 := Lib.hid (La1.out.trans (hb.mono La1.out.size))
  have LB0 := Lib.hid (LB0.out.trans (hb.mono LB0.out.size))
  have LB1 := Lib.hid (LB1.out.trans (hb.mono LB1.out.size))
  have LW := Lib.hid (LW.out.trans (hb.mono LW.out.size))
  clear hb
  rw [if_pos (by omega)]
  obtain ⟨g00, g01, g02⟩ := HX0.out.below LB0.out GL0.out
  obtain ⟨g10, g11, g12⟩ := HX1.out.below LB1.out GL1.out
  go_wp2_with fail
  have S0 := Lib.hid (show w2.drew.cell? ⟨w.heap.size, 0, none⟩ = some (.slice A00 n00 c00) ∧ w2.drew.cell? ⟨w.heap.size, 1, none⟩ = some (.slice A01 n01 c01) ∧ w2.drew.cell? ⟨w.heap.size, 2, none⟩ = some (.slice A02 n02 c02) ∧ w2.drew.cell? ⟨w.heap.size + 1, 0, none⟩ = some (.slice A10 n10 c10) ∧ w2.drew.cell? ⟨w.heap.size + 1, 1, none⟩ = some (.slice A11 n11 c11) ∧ w2.drew.cell? ⟨w.heap.size + 1, 2, none⟩ = some (.slice A12 n12 c12) ∧ SixG w2 (w.heap.size) (w.heap.size + 1) w2.drew from ⟨g00, g01, g02, g10, g11, g12, (Below.refl _ _).drew, Nat.lt_of_lt_of_le GL0.out LB0.out.size, Nat.lt_of_lt_of_le GL1.out LB1.out.size⟩)
  clear g00 g01 g02
  clear g10 g11 g12
  go_region_held3 (fun wq => wq.cell? ⟨w.heap.size, 0, none⟩ = some (.slice A00 n00 c00) ∧ wq.cell? ⟨w.heap.size, 1, none⟩ = some (.slice A01 n01 c01) ∧ wq.cell? ⟨w.heap.size, 2, none⟩ = some (.slice A02 n02 c02) ∧ wq.cell? ⟨w.heap.size + 1, 0, none⟩ = some (.slice A10 n10 c10) ∧ wq.cell? ⟨w.heap.size + 1, 1, none⟩ = some (.slice A11 n11 c11) ∧ wq.cell? ⟨w.heap.size + 1, 2, none⟩ = some (.slice A12 n12 c12) ∧ SixG w2 (w.heap.size) (w.heap.size + 1) wq) (first | exact S0.out | (refine six_keep ?_ hb; assumption)) (first | (go_at_call 22; (fail_if_success (have := os00)); refine (toCost_any _ _ _ _ _ _ _ _ _ x0 _ (Ia0.out.to_below (La0.out.trans ((six_below (by assumption)).mono La0.out.size))) hn00 hn01 hn02).mono ?_; rintro e w3 ⟨As00, As01, As02, cs00, cs01, cs02, rfl, os00, os01, os02, _, _, _, hb⟩; have hb' := hb) | (go_at_call 22; (fail_if_success (have := os10)); refine (toCost_any _ _ _ _ _ _ _ _ _ x1 _ (Ia1.out.to_below (La1.out.trans ((six_below (by assumption)).mono La1.out.size))) hn10 hn11 hn12).mono ?_; rintro e w4 ⟨As10, As11, As12, cs10, cs11, cs12, rfl, os10, os11, os12, _, _, _, hb⟩; have hb' := hb) | (go_at_call 30; refine (specSameCost_any _ _ _ _ _ _ _ _ _ _ _ _ _ _ _ _ _ _ x0 x1 _ ((show CoIn _ _ As00 As01 As02 _ _ _ x0 from ⟨IntIn.of_own os00, IntIn.of_own os01, IntIn.of_own os02⟩).to_below hb') ⟨IntIn.of_own os10, IntIn.of_own os11, IntIn.of_own os12⟩ (by rw [Hn0.out.1]; exact hn00) (by rw [Hn0.out.2.1]; exact hn01) (by rw [Hn0.out.2.2]; exact hn02) (by rw [Hn1.out.1]; exact hn10) (by rw [Hn1.out.2.1]; exact hn11) (by rw [Hn1.out.2.2]; exact hn12)).mono ?_; rintro e w5 ⟨rfl, hb⟩))
  have hb := Lib.hid (show SixG w2 (w.heap.size) (w.heap.size + 1) w5 by (first | (rename_i q; exact q.2.2.2.2.2.2) | (rename_i q _; exact q.2.2.2.2.2.2)))
  have hb := hb.out.1
  clear S0
  have La0 := Lib.hid (La0.out.trans (hb.mono La0.out.size))
  have La1 := Lib.hid (La1.out.trans (hb.mono La1.out.size))
  have LB0 := Lib.hid (LB0.out.trans (hb.mono LB0.out.size))
  have LB1 := Lib.hid (LB1.out.trans (hb.mono LB1.out.size))
  have LW := Lib.hid (LW.out.trans (hb.mono LW.out.size))
  clear hb
  clear hb'
  clear os00 os01 os02 os10 os11 os12
  obtain ⟨g00, g01, g02⟩ := HX0.out.below LB0.out GL0.out
  go_wp2_with fail
  clear g00 g01 g02
  refine (toCost_any _ _ _ _ _ _ _ _ _ x0 _ (Ia0.out.to_below La0.out) hn00 hn01 hn02).mono ?_
  rintro e w6 ⟨Ax00, Ax01, Ax02, cx00, cx01, cx02, rfl, o0, o1, o2, _, _, _, hb⟩
  have La0 := Lib.hid (La0.out.trans (hb.mono La0.out.size))
  have La1 := Lib.hid (La1.out.trans (hb.mono La1.out.size))
  have LB0 := Lib.hid (LB0.out.trans (hb.mono LB0.out.size))
  have LB1 := Lib.hid (LB1.out.trans (hb.mono LB1.out.size))
  have LW := Lib.hid (LW.out.trans (hb.mono LW.out.size))
  clear hb
  have Ix0 := Lib.hid (show CoIn w6 w6.heap.size Ax00 Ax01 Ax02 x0.d.length x0.i.length x0.r.length x0 from ⟨IntIn.of_own o0, IntIn.of_own o1, IntIn.of_own o2⟩)
  have Lx0 := Lib.hid (Below.refl w6.heap.size w6)
  clear o0 o1 o2
  obtain ⟨w7, hw⟩ : ∃ wb, wb = w6.alloc (.cells #[.slice Ax00 x0.d.length cx00, .slice Ax01 x0.i.length cx01, .slice Ax02 x0.r.length cx02] 26) := ⟨_, rfl⟩
  have hb : Below w6.heap.size w6 w7 := by rw [hw]; exact (Below.refl _ _).alloc (Nat.le_refl _) _
  have La0 := Lib.hid (La0.out.trans (hb.mono La0.out.size))
  have La1 := Lib.hid (La1.out.trans (hb.mono La1.out.size))
  have Lx0 := Lib.hid (Lx0.out.trans (hb.mono Lx0.out.size))
  have LB0 := Lib.hid (LB0.out.trans (hb.mono LB0.out.size))
  have LB1 := Lib.hid (LB1.out.trans (hb.mono LB1.out.size))
  have LW := Lib.hid (LW.out.trans (hb.mono LW.out.size))
  clear hb
  have HXx0 := Lib.hid (show Box3 w7 w6.heap.size (.slice Ax00 x0.d.length cx00) (.slice Ax01 x0.i.length cx01) (.slice Ax02 x0.r.length cx02) by rw [hw]; exact Box3.made _ _ _ _ _)
  have GLx0 := Lib.hid (show w6.heap.size < w7.heap.size by rw [hw]; simp)
  have LBx0 := Lib.hid (Below.refl w7.heap.size w7)
  have HW := Lib.hid hw
  clear hw
  obtain ⟨g10, g11, g12⟩ := HX1.out.below LB1.out GL1.out
  rw [HW.out] at g10 g11 g12
  go_wp2_with fail
  clear g10 g11 g12
  rw [← HW.out]
  clear HW
  refine (toCost_any _ _ _ _ _ _ _ _ _ x1 _ (Ia1.out.to_below La1.out) hn10 hn11 hn12).mono ?_
  rintro e w8 ⟨Ax10, Ax11, Ax12, cx10, cx11, cx12, rfl, o0, o1, o2, _, _, _, hb⟩
  have La0 := Lib.hid (La0.out.trans (hb.mono La0.out.size))
  have La1 := Lib.hid (La1.out.trans (hb.mono La1.out.size))
  have Lx0 := Lib.hid (Lx0.out.trans (hb.mono Lx0.out.size))
  have LB0 := Lib.hid (LB0.out.trans (hb.mono LB0.out.size))
  have LB1 := Lib.hid (LB1.out.trans (hb.mono LB1.out.size))
  have LBx0 := Lib.hid (LBx0.out.trans (hb.mono LBx0.out.size))
  have LW := Lib.hid (LW.out.trans (hb.mono LW.out.size))
  clear hb
  have Ix1 := Lib.hid (show CoIn w8 w8.heap.size Ax10 Ax11 Ax12 x1.d.length x1.i.length x1.r.length x1 from ⟨IntIn.of_own o0, IntIn.of_own o1, IntIn.of_own o2⟩)
  have Lx1 := Lib.hid (Below.refl w8.heap.size w8)
  clear o0 o1 o2
  obtain ⟨w9, hw⟩ : ∃ wb, wb = w8.alloc (.cells #[.slice Ax10 x1.d.length cx10, .slice Ax11 x1.i.length cx11, .slice Ax12 x1.r.length cx12] 26) := ⟨_, rfl⟩
  have hb : Below w8.heap.size w8 w9 := by rw [hw]; exact (Below.refl _ _).alloc (Nat.le_refl _) _
  have La0 := Lib.hid (La0.out.trans (hb.mono La0.out.size))
  have La1 := Lib.hid (La1.out.trans (hb.mono La1.out.size))
  have Lx0 := Lib.hid (Lx0.out.trans (hb.mono Lx0.out.size))
  have Lx1 := Lib.hid (Lx1.out.trans (hb.mono Lx1.out.size))
  have LB0 := Lib.hid (LB0.out.trans (hb.mono LB0.out.size))
  have LB1 := Lib.hid (LB1.out.trans (hb.mono LB1.out.size))
  have LBx0 := Lib.hid (LBx0.out.trans (hb.mono LBx0.out.size))
  have LW := Lib.hid (LW.out.trans (hb.mono LW.out.size))
  clear hb
  have HXx1 := Lib.hid (show Box3 w9 w8.heap.size (.slice Ax10 x1.d.length cx10) (.slice Ax11 x1.i.length cx11) (.slice Ax12 x1.r.length cx12) by rw [hw]; exact Box3.made _ _ _ _ _)
  have GLx1 := Lib.hid (show w8.heap.size < w9.heap.size by rw [hw]; simp)
  have LBx1 := Lib.hid (Below.refl w9.heap.size w9)
  have HW := Lib.hid hw
  clear hw
  obtain ⟨gx00, gx01, gx02⟩ := HXx0.out.below LBx0.out GLx0.out
  obtain ⟨gx10, gx11, gx12⟩ := HXx1.out.below LBx1.out GLx1.out
  rw [HW.out] at gx00 gx01 gx02 gx10 gx11 gx12
  go_wp2_with fail
  clear gx00 gx01 gx02
  clear gx10 gx11 gx12
  rw [← HW.out]
  clear HW
  refine (implSameCost_any _ _ _ _ _ _ _ _ _ _ _ _ _ _ _ _ _ _ x0 x1 _ (Ix0.out.to_below Lx0.out) (Ix1.out.to_below Lx1.out) (by rw [Hn0.out.1]; exact hn00) (by rw [Hn0.out.2.1]; exact hn01) (by rw [Hn0.out.2.2]; exact hn02) (by rw [Hn1.out.1]; exact hn10) (by rw [Hn1.out.2.1]; exact hn11) (by rw [Hn1.out.2.2]; exact hn12)).mono ?_
  rintro e w10 ⟨rfl, hb⟩
  have La0 := Lib.hid (La0.out.trans (hb.mono La0.out.size))
  have La1 := Lib.hid (La1.out.trans (hb.mono La1.out.size))
  have Lx0 := Lib.hid (Lx0.out.trans (hb.mono Lx0.out.size))
  have Lx1 := Lib.hid (Lx1.out.trans (hb.mono Lx1.out.size))
  have LB0 := Lib.hid (LB0.out.trans (hb.mono LB0.out.size))
  have LB1 := Lib.hid (LB1.out.trans (hb.mono LB1.out.size))
  have LBx0 := Lib.hid (LBx0.out.trans (hb.mono LBx0.out.size))
  have LBx1 := Lib.hid (LBx1.out.trans (hb.mono LBx1.out.size))
  have LW := Lib.hid (LW.out.trans (hb.mono LW.out.size))
  clear hb
  obtain ⟨gx00, gx01, gx02⟩ := HXx0.out.below LBx0.out GLx0.out
  obtain ⟨g00, g01, g02⟩ := HX0.out.below LB0.out GL0.out
  go_wp2_with fail
  have S0 := Lib.hid (show w10.drew.cell? ⟨w6.heap.size, 0, none⟩ = some (.slice Ax00 x0.d.length cx00) ∧ w10.drew.cell? ⟨w6.heap.size, 1, none⟩ = some (.slice Ax01 x0.i.length cx01) ∧ w10.drew.cell? ⟨w6.heap.size, 2, none⟩ = some (.slice Ax02 x0.r.length cx02) ∧ w10.drew.cell? ⟨w.heap.size, 0, none⟩ = some (.slice A00 n00 c00) ∧ w10.drew.cell? ⟨w.heap.size, 1, none⟩ = some (.slice A01 n01 c01) ∧ w10.drew.cell? ⟨w.heap.size, 2, none⟩ = some (.slice A02 n02 c02) ∧ SixG w10 (w6.heap.size) (w.heap.size) w10.drew from ⟨gx00, gx01, gx02, g00, g01, g02, (Below.refl _ _).drew, Nat.lt_of_lt_of_le GLx0.out LBx0.out.size, Nat.lt_of_lt_of_le GL0.out LB0.out.size⟩)
  clear gx00 gx01 gx02
  clear g00 g01 g02
  go_region_held3 (fun wq => wq.cell? ⟨w6.heap.size, 0, none⟩ = some (.slice Ax00 x0.d.length cx00) ∧ wq.cell? ⟨w6.heap.size, 1, none⟩ = some (.slice Ax01 x0.i.length cx01) ∧ wq.cell? ⟨w6.heap.size, 2, none⟩ = some (.slice Ax02 x0.r.length cx02) ∧ wq.cell? ⟨w.heap.size, 0, none⟩ = some (.slice A00 n00 c00) ∧ wq.cell? ⟨w.heap.size, 1, none⟩ = some (.slice A01 n01 c01) ∧ wq.cell? ⟨w.heap.size, 2, none⟩ = some (.slice A02 n02 c02) ∧ SixG w10 (w6.heap.size) (w.heap.size) wq) (first | exact S0.out | (refine six_keep ?_ hb; assumption)) (first | (go_at_call 22; refine (toCost_any _ _ _ _ _ _ _ _ _ x0 _ (Ia0.out.to_below (La0.out.trans ((six_below (by assumption)).mono La0.out.size))) hn00 hn01 hn02).mono ?_; rintro e w11 ⟨Ay00, Ay01, Ay02, cy00, cy01, cy02, rfl, o0, o1, o2, _, _, _, hb⟩) | (go_at_call 23; refine (eqCost_any _ _ _ _ _ _ _ _ _ x0 _ _ _ _ _ _ _ _ _ x0 _ (Ix0.out.to_below (Lx0.out.trans ((six_below (by assumption)).mono Lx0.out.size))) ⟨IntIn.of_own o0, IntIn.of_own o1, IntIn.of_own o2⟩ (by rw [Hn0.out.1]; exact hn00) (by rw [Hn0.out.2.1]; exact hn01) (by rw [Hn0.out.2.2]; exact hn02) (by rw [Hn0.out.1]; exact hn00) (by rw [Hn0.out.2.1]; exact hn01) (by rw [Hn0.out.2.2]; exact hn02)).mono ?_; rintro e w12 ⟨rfl, hb⟩; rw [Co.same_self]))
  have hb := Lib.hid (show SixG w10 (w6.heap.size) (w.heap.size) w12 by (first | (rename_i q; exact q.2.2.2.2.2.2) | (rename_i q _; exact q.2.2.2.2.2.2)))
  have hb := hb.out.1
  clear S0
  have La0 := Lib.hid (La0.out.trans (hb.mono La0.out.size))
  have La1 := Lib.hid (La1.out.trans (hb.mono La1.out.size))
  have Lx0 := Lib.hid (Lx0.out.trans (hb.mono Lx0.out.size))
  have Lx1 := Lib.hid (Lx1.out.trans (hb.mono Lx1.out.size))
  have LB0 := Lib.hid (LB0.out.trans (hb.mono LB0.out.size))
  have LB1 := Lib.hid (LB1.out.trans (hb.mono LB1.out.size))
  have LBx0 := Lib.hid (LBx0.out.trans (hb.mono LBx0.out.size))
  have LBx1 := Lib.hid (LBx1.out.trans (hb.mono LBx1.out.size))
  have LW := Lib.hid (LW.out.trans (hb.mono LW.out.size))
  clear hb
  obtain ⟨gx10, gx11, gx12⟩ := HXx1.out.below LBx1.out GLx1.out
  obtain ⟨g10, g11, g12⟩ := HX1.out.below LB1.out GL1.out
  go_wp2_with fail
  have S0 := Lib.hid (show w12.drew.cell? ⟨w8.heap.size, 0, none⟩ = some (.slice Ax10 x1.d.length cx10) ∧ w12.drew.cell? ⟨w8.heap.size, 1, none⟩ = some (.slice Ax11 x1.i.length cx11) ∧ w12.drew.cell? ⟨w8.heap.size, 2, none⟩ = some (.slice Ax12 x1.r.length cx12) ∧ w12.drew.cell? ⟨w.heap.size + 1, 0, none⟩ = some (.slice A10 n10 c10) ∧ w12.drew.cell? ⟨w.heap.size + 1, 1, none⟩ = some (.slice A11 n11 c11) ∧ w12.drew.cell? ⟨w.heap.size + 1, 2, none⟩ = some (.slice A12 n12 c12) ∧ SixG w12 (w8.heap.size) (w.heap.size + 1) w12.drew from ⟨gx10, gx11, gx12, g10, g11, g12, (Below.refl _ _).drew, Nat.lt_of_lt_of_le GLx1.out LBx1.out.size, Nat.lt_of_lt_of_le GL1.out LB1.out.size⟩)
  clear gx10 gx11 gx12
  clear g10 g11 g12
  go_region_held3 (fun wq => wq.cell? ⟨w8.heap.size, 0, none⟩ = some (.slice Ax10 x1.d.length cx10) ∧ wq.cell? ⟨w8.heap.size, 1, none⟩ = some (.slice Ax11 x1.i.length cx11) ∧ wq.cell? ⟨w8.heap.size, 2, none⟩ = some (.slice Ax12 x1.r.length cx12) ∧ wq.cell? ⟨w.heap.size + 1, 0, none⟩ = some (.slice A10 n10 c10) ∧ wq.cell? ⟨w.heap.size + 1, 1, none⟩ = some (.slice A11 n11 c11) ∧ wq.cell? ⟨w.heap.size + 1, 2, none⟩ = some (.slice A12 n12 c12) ∧ SixG w12 (w8.heap.size) (w.heap.size + 1) wq) (first | exact S0.out | (refine six_keep ?_ hb; assumption)) (first | (go_at_call 22; refine (toCost_any _ _ _ _ _ _ _ _ _ x1 _ (Ia1.out.to_below (La1.out.trans ((six_below (by assumption)).mono La1.out.size))) hn10 hn11 hn12).mono ?_; rintro e w13 ⟨Ay10, Ay11, Ay12, cy10, cy11, cy12, rfl, o0, o1, o2, _, _, _, hb⟩) | (go_at_call 23; refine (eqCost_any _ _ _ _ _ _ _ _ _ x1 _ _ _ _ _ _ _ _ _ x1 _ (Ix1.out.to_below (Lx1.out.trans ((six_below (by assumption)).mono Lx1.out.size))) ⟨IntIn.of_own o0, IntIn.of_own o1, IntIn.of_own o2⟩ (by rw [Hn1.out.1]; exact hn10) (by rw [Hn1.out.2.1]; exact hn11) (by rw [Hn1.out.2.2]; exact hn12) (by rw [Hn1.out.1]; exact hn10) (by rw [Hn1.out.2.1]; exact hn11) (by rw [Hn1.out.2.2]; exact hn12)).mono ?_; rintro e w14 ⟨rfl, hb⟩; rw [Co.same_self]))
  have hb := Lib.hid (show SixG w12 (w8.heap.size) (w.heap.size + 1) w14 by (first | (rename_i q; exact q.2.2.2.2.2.2) | (rename_i q _; exact q.2.2.2.2.2.2)))
  have hb := hb.out.1
  clear S0
  have La0 := Lib.hid (La0.out.trans (hb.mono La0.out.size))
  have La1 := Lib.hid (La1.out.trans (hb.mono La1.out.size))
  have Lx0 := Lib.hid (Lx0.out.trans (hb.mono Lx0.out.size))
  have Lx1 := Lib.hid (Lx1.out.trans (hb.mono Lx1.out.size))
  have LB0 := Lib.hid (LB0.out.trans (hb.mono LB0.out.size))
  have LB1 := Lib.hid (LB1.out.trans (hb.mono LB1.out.size))
  have LBx0 := Lib.hid (LBx0.out.trans (hb.mono LBx0.out.size))
  have LBx1 := Lib.hid (LBx1.out.trans (hb.mono LBx1.out.size))
  have LW := Lib.hid (LW.out.trans (hb.mono LW.out.size))
  clear hb
  go_wp2
  go_ret
  exact ⟨rfl, LW.out⟩

end Go.Proofs.Ytpdpkcadolcbmaa
