/- Contracts (ExPutCost). -/
import Derived.Test.YtpdpkcadolcbmaaPutCS
import Derived.Test.YtpdpkcadolcbmaaPutCI
import Derived.Test.YtpdpkcadolcbmaaSzC
import Derived.Test.YtpdpkcadolcbmaaToCo
import Derived.Test.YtpdpkcadolcbmaaHarC
import Derived.Test.YtpdpkcadolcbmaaCoX
import Derived.Deep.RegionHeld3
namespace Go.Proofs.Ytpdpkcadolcbmaa
open Go.RowKit
set_option linter.unusedVariables false

set_option maxHeartbeats 3200000 in
set_option maxRecDepth 100000 in
theorem exactPutCost_walk (A00 A01 A02 : Option Addr) (n00 n01 n02 c00 c01 c02 : Nat) (x0 : Co) (le00 : n00 ≤ maxLen) (le01 : n01 ≤ maxLen) (le02 : n02 ≤ maxLen) (w : World) (h0 : CoIn w w.heap.size A00 A01 A02 n00 n01 n02 x0) :
    Calls Try.prog 10 #[.agg #[.slice A00 n00 c00, .slice A01 n01 c01, .slice A02 n02 c02]] w fun e w' => e = .returned (.bool true) ∧ Below w.heap.size w w' := by
  have Ia0 := Lib.hid h0
  have Hn0 := Lib.hid h0.len
  clear h0
  unfold maxLen at le00 le01 le02
  obtain ⟨wa, hwa⟩ : ∃ wa, wa = (w.alloc (.cells #[.slice A00 n00 c00, .slice A01 n01 c01, .slice A02 n02 c02] 34)) := ⟨_, rfl⟩
  have LW := Lib.hid (show Below w.heap.size w wa by rw [hwa]; exact (Below.refl _ _).alloc (Nat.le_refl _) _)
  have HX0 := Lib.hid (show Box3 wa (w.heap.size) (.slice A00 n00 c00) (.slice A01 n01 c01) (.slice A02 n02 c02) by rw [hwa]; exact Box3.made _ _ _ _ _)
  have GL0 := Lib.hid (show w.heap.size < wa.heap.size by rw [hwa]; simp)
  have LB0 := Lib.hid (Below.refl wa.heap.size wa)
  by_cases hs0 : n00 + n01 + n02 ≤ 1048576
  rotate_left
  · go_enter Try.func10, Try.ntmps10
    go_wp2_with fail
    rw [← hwa]
    refine (szCost_any _ _ _ _ _ _ _ _ _ (1048576) _ (by omega) (by omega) (by omega) (by omega) (by omega)).mono ?_
    rintro e w1 ⟨rfl, hb⟩
    have LB0 := Lib.hid (LB0.out.trans (hb.mono LB0.out.size))
    have LW := Lib.hid (LW.out.trans (hb.mono LW.out.size))
    clear hb
    rw [if_neg (by omega)]
    go_wp2
    go_ret
    exact ⟨rfl, LW.out⟩
  have hn00 : n00 ≤ 1048576 := by omega
  have hn01 : n01 ≤ 1048576 := by omega
  have hn02 : n02 ≤ 1048576 := by omega
  have La0 := Lib.hid LW.out
  go_enter Try.func10, Try.ntmps10
  go_wp2_with fail
  rw [← hwa]
  refine (szCost_any _ _ _ _ _ _ _ _ _ (1048576) _ (by omega) (by omega) (by omega) (by omega) (by omega)).mono ?_
  rintro e w1 ⟨rfl, hb⟩
  have La0 := Lib.hid (La0.out.trans (hb.mono La0.out.size))
  have LB0 := Lib.hid (LB0.out.trans (hb.mono LB0.out.size))
  have LW := Lib.hid (LW.out.trans (hb.mono LW.out.size))
  clear hb
  rw [if_pos (by omega)]
  obtain ⟨g00, g01, g02⟩ := HX0.out.below LB0.out GL0.out
  go_wp2_with fail
  clear g00 g01 g02
  refine (toCost_any _ _ _ _ _ _ _ _ _ x0 _ (Ia0.out.to_below La0.out) hn00 hn01 hn02).mono ?_
  rintro e w2 ⟨As00, As01, As02, cs00, cs01, cs02, rfl, o0, o1, o2, _, _, _, hb⟩
  have La0 := Lib.hid (La0.out.trans (hb.mono La0.out.size))
  have LB0 := Lib.hid (LB0.out.trans (hb.mono LB0.out.size))
  have LW := Lib.hid (LW.out.trans (hb.mono LW.out.size))
  clear hb
  have Is0 := Lib.hid (show CoIn w2 w2.heap.size As00 As01 As02 x0.d.length x0.i.length x0.r.length x0 from ⟨IntIn.of_own o0, IntIn.of_own o1, IntIn.of_own o2⟩)
  have Ls0 := Lib.hid (Below.refl w2.heap.size w2)
  clear o0 o1 o2
  go_wp2_with fail
  refine (specPutCost_any _ _ _ _ _ _ _ _ _ x0  _ (Is0.out.to_below Ls0.out) (by rw [Hn0.out.1]; exact hn00) (by rw [Hn0.out.2.1]; exact hn01) (by rw [Hn0.out.2.2]; exact hn02)).mono ?_
  rintro e w3 ⟨rfl, hb⟩
  have La0 := Lib.hid (La0.out.trans (hb.mono La0.out.size))
  have Ls0 := Lib.hid (Ls0.out.trans (hb.mono Ls0.out.size))
  have LB0 := Lib.hid (LB0.out.trans (hb.mono LB0.out.size))
  have LW := Lib.hid (LW.out.trans (hb.mono LW.out.size))
  clear hb
  obtain ⟨g00, g01, g02⟩ := HX0.out.below LB0.out GL0.out
  go_wp2_with fail
  clear g00 g01 g02
  refine (toCost_any _ _ _ _ _ _ _ _ _ x0 _ (Ia0.out.to_below La0.out) hn00 hn01 hn02).mono ?_
  rintro e w4 ⟨Ax00, Ax01, Ax02, cx00, cx01, cx02, rfl, o0, o1, o2, _, _, _, hb⟩
  have La0 := Lib.hid (La0.out.trans (hb.mono La0.out.size))
  have LB0 := Lib.hid (LB0.out.trans (hb.mono LB0.out.size))
  have LW := Lib.hid (LW.out.trans (hb.mono LW.out.size))
  clear hb
  have Ix0 := Lib.hid (show CoIn w4 w4.heap.size Ax00 Ax01 Ax02 x0.d.length x0.i.length x0.r.length x0 from ⟨IntIn.of_own o0, IntIn.of_own o1, IntIn.of_own o2⟩)
  have Lx0 := Lib.hid (Below.refl w4.heap.size w4)
  clear o0 o1 o2
  obtain ⟨w5, hw⟩ : ∃ wb, wb = w4.alloc (.cells #[.slice Ax00 x0.d.length cx00, .slice Ax01 x0.i.length cx01, .slice Ax02 x0.r.length cx02] 26) := ⟨_, rfl⟩
  have hb : Below w4.heap.size w4 w5 := by rw [hw]; exact (Below.refl _ _).alloc (Nat.le_refl _) _
  have La0 := Lib.hid (La0.out.trans (hb.mono La0.out.size))
  have Lx0 := Lib.hid (Lx0.out.trans (hb.mono Lx0.out.size))
  have LB0 := Lib.hid (LB0.out.trans (hb.mono LB0.out.size))
  have LW := Lib.hid (LW.out.trans (hb.mono LW.out.size))
  clear hb
  have HXx0 := Lib.hid (show Box3 w5 w4.heap.size (.slice Ax00 x0.d.length cx00) (.slice Ax01 x0.i.length cx01) (.slice Ax02 x0.r.length cx02) by rw [hw]; exact Box3.made _ _ _ _ _)
  have GLx0 := Lib.hid (show w4.heap.size < w5.heap.size by rw [hw]; simp)
  have LBx0 := Lib.hid (Below.refl w5.heap.size w5)
  have HW := Lib.hid hw
  clear hw
  obtain ⟨gx00, gx01, gx02⟩ := HXx0.out.below LBx0.out GLx0.out
  rw [HW.out] at gx00 gx01 gx02
  go_wp2_with fail
  clear gx00 gx01 gx02
  rw [← HW.out]
  clear HW
  refine (implPutCost_any _ _ _ _ _ _ _ _ _ x0  _ (Ix0.out.to_below Lx0.out) (by rw [Hn0.out.1]; exact hn00) (by rw [Hn0.out.2.1]; exact hn01) (by rw [Hn0.out.2.2]; exact hn02)).mono ?_
  rintro e w6 ⟨rfl, hb⟩
  have La0 := Lib.hid (La0.out.trans (hb.mono La0.out.size))
  have Lx0 := Lib.hid (Lx0.out.trans (hb.mono Lx0.out.size))
  have LB0 := Lib.hid (LB0.out.trans (hb.mono LB0.out.size))
  have LBx0 := Lib.hid (LBx0.out.trans (hb.mono LBx0.out.size))
  have LW := Lib.hid (LW.out.trans (hb.mono LW.out.size))
  clear hb
  obtain ⟨gx00, gx01, gx02⟩ := HXx0.out.below LBx0.out GLx0.out
  obtain ⟨g00, g01, g02⟩ := HX0.out.below LB0.out GL0.out
  go_wp2_with fail
  have S0 := Lib.hid (show w6.drew.cell? ⟨w4.heap.size, 0, none⟩ = some (.slice Ax00 x0.d.length cx00) ∧ w6.drew.cell? ⟨w4.heap.size, 1, none⟩ = some (.slice Ax01 x0.i.length cx01) ∧ w6.drew.cell? ⟨w4.heap.size, 2, none⟩ = some (.slice Ax02 x0.r.length cx02) ∧ w6.drew.cell? ⟨w.heap.size, 0, none⟩ = some (.slice A00 n00 c00) ∧ w6.drew.cell? ⟨w.heap.size, 1, none⟩ = some (.slice A01 n01 c01) ∧ w6.drew.cell? ⟨w.heap.size, 2, none⟩ = some (.slice A02 n02 c02) ∧ SixG w6 (w4.heap.size) (w.heap.size) w6.drew from ⟨gx00, gx01, gx02, g00, g01, g02, (Below.refl _ _).drew, Nat.lt_of_lt_of_le GLx0.out LBx0.out.size, Nat.lt_of_lt_of_le GL0.out LB0.out.size⟩)
  clear gx00 gx01 gx02
  clear g00 g01 g02
  go_region_held3 (fun wq => wq.cell? ⟨w4.heap.size, 0, none⟩ = some (.slice Ax00 x0.d.length cx00) ∧ wq.cell? ⟨w4.heap.size, 1, none⟩ = some (.slice Ax01 x0.i.length cx01) ∧ wq.cell? ⟨w4.heap.size, 2, none⟩ = some (.slice Ax02 x0.r.length cx02) ∧ wq.cell? ⟨w.heap.size, 0, none⟩ = some (.slice A00 n00 c00) ∧ wq.cell? ⟨w.heap.size, 1, none⟩ = some (.slice A01 n01 c01) ∧ wq.cell? ⟨w.heap.size, 2, none⟩ = some (.slice A02 n02 c02) ∧ SixG w6 (w4.heap.size) (w.heap.size) wq) (first | exact S0.out | (refine six_keep ?_ hb; assumption)) (first | (go_at_call 22; refine (toCost_any _ _ _ _ _ _ _ _ _ x0 _ (Ia0.out.to_below (La0.out.trans ((six_below (by assumption)).mono La0.out.size))) hn00 hn01 hn02).mono ?_; rintro e w7 ⟨Ay00, Ay01, Ay02, cy00, cy01, cy02, rfl, o0, o1, o2, _, _, _, hb⟩) | (go_at_call 23; refine (eqCost_any _ _ _ _ _ _ _ _ _ x0 _ _ _ _ _ _ _ _ _ x0 _ (Ix0.out.to_below (Lx0.out.trans ((six_below (by assumption)).mono Lx0.out.size))) ⟨IntIn.of_own o0, IntIn.of_own o1, IntIn.of_own o2⟩ (by rw [Hn0.out.1]; exact hn00) (by rw [Hn0.out.2.1]; exact hn01) (by rw [Hn0.out.2.2]; exact hn02) (by rw [Hn0.out.1]; exact hn00) (by rw [Hn0.out.2.1]; exact hn01) (by rw [Hn0.out.2.2]; exact hn02)).mono ?_; rintro e w8 ⟨rfl, hb⟩; rw [Co.same_self]))
  have hb := Lib.hid (show SixG w6 (w4.heap.size) (w.heap.size) w8 by (first | (rename_i q; exact q.2.2.2.2.2.2) | (rename_i q _; exact q.2.2.2.2.2.2)))
  have hb := hb.out.1
  clear S0
  have La0 := Lib.hid (La0.out.trans (hb.mono La0.out.size))
  have Lx0 := Lib.hid (Lx0.out.trans (hb.mono Lx0.out.size))
  have LB0 := Lib.hid (LB0.out.trans (hb.mono LB0.out.size))
  have LBx0 := Lib.hid (LBx0.out.trans (hb.mono LBx0.out.size))
  have LW := Lib.hid (LW.out.trans (hb.mono LW.out.size))
  clear hb
  go_wp2
  go_ret
  exact ⟨rfl, LW.out⟩

end Go.Proofs.Ytpdpkcadolcbmaa
