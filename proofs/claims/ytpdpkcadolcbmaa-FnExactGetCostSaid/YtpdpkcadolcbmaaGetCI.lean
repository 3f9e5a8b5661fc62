/- Contracts (GetCI). -/
import Derived.Test.YtpdpkcadolcbmaaOwnB
import Derived.Test.YtpdpkcadolcbmaaGetTI
import Derived.Test.YtpdpkcadolcbmaaCostOkI
import Derived.Test.YtpdpkcadolcbmaaThree2
import Derived.Laws.ResultCell
namespace Go.Proofs.Ytpdpkcadolcbmaa
open Go.RowKit
set_option linter.unusedVariables false

set_option maxHeartbeats 1600000 in
set_option maxRecDepth 100000 in
theorem implGetCost_any (s : ByteArray) (hs : s.size ≤ maxLen) (w : World) :
    Calls Try.prog 35 #[.string s] w (OwnCoB (Co.get s) w) := by
  obtain ⟨q0, h0⟩ : ∃ q, q = Zs.getTo 6 s := ⟨_, rfl⟩
  obtain ⟨q1, h1⟩ : ∃ q, q = Zs.getTo 6 q0.2 := ⟨_, rfl⟩
  obtain ⟨q2, h2⟩ : ∃ q, q = Zs.getTo 36 q1.2 := ⟨_, rfl⟩
  have hR : Co.read s = (⟨q0.1, q1.1, q2.1⟩, q2.2) := by rw [h2, h1, h0]; rfl
  have s0 : q0.2.size ≤ maxLen := by rw [h0]; exact Nat.le_trans (Zs.getTo_size 6 s) hs
  have s1 : q1.2.size ≤ maxLen := by rw [h1]; exact Nat.le_trans (Zs.getTo_size 6 _) s0
  have l0 : q0.1.length ≤ 36 := by have := Zs.getTo_len 6 s; rw [← h0] at this; omega
  have l1 : q1.1.length ≤ 36 := by have := Zs.getTo_len 6 q0.2; rw [← h1] at this; omega
  have l2 : q2.1.length ≤ 36 := by have := Zs.getTo_len 36 q1.2; rw [← h2] at this; omega
  have T0 := Lib.hid fun w => getTable_any s hs 6 (by decide) w
  have T1 := Lib.hid fun w => getTable_any q0.2 s0 6 (by decide) w
  have T2 := Lib.hid fun w => getTable_any q1.2 s1 36 (by decide) w
  rw [← h0] at T0
  rw [← h1] at T1
  rw [← h2] at T2
  have HLN := Lib.hid (show q0.1.length ≤ 1048576 ∧ q1.1.length ≤ 1048576 ∧ q2.1.length ≤ 1048576 from ⟨by omega, by omega, by omega⟩)
  clear h0 h1 h2 s0 s1 l0 l1 l2 hs
  obtain ⟨q0, t0⟩ := q0
  obtain ⟨q1, t1⟩ := q1
  obtain ⟨q2, t2⟩ := q2
  simp only at T0 T1 T2 HLN hR
  have HR := Lib.hid hR
  obtain ⟨N0, e0⟩ : ∃ N, N = q0.length := ⟨_, rfl⟩
  obtain ⟨N1, e1⟩ : ∃ N, N = q1.length := ⟨_, rfl⟩
  obtain ⟨N2, e2⟩ : ∃ N, N = q2.length := ⟨_, rfl⟩
  rw [← e0] at T0
  rw [← e1] at T1
  rw [← e2] at T2
  rw [← e0, ← e1, ← e2] at HLN
  have HE := Lib.hid (And.intro e0 (And.intro e1 e2))
  clear hR e0 e1 e2
  obtain ⟨wz, hwz⟩ : ∃ wz, wz = w.alloc (.cells #[.slice none 0 0, .slice none 0 0, .slice none 0 0] 26) := ⟨_, rfl⟩
  have HX := Lib.hid (show Box3 wz w.heap.size (.slice none 0 0) (.slice none 0 0) (.slice none 0 0) by rw [hwz]; exact Box3.made _ _ _ _ _)
  have HF := Lib.hid (show ∀ off, wz.frozen? ⟨w.heap.size, off, none⟩ = false by rw [hwz]; exact fun off => by simp)
  have HB := Lib.hid (show Below w.heap.size w wz by rw [hwz]; exact (Below.refl _ _).alloc (Nat.le_refl _) _)
  have HS := Lib.hid (show wz.heap.size = w.heap.size + 1 by rw [hwz]; simp)
  go_enter Try.func35, Try.ntmps35
  go_wp2_with fail
  rw [← hwz]
  clear hwz
  refine (T0.out _).mono ?_
  rintro e w1 ⟨B0, d0, rfl, o0, b0⟩
  go_wp2_with fail
  refine (T1.out _).mono ?_
  rintro e w2 ⟨B1, d1, rfl, o1, b1⟩
  go_wp2_with fail
  refine (T2.out _).mono ?_
  rintro e w3 ⟨B2, d2, rfl, o2, b2⟩
  have z0 := b0.size
  have z1 := b1.size
  have z2 := b2.size
  have zs := HS.out
  have b03 : Below wz.heap.size wz w3 := b0.trans ((b1.mono (by omega)).trans (b2.mono (by omega)))
  obtain ⟨wc, hwc⟩ : ∃ wc, wc = w3.alloc (.cells #[.slice B0 N0 d0, .slice B1 N1 d1, .slice B2 N2 d2] 26) := ⟨_, rfl⟩
  have hbc : Below w3.heap.size w3 wc := by rw [hwc]; exact (Below.refl _ _).alloc (Nat.le_refl _) _
  have zc := hbc.size
  have hzc : wc.heap.size = w3.heap.size + 1 := by rw [hwc]; simp
  obtain ⟨g, eg⟩ : ∃ g, g = w3.heap.size := ⟨_, rfl⟩
  have HC := Lib.hid (show Box3 wc g (.slice B0 N0 d0) (.slice B1 N1 d1) (.slice B2 N2 d2) by rw [hwc, eg]; exact Box3.made _ _ _ _ _)
  have HO := Lib.hid (show OwnC wc (w.heap.size + 1) B0 B1 B2 d0 d1 d2 ⟨q0, q1, q2⟩ by
    unfold OwnC
    simp only
    rw [← HE.out.1, ← HE.out.2.1, ← HE.out.2.2]
    exact ⟨own_base (own_below (own_below (own_below o0 b1) b2) hbc) (by omega), own_base (own_below (own_below o1 b2) hbc) (by omega), own_base (own_below o2 hbc) (by omega), Apart.of_new o0 o1, Apart.of_new o0 (own_base o2 z1), Apart.of_new o1 o2⟩)
  have HX := Lib.hid (HX.out.below (b03.trans (hbc.mono (by omega))) (by omega))
  have HF := Lib.hid (free_below (b03.trans (hbc.mono (by omega))) (by omega) HF.out)
  have HB := Lib.hid (HB.out.trans ((b03.trans (hbc.mono (by omega))).mono (by omega)))
  have HZ := Lib.hid (show w.heap.size < wc.heap.size ∧ g < wc.heap.size ∧ ¬ w.heap.size = g by omega)
  clear b03 hbc zc hzc z0 z1 z2 zs o0 o1 o2 b0 b1 b2
  have keep : ∀ (wq : World) (v : Value) (n : Nat) (ys : List Value) (u0 u1 u2 : Value), wq.ownsRow (w.heap.size + 1) 3 1 v n ys → (((wq.setCell ⟨w.heap.size, 0, none⟩ u0).setCell ⟨w.heap.size, 1, none⟩ u1).setCell ⟨w.heap.size, 2, none⟩ u2).ownsRow w.heap.size 3 1 v n ys := fun _ _ _ _ _ _ _ k =>
    own_base (own_grown (own_grown (own_grown k (Kit.grown_set _ _ _ _) (fun b hb => by injection hb with hb; omega)) (Kit.grown_set _ _ _ _) (fun b hb => by injection hb with hb; omega)) (Kit.grown_set _ _ _ _) (fun b hb => by injection hb with hb; omega)) (by omega)
  have KP := Lib.hid keep
  clear keep
  have HIN : ∀ {wq : World}, OwnC wq (w.heap.size + 1) B0 B1 B2 d0 d1 d2 ⟨q0, q1, q2⟩ → CoIn wq wq.heap.size B0 B1 B2 N0 N1 N2 ⟨q0, q1, q2⟩ := fun h => by rw [HE.out.1, HE.out.2.1, HE.out.2.2]; exact h.to_in
  by_cases hq : t2.toList = []
  · have HQ0 := Lib.hid (show t2.size = 0 by rw [← ByteArray.size_data, ← Array.length_toList, ← ByteArray.toList_eq, hq]; rfl)
    have hq' : t2.toList = [] := hq
    go_wp2_with fail
    rw [← hwc, ← eg]
    clear hwc hq hq' eg
    refine (implCostOk_any _ _ _ _ _ _ _ _ _ ⟨q0, q1, q2⟩ _ (HIN HO.out) HLN.out.1 HLN.out.2.1 HLN.out.2.2).mono ?_
    rintro e w4 ⟨rfl, hb⟩
    have HO := Lib.hid (HO.out.below hb)
    have HX := Lib.hid (HX.out.below hb HZ.out.1)
    have HC := Lib.hid (HC.out.below hb HZ.out.2.1)
    have HF := Lib.hid (free_below hb HZ.out.1 HF.out)
    have HB := Lib.hid (HB.out.trans (hb.mono HB.out.size))
    clear hb
    obtain ⟨x0, x1, x2⟩ := HX.out
    obtain ⟨y0, y1, y2⟩ := HC.out
    have f0 := HF.out 0
    have f1 := HF.out 1
    have f2 := HF.out 2
    cases hok : Co.ok ⟨q0, q1, q2⟩ with
    | false =>
      have Hf := Lib.hid (show Co.get s = (Co.none, false) from Co.get_bad (by rw [HR.out]; exact hok))
      clear hok
      go_wp2
      refine bodyPost_ret (v := .tuple #[.agg #[.slice none 0 0, .slice none 0 0, .slice none 0 0], .bool false]) ?_ rfl ?_
      · rw [results_cell_tmp rfl]
        go_simp
      · rw [Hf.out]
        exact ⟨none, none, none, 0, 0, 0, rfl, OwnC.nil _ _, ((HB.out.setCell (Nat.le_refl _) _).setCell (Nat.le_refl _) _).setCell (Nat.le_refl _) _⟩
    | true =>
      have Hf := Lib.hid (show Co.get s = (⟨q0, q1, q2⟩, true) by rw [Co.get_yes (by rw [HR.out]; exact HQ0.out) (by rw [HR.out]; exact hok), HR.out])
      have HNE := Lib.hid HZ.out.2.2
      clear hok
      go_wp2
      refine bodyPost_ret (v := .tuple #[.agg #[.slice B0 N0 d0, .slice B1 N1 d1, .slice B2 N2 d2], .bool true]) ?_ rfl ?_
      · rw [results_cell_tmp rfl]
        go_simp
      · rw [Hf.out]
        unfold OwnCoB OwnC
        simp only
        rw [← HE.out.1, ← HE.out.2.1, ← HE.out.2.2]
        have ho := HO.out
        unfold OwnC at ho
        simp only at ho
        rw [← HE.out.1, ← HE.out.2.1, ← HE.out.2.2] at ho
        exact ⟨B0, B1, B2, d0, d1, d2, rfl, ⟨KP.out _ _ _ _ _ _ _ ho.1, KP.out _ _ _ _ _ _ _ ho.2.1, KP.out _ _ _ _ _ _ _ ho.2.2.1, ho.2.2.2⟩, ((HB.out.setCell (Nat.le_refl _) _).setCell (Nat.le_refl _) _).setCell (Nat.le_refl _) _⟩
  · have Hf := Lib.hid (show Co.get s = (Co.none, false) from Co.get_left (by rw [HR.out]; intro e; exact hq (by rw [ByteArray.toList_eq]; exact List.eq_nil_of_length_eq_zero (by rw [Array.length_toList]; exact e))))
    obtain ⟨x0, x1, x2⟩ := HX.out
    have f0 := HF.out 0
    have f1 := HF.out 1
    have f2 := HF.out 2
    rw [hwc] at x0 x1 x2 f0 f1 f2
    go_wp2
    rw [← hwc]
    refine bodyPost_ret (v := .tuple #[.agg #[.slice none 0 0, .slice none 0 0, .slice none 0 0], .bool false]) ?_ rfl ?_
    · rw [results_cell_tmp rfl]
      go_simp
    · rw [Hf.out]
      exact ⟨none, none, none, 0, 0, 0, rfl, OwnC.nil _ _, ((HB.out.setCell (Nat.le_refl _) _).setCell (Nat.le_refl _) _).setCell (Nat.le_refl _) _⟩

end Go.Proofs.Ytpdpkcadolcbmaa
