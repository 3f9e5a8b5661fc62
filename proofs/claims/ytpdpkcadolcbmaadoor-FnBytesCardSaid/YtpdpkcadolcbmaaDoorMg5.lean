/- Texts of one claim laid into one file, in build order: DrawCo, DrawPC, LabOkI, DepI, TreeOkI, PutI, Res2, ReadVarI, NodeI, GetI, ReadVarS, NumS, GetS. -/
import Derived.Test.YtpdpkcadolcbmaaDoorMg4
import Derived.BigQuiet
import Derived.Deep.RegionHeld3
import Derived.Outline
import Derived.Test.YtpdpkcadolcbmaaDoorRows
/- Contracts (DrawCo). -/
namespace Go.Proofs.YtpdpkcadolcbmaaDoor
open Go.RowKit
set_option linter.unusedVariables false

theorem CodeIn.onto {w w' : World} {B : Nat} {a : Option Addr} {cs : List Int} (h : CodeIn w B a cs) (hb : Below B w w') (hB : B ≤ w'.heap.size) : CodeIn w' w'.heap.size a cs := by
  intro j hj
  obtain ⟨b, off, h1, h2, h3, h4⟩ := h j hj
  exact ⟨b, off, h1, by omega, (hb.cell (p := ⟨b, off + j, none⟩) h2).trans h3, h4⟩
/-- a drawn cost, and two numbers -/
def DrawRC (w : World) (e : Ending) (w' : World) : Prop := ∃ a b : Int, ∃ (h0 h1 h2 c0 c2 : Nat) (A1 : Option Addr) (n1 q1 : Nat) (K : Co), e = .returned (.tuple #[.agg #[.slice (some ⟨h0, 0, none⟩) 6 c0, .slice A1 n1 q1, .slice (some ⟨h2, 0, none⟩) 36 c2], .int .i64 a, .int .i64 b]) ∧ (n1 = 6 ∧ A1 = some ⟨h1, 0, none⟩ ∨ n1 = 5) ∧ CoIn w' w'.heap.size (some ⟨h0, 0, none⟩) A1 (some ⟨h2, 0, none⟩) 6 n1 36 K ∧ Below w.heap.size w w'
/-- a drawn cost -/
def DrawPC (w : World) (e : Ending) (w' : World) : Prop := ∃ (h0 h1 h2 c0 c2 : Nat) (A1 : Option Addr) (n1 q1 : Nat) (K : Co), e = .returned (.agg #[.slice (some ⟨h0, 0, none⟩) 6 c0, .slice A1 n1 q1, .slice (some ⟨h2, 0, none⟩) 36 c2]) ∧ (n1 = 6 ∧ A1 = some ⟨h1, 0, none⟩ ∨ n1 = 5) ∧ CoIn w' w'.heap.size (some ⟨h0, 0, none⟩) A1 (some ⟨h2, 0, none⟩) 6 n1 36 K ∧ Below w.heap.size w w'
theorem results_cell_two {fn : Func} {p u v : Tmp} {ty : TypeId} (h : fn.results = #[.cell p ty, .tmp u, .tmp v]) (tmps : Array Value) (P : Program) (w : World) :
    (results fn tmps).run P w =
      ((asAddr (tmps.getD p undef)).run P w).andThen fun a w₁ => ((loadVar ty a).run P w₁).andThen fun x w₂ => .ok (.tuple #[x, tmps.getD u undef, tmps.getD v undef]) w₂ := by
  simp only [results, h]
  simp [Sem.run_bind, Result.andThen]
/-- a drawn cost behind the writing of the result's variable -/
theorem cost_out {w w1 wx : World} {s h0 h1 h2 c0 c1 c2 : Nat} {L0 L1 L2 : List Int} {v1 : Value} (o0 : wx.ownsRow w1.heap.size 3 1 (.slice (some ⟨h0, 0, none⟩) 6 c0) 6 (ints L0)) (o1 : wx.ownsRow w1.heap.size 3 1 (.slice (some ⟨h1, 0, none⟩) 6 c1) 6 (ints L1)) (o2 : wx.ownsRow w1.heap.size 3 1 (.slice (some ⟨h2, 0, none⟩) 36 c2) 36 (ints L2))
    (hs : s < w1.heap.size) (hv : v1 = .slice (some ⟨h1, 0, none⟩) 6 c1 ∨ v1 = .slice (some ⟨h1, 1, none⟩) 5 (c1 - 1)) (hB : Below s w wx) (u0 u1 u2 : Value) :
    ∃ A1 n1 q1 K, v1 = .slice A1 n1 q1 ∧ (n1 = 6 ∧ A1 = some ⟨h1, 0, none⟩ ∨ n1 = 5) ∧ CoIn (((wx.setCell ⟨s, 0, none⟩ u0).setCell ⟨s, 1, none⟩ u1).setCell ⟨s, 2, none⟩ u2) (((wx.setCell ⟨s, 0, none⟩ u0).setCell ⟨s, 1, none⟩ u1).setCell ⟨s, 2, none⟩ u2).heap.size (some ⟨h0, 0, none⟩) A1 (some ⟨h2, 0, none⟩) 6 n1 36 K ∧ Below s w (((wx.setCell ⟨s, 0, none⟩ u0).setCell ⟨s, 1, none⟩ u1).setCell ⟨s, 2, none⟩ u2) := by
  have hg : wx.grownBy (((wx.setCell ⟨s, 0, none⟩ u0).setCell ⟨s, 1, none⟩ u1).setCell ⟨s, 2, none⟩ u2) (some s) := Kit.grown_then_set (Kit.grown_then_set (Kit.grown_set _ _ _ _) _ _) _ _
  have hb := ((hB.setCell (p := ⟨s, 0, none⟩) (Nat.le_refl _) u0).setCell (p := ⟨s, 1, none⟩) (Nat.le_refl _) u1).setCell (p := ⟨s, 2, none⟩) (Nat.le_refl _) u2
  have k0 := IntIn.of_own (Kit.keptRow o0 hs hg)
  have k1 := IntIn.of_own (Kit.keptRow o1 hs hg)
  have k2 := IntIn.of_own (Kit.keptRow o2 hs hg)
  rcases hv with rfl | rfl
  · exact ⟨_, _, _, ⟨L0, L1, L2⟩, rfl, .inl ⟨rfl, rfl⟩, ⟨k0, k1, k2⟩, hb⟩
  · exact ⟨_, _, _, ⟨L0, _, L2⟩, rfl, .inr rfl, ⟨k0, IntIn.part (k := 1) (m := 5) k1 (by decide) (by decide), k2⟩, hb⟩

end Go.Proofs.YtpdpkcadolcbmaaDoor

/- Contracts (DrawPC). -/
namespace Go.Proofs.YtpdpkcadolcbmaaDoor
open Go.RowKit
set_option linter.unusedVariables false

set_option maxHeartbeats 3200000 in
set_option maxRecDepth 100000 in
theorem drawPutCost_ex (w : World) (k : Code) (hcode : CodeIn w w.heap.size k.a k.cs) (hlen : k.cs.length ≤ 1048576) :
    Calls Tryd.prog 13 #[.slice k.a k.cs.length k.cap] w (DrawPC w) := by
  obtain ⟨wz, hwz⟩ : ∃ wz, wz = w.alloc (.cells #[.slice none 0 0, .slice none 0 0, .slice none 0 0] 35) := ⟨_, rfl⟩
  have HX := Lib.hid (show Box3 wz w.heap.size (.slice none 0 0) (.slice none 0 0) (.slice none 0 0) by rw [hwz]; exact Box3.made _ _ _ _ _)
  have HF := Lib.hid (show ∀ off, wz.frozen? ⟨w.heap.size, off, none⟩ = false by rw [hwz]; exact fun off => by simp)
  have hbz : Below w.heap.size w wz := by rw [hwz]; exact (Below.refl _ _).alloc (Nat.le_refl _) _
  have hzs : w.heap.size < wz.heap.size := by rw [hwz]; simp
  have HC := Lib.hid (CodeIn.onto hcode hbz hbz.size)
  have HS := Lib.hid hzs
  have HBZ := Lib.hid hbz
  clear hcode hbz hzs
  go_enter Tryd.func13, Tryd.ntmps13
  go_wp2_with fail
  rw [← hwz]
  clear hwz
  refine (l1New_ex _ k HC.out hlen).mono ?_
  rintro e w1 ⟨rfl, c, g1⟩
  have HX := Lib.hid (HX.out.grown g1 HS.out (fun b e => by cases e))
  have HF := Lib.hid (free_kept g1 HS.out (fun b e => by cases e) HF.out)
  have HB := Lib.hid (HBZ.out.trans ((Below.refl _ _).grown g1 (Nat.le_of_lt HS.out) (fun b e => by cases e)))
  have hs1 := Nat.lt_of_lt_of_le HS.out g1.size
  have HBB := Lib.hid c.lt
  have HQ := Lib.hid c
  clear c g1
  go_wp2_with fail
  refine (l7Any_ex _ _ k HQ.out).mono ?_
  rintro e w2 ⟨h0, h1, h2, c0, c1, c2, L0, L1, L2, v1, rfl, hv1, o0, o1, o2, c, g2⟩
  have HX := Lib.hid (HX.out.grown g2 hs1 (fun b e => by injection e with e; have := HS.out; omega))
  have HF := Lib.hid (free_kept g2 hs1 (fun b e => by injection e with e; have := HS.out; omega) HF.out)
  have hs2 := Nat.lt_of_lt_of_le hs1 g2.size
  have HB := Lib.hid (HB.out.trans (Kit.below_of_grown g2 (fun b e => by injection e with e; have := HS.out; omega) (Nat.le_of_lt hs1)))
  have HQ := Lib.hid c
  have HO := Lib.hid (And.intro o0 (And.intro o1 o2))
  clear c g2 o0 o1 o2 hs1
  have hlt : w.heap.size < w1.heap.size := Nat.lt_trans HS.out HBB.out
  have E := Lib.hid fun u0 u1 u2 => cost_out (s := w.heap.size) HO.out.1 HO.out.2.1 HO.out.2.2 hlt hv1 HB.out u0 u1 u2
  rcases hv1 with rfl | rfl
  · obtain ⟨x0, x1, x2⟩ := HX.out
    have f0 := HF.out 0
    have f1 := HF.out 1
    have f2 := HF.out 2
    go_wp2
    (try simp only [Exit.inBlock, Exit.then])
    refine bodyPost_ret (v := .agg #[.slice (some ⟨h0, 0, none⟩) 6 c0, .slice (some ⟨h1, 0, none⟩) 6 c1, .slice (some ⟨h2, 0, none⟩) 36 c2]) ?_ rfl ?_
    · rw [results_cell1 rfl]
      go_simp
    · obtain ⟨A1, n1, q1, K, e1, hn1, hin, hbl⟩ := E.out _ _ _
      injection e1 with ea1 en1 eq1
      subst ea1 en1 eq1
      exact ⟨h0, h1, h2, c0, c2, _, _, _, K, rfl, hn1, hin, hbl⟩
  · obtain ⟨x0, x1, x2⟩ := HX.out
    have f0 := HF.out 0
    have f1 := HF.out 1
    have f2 := HF.out 2
    go_wp2
    (try simp only [Exit.inBlock, Exit.then])
    refine bodyPost_ret (v := .agg #[.slice (some ⟨h0, 0, none⟩) 6 c0, .slice (some ⟨h1, 1, none⟩) 5 (c1 - 1), .slice (some ⟨h2, 0, none⟩) 36 c2]) ?_ rfl ?_
    · rw [results_cell1 rfl]
      go_simp
    · obtain ⟨A1, n1, q1, K, e1, hn1, hin, hbl⟩ := E.out _ _ _
      injection e1 with ea1 en1 eq1
      subst ea1 en1 eq1
      exact ⟨h0, h1, h2, c0, c2, _, _, _, K, rfl, hn1, hin, hbl⟩

end Go.Proofs.YtpdpkcadolcbmaaDoor

/- Contracts (LabOkI). -/
namespace Go.Proofs.YtpdpkcadolcbmaaDoor
open Go.RowKit
set_option linter.unusedVariables false

set_option maxHeartbeats 400000 in
theorem implLabelOk_any (n : Int) (w : World) :
    Calls Tryd.prog 45 #[.int .i64 n] w fun e w' => e = .returned (.bool (Lab.ok n)) ∧ w = w' := by
  go_enter Tryd.func45, Tryd.ntmps45
  go_wp2
  all_goals go_ret
  all_goals exact ⟨Kit.ret_bool (by unfold Lab.ok; first | (rw [decide_eq_decide]; omega) | (symm; rw [decide_eq_false_iff_not]; omega)), rfl⟩

end Go.Proofs.YtpdpkcadolcbmaaDoor

/- Contracts (DepI). -/
namespace Go.Proofs.YtpdpkcadolcbmaaDoor
open Go.RowKit
set_option linter.unusedVariables false

set_option maxHeartbeats 800000 in
set_option maxRecDepth 100000 in
theorem depthFits_any (A : Option Addr) (n c : Nat) (xs : Tr) (d : Int) (w : World) (h : NdIn w w.heap.size A n xs) (hn : n ≤ 1048576) (hb : 0 < n → 0 ≤ Tr.d xs (n - 1) ∧ Tr.d xs (n - 1) ≤ 12) :
    Calls Tryd.prog 46 #[.slice A n c, .int .i64 d] w fun e w' => e = .returned (.bool (Tr.fits xs n d)) ∧ w = w' := by
  have H := Lib.hid h
  clear h
  rcases Nat.eq_zero_or_pos n with rfl | h0
  · have Hf := Lib.hid (show Tr.fits xs 0 d = (d == 0) by rw [Tr.fits, if_pos rfl, Bool.eq_iff_iff]; simp)
    clear hb
    go_enter Tryd.func46, Tryd.ntmps46
    go_wp2
    go_ret
    exact ⟨Kit.ret_bool Hf.out.symm, rfl⟩
  · obtain ⟨ad, rfl, _, hl', hd'⟩ := H.out.at_ (k := n - 1) (by omega)
    have hbd := hb h0
    have e0 : ((n : Int) == 0) = false := beq_eq_false_iff_ne.2 (by omega)
    have a1 : IntKind.i64.wrap ((n : Int) - 1) = (n : Int) - 1 := Kit.w64 (by omega) (by omega)
    have a2 : ((n : Int) - 1).toNat = n - 1 := by omega
    have a3 : (1 : Int) ≤ (n : Int) := by omega
    have a4 : (n : Int) - 1 < (n : Int) := by omega
    have a5 : IntKind.i64.wrap (Tr.d xs (n - 1) + 1) = Tr.d xs (n - 1) + 1 := Kit.w64 (by omega) (by omega)
    have Hf := Lib.hid (show Tr.fits xs n d = (decide (1 ≤ d) && decide (d ≤ Tr.d xs (n - 1) + 1)) by rw [Tr.fits, if_neg (by omega), Bool.eq_iff_iff]; simp)
    clear hb hbd
    by_cases h1 : 1 ≤ d
    · have e1 : decide (1 ≤ d) = true := by simpa using h1
      rw [e1] at Hf
      go_enter Tryd.func46, Tryd.ntmps46
      go_wp2
      go_ret
      exact ⟨Kit.ret_bool (by rw [Hf.out]; simp), rfl⟩
    · have e1 : decide (1 ≤ d) = false := by simpa using h1
      rw [e1] at Hf
      go_enter Tryd.func46, Tryd.ntmps46
      go_wp2
      go_ret
      exact ⟨Kit.ret_bool (by rw [Hf.out]; simp), rfl⟩

end Go.Proofs.YtpdpkcadolcbmaaDoor

/- Contracts (TreeOkI). -/
namespace Go.Proofs.YtpdpkcadolcbmaaDoor
open Go.RowKit
set_option linter.unusedVariables false

theorem Tr.fits_take {xs : Tr} {k : Nat} {d : Int} : Tr.fits (xs.take k) k d = Tr.fits xs k d := by
  unfold Tr.fits
  by_cases h : k = 0
  · simp [h]
  · rw [if_neg h, if_neg h]
    simp [Tr.d, List.getD_eq_getElem?_getD, show k - 1 < k by omega]
theorem Tr.d_take {xs : Tr} {k j : Nat} (h : j < k) : Tr.d (xs.take k) j = Tr.d xs j := by simp [Tr.d, List.getD_eq_getElem?_getD, h]
theorem NdIn.head {w : World} {B n : Nat} {A : Option Addr} {xs : Tr} (h : NdIn w B A n xs) {k : Nat} (hk : k ≤ n) : NdIn w B A k (xs.take k) := by
  refine ⟨by have := h.1; simp; omega, fun h0 => h.2.1 (by omega), fun ad e j hj => ?_⟩
  have := h.2.2 ad e j (by omega)
  have hg : (xs.take k).getD j (0, 0) = xs.getD j (0, 0) := by simp [List.getD_eq_getElem?_getD, hj]
  simp only [Tr.l, Tr.d] at this ⊢
  rw [hg]
  exact this
set_option maxHeartbeats 800000 in
set_option maxRecDepth 100000 in
theorem implTreeOk_any (A : Option Addr) (n c : Nat) (xs : Tr) (w : World) (h : NdIn w w.heap.size A n xs) (hn : n ≤ 1048576) (hnc : n ≤ c) :
    Calls Tryd.prog 23 #[.slice A n c] w fun e w' => e = .returned (.bool (Tr.ok xs)) ∧ Below w.heap.size w w' := by
  have H := Lib.hid h
  clear h
  have HL := Lib.hid H.out.1
  by_cases hn1 : n < 1
  · have Hf := Lib.hid (show Tr.ok xs = false by rw [Bool.eq_false_iff, Ne, Tr.ok_iff, HL.out]; omega)
    go_enter Tryd.func23, Tryd.ntmps23
    go_wp2
    go_ret
    exact ⟨Kit.ret_bool Hf.out.symm, Below.refl _ _⟩
  by_cases hn2 : 24 < n
  · have Hf := Lib.hid (show Tr.ok xs = false by rw [Bool.eq_false_iff, Ne, Tr.ok_iff, HL.out]; omega)
    go_enter Tryd.func23, Tryd.ntmps23
    go_wp2
    go_ret
    exact ⟨Kit.ret_bool Hf.out.symm, Below.refl _ _⟩
  obtain ⟨ad, rfl, _⟩ := H.out.2.1 (by omega)
  go_enter Tryd.func23, Tryd.ntmps23
  go_wp2
  go_loopw [15] (fun iv wr => ∃ k : Nat, k ≤ n ∧ iv = .int .i64 k ∧ Tr.okTo xs k ∧ Below w.heap.size w wr) (fun i _ => n - (intOf i).toNat)
  case atStart => exact ⟨0, Nat.zero_le _, rfl, fun j hj => absurd hj (by omega), Below.refl _ _⟩
  case round =>
    obtain ⟨k, hk, rfl, hok, hB⟩ := hrel
    have hsz := hB.size
    have Hok := Lib.hid hok
    have HB := Lib.hid hB
    clear hok hB
    by_cases hlt : k < n
    · obtain ⟨hl, hd⟩ := (H.out.below HB.out).here hlt
      have hkc : (k : Int) ≤ (c : Int) := by omega
      have hk0 : (0 : Int) ≤ (k : Int) := by omega
      have Hbk := Lib.hid (show 0 < k → 0 ≤ Tr.d (xs.take k) (k - 1) ∧ Tr.d (xs.take k) (k - 1) ≤ 12 by
        intro h0
        rw [Tr.d_take (by omega)]
        exact (Tr.okTo_at Hok.out (show k - 1 < k by omega)).2.1)
      have Hfit := Lib.hid (Tr.fits_take (xs := xs) (k := k) (d := Tr.d xs k))
      have Hc := Lib.hid (((H.out.below HB.out).more HB.out.size).to_below ((Below.refl _ _).alloc (Nat.le_refl _) (.cells #[.int .i64 (Tr.l xs k), .int .i64 (Tr.d xs k)] 46)) |>.head (Nat.le_of_lt hlt))
      by_cases h1 : 0 ≤ Tr.l xs k ∧ Tr.l xs k ≤ 5
      · have h1' : Lab.ok (Tr.l xs k) = true := by simp [Lab.ok, h1]
        have Hat := Lib.hid (Tr.okAt_fits (xs := xs) (k := k) h1 (fun h0 => (Tr.okTo_at Hok.out (show k - 1 < k by omega)).2.1.1))
        clear h1
        by_cases h2 : Tr.d xs k ≤ 12
        · have e2 : decide (12 < Tr.d xs k) = false := by simpa using h2
          cases h3 : Tr.fits (xs.take k) k (Tr.d xs k) with
          | true =>
            have Hk := Lib.hid (show Tr.okAt xs k = true by rw [Hat.out, ← Hfit.out, h3]; simp [h2])
            clear h2
            go_wp2
            go_quiet (first
              | (go_at_call 45; exact quiet_same (implLabelOk_any _ _))
              | (go_at_call 46; exact quiet_same (depthFits_any _ _ _ _ _ _ (Hc.out.drewN _) (by omega) Hbk.out)))
            go_wp2
            go_roundw
            case rel => exact ⟨k + 1, by omega, by go_num, Tr.okTo_succ Hok.out Hk.out, Drawn.below (HB.out.alloc HB.out.size _) ⟨_, rfl⟩⟩
            case measure => simp [intOf]; omega
          | false =>
            have Hf := Lib.hid (Tr.not_ok (xs := xs) (k := k) (by rw [HL.out]; exact hlt) (by rw [Hat.out, ← Hfit.out, h3]; simp))
            clear h2
            go_wp2
            go_quiet (first
              | (go_at_call 45; exact quiet_same (implLabelOk_any _ _))
              | (go_at_call 46; exact quiet_same (depthFits_any _ _ _ _ _ _ (Hc.out.drewN _) (by omega) Hbk.out)))
            go_wp2
            go_ret
            exact ⟨Kit.ret_bool Hf.out.symm, Drawn.below (HB.out.alloc HB.out.size _) ⟨_, rfl⟩⟩
        · have e2 : decide (12 < Tr.d xs k) = true := by simpa using h2
          have Hf := Lib.hid (Tr.not_ok (xs := xs) (k := k) (by rw [HL.out]; exact hlt) (by rw [Hat.out]; simp [h2]))
          clear h2
          go_wp2
          go_quiet (first
            | (go_at_call 45; exact quiet_same (implLabelOk_any _ _))
            | (go_at_call 46; exact quiet_same (depthFits_any _ _ _ _ _ _ (Hc.out.drewN _) (by omega) Hbk.out)))
          go_wp2
          go_ret
          exact ⟨Kit.ret_bool Hf.out.symm, Drawn.below (HB.out.alloc HB.out.size _) ⟨_, rfl⟩⟩
      · have h1' : Lab.ok (Tr.l xs k) = false := by simpa [Lab.ok] using h1
        have Hf := Lib.hid (Tr.not_ok (xs := xs) (k := k) (by rw [HL.out]; exact hlt) (by simp [Tr.okAt]; omega))
        clear h1
        go_wp2
        go_quiet (first
          | (go_at_call 45; exact quiet_same (implLabelOk_any _ _))
          | (go_at_call 46; exact quiet_same (depthFits_any _ _ _ _ _ _ (Hc.out.drewN _) (by omega) Hbk.out)))
        go_wp2
        go_ret
        exact ⟨Kit.ret_bool Hf.out.symm, Drawn.below (HB.out.alloc HB.out.size _) ⟨_, rfl⟩⟩
    · obtain rfl : k = n := by omega
      go_wp2
      go_ret
      exact ⟨Kit.ret_bool (Tr.ok_iff.2 (by rw [HL.out]; exact ⟨Hok.out, by omega, by omega⟩)).symm, HB.out⟩

end Go.Proofs.YtpdpkcadolcbmaaDoor

/- Contracts (PutI). -/
namespace Go.Proofs.YtpdpkcadolcbmaaDoor
open Go.RowKit
set_option linter.unusedVariables false

set_option maxHeartbeats 800000 in
set_option maxRecDepth 100000 in
theorem implPutTree_any (A : Option Addr) (n c : Nat) (xs : Tr) (w : World) (h : NdIn w w.heap.size A n xs) (hn : n ≤ 1048576) (hnc : n ≤ c) :
    Calls Tryd.prog 6 #[.slice A n c] w fun e w' => e = .returned (.string (Tr.put xs)) ∧ Below w.heap.size w w' := by
  have H := Lib.hid h
  clear h
  have HL := Lib.hid H.out.1
  rcases hok : Tr.ok xs with _ | _
  · have Hf := Lib.hid (Tr.put_no hok)
    have Hok := Lib.hid hok
    clear hok
    go_enter Tryd.func6, Tryd.ntmps6
    go_wp2_with fail
    refine (implTreeOk_any _ _ _ xs _ H.out hn hnc).mono ?_
    rintro e w1 ⟨rfl, hb1⟩
    rw [Hok.out]
    go_wp2
    go_ret
    exact ⟨by rw [Hf.out]; rfl, hb1⟩
  · have Hf := Lib.hid (Tr.put_yes hok)
    have hle := (Tr.ok_iff.1 hok).2
    rw [HL.out] at hle
    have Hok := Lib.hid hok
    clear hok
    obtain ⟨ad, rfl, had⟩ := H.out.2.1 (by omega)
    go_enter Tryd.func6, Tryd.ntmps6
    go_wp2_with fail
    refine (implTreeOk_any _ _ _ xs _ H.out hn hnc).mono ?_
    rintro e w1 ⟨rfl, hb1⟩
    have HB1 := Lib.hid hb1
    clear hb1
    rw [Hok.out]
    go_wp2_with fail
    refine (implVarB_any _ _).mono ?_
    rintro e w2 ⟨rfl, hb2⟩
    have HB2 := Lib.hid (HB1.out.trans (hb2.mono HB1.out.size))
    clear hb2 HB1
    go_wp2
    go_loopw [14, 3] (fun iv sv wr => ∃ k : Nat, k ≤ n ∧ iv = .int .i64 k ∧ sv = .string (Tr.putTo xs k) ∧ Below w.heap.size w wr) (fun i _ _ => n - (intOf i).toNat)
    case atStart => exact ⟨0, Nat.zero_le _, rfl, by rw [Tr.putTo, HL.out], HB2.out⟩
    case round =>
      obtain ⟨k, hk, rfl, rfl, hB⟩ := hrel
      have hsz := hB.size
      have HB := Lib.hid hB
      clear hB
      by_cases hlt : k < n
      · obtain ⟨hl, hd⟩ := (H.out.below HB.out).here hlt
        have z1 := Tr.putTo_size xs k
        have z2 := Num.varB_size (Tr.l xs k)
        have z3 := Num.varB_size (Tr.d xs k)
        have y1 : ¬ 9223372036854775807 < (Num.varB (Tr.l xs k)).size + (Num.varB (Tr.d xs k)).size := by omega
        have y2 : ¬ 9223372036854775807 < (Tr.putTo xs k).size + ((Num.varB (Tr.l xs k)).size + (Num.varB (Tr.d xs k)).size) := by omega
        have Hs := Lib.hid (Tr.putTo_two xs k)
        have k0 : (0 : Int) ≤ (k : Int) := by omega
        have k1 : (k : Int) < (n : Int) := by omega
        clear z1 z2 z3
        go_wp2_with fail
        have S0 := Lib.hid (show (wr.alloc (.cells #[.int .i64 (Tr.l xs k), .int .i64 (Tr.d xs k)] 46)).drew.cell? ⟨wr.heap.size, 0, none⟩ = some (.int .i64 (Tr.l xs k)) ∧ (wr.alloc (.cells #[.int .i64 (Tr.l xs k), .int .i64 (Tr.d xs k)] 46)).drew.cell? ⟨wr.heap.size, 1, none⟩ = some (.int .i64 (Tr.d xs k)) ∧ PutG w.heap.size w ⟨wr.heap.size, 0, none⟩ ⟨wr.heap.size, 1, none⟩ (wr.alloc (.cells #[.int .i64 (Tr.l xs k), .int .i64 (Tr.d xs k)] 46)).drew from ⟨by simp, by simp, Nat.le_refl _, (HB.out.alloc hsz _).drew, by simp, by simp⟩)
        go_region_held3 (fun wq => wq.cell? ⟨wr.heap.size, 0, none⟩ = some (.int .i64 (Tr.l xs k)) ∧ wq.cell? ⟨wr.heap.size, 1, none⟩ = some (.int .i64 (Tr.d xs k)) ∧ PutG w.heap.size w ⟨wr.heap.size, 0, none⟩ ⟨wr.heap.size, 1, none⟩ wq) (first | exact S0.out | (refine put_keep ?_ hb; assumption)) (first | (go_at_call 24; refine (implVarB_any _ _).mono ?_; rintro e w' ⟨rfl, hb⟩))
        all_goals
          have HG := Lib.hid (show PutG w.heap.size w ⟨wr.heap.size, 0, none⟩ ⟨wr.heap.size, 1, none⟩ w' by (first | (rename_i q; exact q.2.2) | (rename_i q _; exact q.2.2)))
          go_wp2
          go_roundw
          case rel => exact ⟨k + 1, by omega, by go_num, by rw [Hs.out], HG.out.2.1⟩
          case measure => simp [intOf]; omega
      · obtain rfl : k = n := by omega
        go_wp2
        go_ret
        exact ⟨by rw [Hf.out, HL.out]; rfl, HB.out⟩

end Go.Proofs.YtpdpkcadolcbmaaDoor

/- Contracts (Res2). -/
namespace Go.Proofs.YtpdpkcadolcbmaaDoor
open Go.RowKit
set_option linter.unusedVariables false

/-- the answer is a row of nodes of the call's own, and a code -/
def OwnNodes2 (E : TypeId) (r : Tr × Int) (w : World) (e : Ending) (w' : World) : Prop :=
  ∃ A c, e = .returned (.tuple #[.slice A r.1.length c, .int .i64 r.2]) ∧ w'.ownsRow w.heap.size E 2 (.slice A r.1.length c) r.1.length (Tr.cells r.1) ∧ Below w.heap.size w w'
theorem Num.rest_zero (s : ByteArray) : Num.rest s 0 = s := by simp [Num.rest]
theorem Num.rvN_none {s : ByteArray} (h : Num.rvK s = 0) : Num.rvN s = 0 := by unfold Num.rvN; rw [h]; rfl
theorem Tr.at_eq {s : ByteArray} {p p1 : Nat} (hp1 : p1 = p + Num.rvK (Num.rest s p)) : Num.rest (Num.rest s p) (Num.rvK (Num.rest s p)) = Num.rest s p1 := by rw [Num.rest_rest, hp1]
section
variable {s : ByteArray} {p p1 p2 r : Nat} {xs : Tr}
theorem Tr.go_n1 (h : Num.rvK (Num.rest s p) = 0) : Tr.getB (r + 1) (Num.rest s p) xs = ([], 1) := Tr.getB_no (Tr.node_n1 h) (by omega)
theorem Tr.go_n2 (h : ¬ Num.rvK (Num.rest s p) = 0) (h2 : Lab.ok (Num.rvN (Num.rest s p)) = false) : Tr.getB (r + 1) (Num.rest s p) xs = ([], 3) := Tr.getB_no (Tr.node_n2 h h2) (by omega)
theorem Tr.go_n3 (hp1 : p1 = p + Num.rvK (Num.rest s p)) (h : ¬ Num.rvK (Num.rest s p) = 0) (h2 : Lab.ok (Num.rvN (Num.rest s p)) = true) (h3 : Num.rvK (Num.rest s p1) = 0) : Tr.getB (r + 1) (Num.rest s p) xs = ([], 1) :=
  Tr.getB_no (Tr.node_n3 h h2 (by rw [Tr.at_eq hp1]; exact h3)) (by omega)
theorem Tr.go_n4 (hp1 : p1 = p + Num.rvK (Num.rest s p)) (h : ¬ Num.rvK (Num.rest s p) = 0) (h2 : Lab.ok (Num.rvN (Num.rest s p)) = true) (h3 : ¬ Num.rvK (Num.rest s p1) = 0) (h4 : 12 < Num.rvN (Num.rest s p1)) :
    Tr.getB (r + 1) (Num.rest s p) xs = ([], 4) :=
  Tr.getB_no (Tr.node_n4 h h2 (by rw [Tr.at_eq hp1]; exact h3) (by rw [Tr.at_eq hp1]; exact h4)) (by omega)
theorem Tr.go_n5 (hp1 : p1 = p + Num.rvK (Num.rest s p)) (h : ¬ Num.rvK (Num.rest s p) = 0) (h2 : Lab.ok (Num.rvN (Num.rest s p)) = true) (h3 : ¬ Num.rvK (Num.rest s p1) = 0) (h4 : ¬ 12 < Num.rvN (Num.rest s p1))
    (h5 : Tr.fits xs xs.length (Num.rvN (Num.rest s p1)) = false) : Tr.getB (r + 1) (Num.rest s p) xs = ([], 5) :=
  Tr.getB_no (Tr.node_n5 h h2 (by rw [Tr.at_eq hp1]; exact h3) (by rw [Tr.at_eq hp1]; exact h4) (by rw [Tr.at_eq hp1]; exact h5)) (by omega)
theorem Tr.go_y (hp1 : p1 = p + Num.rvK (Num.rest s p)) (hp2 : p2 = p1 + Num.rvK (Num.rest s p1)) (h : ¬ Num.rvK (Num.rest s p) = 0) (h2 : Lab.ok (Num.rvN (Num.rest s p)) = true) (h3 : ¬ Num.rvK (Num.rest s p1) = 0)
    (h4 : ¬ 12 < Num.rvN (Num.rest s p1)) (h5 : Tr.fits xs xs.length (Num.rvN (Num.rest s p1)) = true) :
    Tr.getB (r + 1) (Num.rest s p) xs = Tr.getB r (Num.rest s p2) (xs ++ [((Num.rvN (Num.rest s p) : Int), (Num.rvN (Num.rest s p1) : Int))]) := by
  have e := Tr.at_eq hp1
  have := Tr.getB_yes (r := r) (Tr.node_y (t := Num.rest s p) (xs := xs) h h2 (by rw [e]; exact h3) (by rw [e]; exact h4) (by rw [e]; exact h5))
  rw [this, e, Num.rest_rest, hp2, hp1, Nat.add_assoc]
end
theorem Tr.d_last (xs : Tr) (x : Int × Int) (k : Nat) (hk : xs.length = k) : Tr.d (xs ++ [x]) (k + 1 - 1) = x.2 := by
  subst hk
  simp [Tr.d, List.getD_eq_getElem?_getD]

end Go.Proofs.YtpdpkcadolcbmaaDoor

/- Contracts (ReadVarI). -/
namespace Go.Proofs.YtpdpkcadolcbmaaDoor
open Go.RowKit
set_option linter.unusedVariables false

set_option maxHeartbeats 400000 in
theorem implVar_max (w : World) :
    Calls Tryd.prog 24 #[.int .i64 562949953421311] w fun e w' => e = .returned (.string ⟨#[255, 255, 255, 255, 255, 255, 127]⟩) ∧ Below w.heap.size w w' := by
  refine (implVar_any 562949953421311 w).mono ?_
  rintro e w' ⟨rfl, hb⟩
  exact ⟨by rw [show Num.varR 562949953421311 = [255, 255, 255, 255, 255, 255, 127] by decide +kernel], hb⟩

set_option maxHeartbeats 400000 in
set_option maxRecDepth 100000 in
theorem varSize_any (s : ByteArray) (hs : s.size ≤ maxLen) (w : World) :
    Calls Tryd.prog 47 #[.string s] w fun e w' => e = .returned (.int .i64 (Num.vsize s.data.toList)) ∧ Below w.heap.size w w' := by
  unfold maxLen at hs
  go_enter Tryd.func47, Tryd.ntmps47
  go_wp2_with fail
  refine (implVar_max _).mono ?_
  rintro e w1 ⟨rfl, hb1⟩
  go_wp2
  go_loop [4] (fun iv => ∃ k : Nat, k ≤ 7 ∧ k ≤ s.size ∧ iv = .int .i64 k ∧ ∀ j (h : j < s.size), j < k → 128 ≤ s[j].toNat) (fun i => 7 - (intOf i).toNat)
  case atStart => exact ⟨0, by omega, by omega, rfl, fun j h hj => absurd hj (Nat.not_lt_zero _)⟩
  case round =>
    obtain ⟨k, h7, hk, rfl, hall⟩ := hrel
    have Hall := Lib.hid hall
    clear hall
    by_cases hlt : k < s.size
    · by_cases hl7 : (k : Int) < 7
      · by_cases hbt : s[k].toNat < 128
        · have Hv := Lib.hid (Num.vsize_hit (by omega) hlt Hall.out hbt)
          go_wp2
          go_ret
          exact ⟨by rw [Hv.out]; exact Kit.ret_int (by omega), hb1⟩
        · go_wp2
          go_round
          case rel =>
            refine ⟨k + 1, by omega, by omega, by go_num, fun j hj hjk => ?_⟩
            rcases Nat.lt_succ_iff_lt_or_eq.1 hjk with hjk | rfl
            · exact Hall.out j hj hjk
            · omega
          case measure => simp [intOf]; omega
      · have Hv := Lib.hid (Num.vsize_miss h7 hk (Or.inl (by omega)) Hall.out)
        go_wp2
        go_ret
        exact ⟨by rw [Hv.out]; rfl, hb1⟩
    · have Hv := Lib.hid (Num.vsize_miss h7 hk (Or.inr (by omega)) Hall.out)
      go_wp2
      go_ret
      exact ⟨by rw [Hv.out]; rfl, hb1⟩

set_option maxHeartbeats 400000 in
set_option maxRecDepth 100000 in
theorem implReadVar_any (s : ByteArray) (hs : s.size ≤ maxLen) (w : World) :
    Calls Tryd.prog 25 #[.string s] w fun e w' => e = .returned (.tuple #[.int .i64 (Num.rvN s), .int .i64 (Num.rvK s)]) ∧ Below w.heap.size w w' := by
  have hsl := hs
  have hvl := Num.vsize_le s.data.toList
  obtain ⟨k, hkd⟩ : ∃ k, k = Num.vsize s.data.toList := ⟨_, rfl⟩
  rw [← hkd] at hvl
  obtain ⟨h7, hk⟩ := hvl
  have hk : k ≤ s.size := by simpa using hk
  have Hkd := Lib.hid hkd
  unfold maxLen at hs
  go_enter Tryd.func25, Tryd.ntmps25
  go_wp2_with fail
  refine (varSize_any s hsl _).mono ?_
  rintro e w1 ⟨rfl, hb1⟩
  rw [← hkd]
  clear hkd
  go_wp2
  go_loop [5, 6] (fun nv iv => ∃ i : Nat, i ≤ k ∧ iv = .int .i64 ((i : Int) - 1) ∧ nv = .int .i64 (Num.val7 ((s.data.toList.take k).drop i))) (fun _ i => (intOf i + 1).toNat)
  case atStart => exact ⟨k, Nat.le_refl _, rfl, by rw [List.drop_eq_nil_of_le (List.length_take_le _ _)]; rfl⟩
  case round =>
    obtain ⟨i, hi, rfl, rfl⟩ := hrel
    by_cases hp : 0 < i
    · have hi1 : i - 1 < k := by omega
      have hbt : s[i - 1].toNat < 256 := s[i - 1].toNat_lt
      have hsm := Num.val7_small6 ((s.data.toList.take k).drop i) (by simp; omega)
      have hdr := Num.val7_drop s k (i - 1) hi1 hk
      rw [show i - 1 + 1 = i by omega] at hdr
      have Hdr := Lib.hid hdr
      clear hdr
      have hidx : ((i : Int) - 1).toNat = i - 1 := by omega
      have hand := Kit.and127 s[i - 1].toNat hbt
      have hor : bits .or .i64 ((Num.val7 ((s.data.toList.take k).drop i) : Int) * 128) ((s[i - 1].toNat : Int) % 128) = (Num.val7 ((s.data.toList.take k).drop i) : Int) * 128 + (s[i - 1].toNat : Int) % 128 := by
        have h := Kit.or128 (Num.val7 ((s.data.toList.take k).drop i)) (s[i - 1].toNat % 128) (by omega) (by omega)
        simpa using h
      go_wp2
      go_round
      case rel =>
        refine ⟨i - 1, by omega, by rw [show ((i : Int) - 1 - 1) = ((i - 1 : Nat) : Int) - 1 by omega], ?_⟩
        rw [Hdr.out]
        go_num
      case measure => simp [intOf]; omega
    · obtain rfl : i = 0 := by omega
      have hv := Num.val7_small ((s.data.toList.take k).drop 0) (by simp; omega)
      have hsz1 := hb1.size
      go_wp2
      go_region_law ((go_simp; go_at_call 24; refine (implVar_any _ _).mono ?_; rintro e w' ⟨rfl, hb2⟩))
      go_wp2
      · have ht : (!Num.varR (Num.val7 (s.data.toList.take k) : Nat) == (s.extract 0 k).toList) = true := by assumption
        have hg : ¬ Num.good s.data.toList k := by
          rw [Num.good_test h7] at ht
          simpa using ht
        have h0 : Num.rvK s = 0 := by unfold Num.rvK; rw [← Hkd.out, if_neg hg]
        have h1 : Num.rvN s = 0 := by unfold Num.rvN; rw [h0]; rfl
        go_ret2
        exact ⟨by rw [h0, h1]; rfl, hb1.drew.trans (hb2.mono hsz1)⟩
      · have ht : (!Num.varR (Num.val7 (s.data.toList.take k) : Nat) == (s.extract 0 k).toList) = false := by assumption
        have hg : Num.good s.data.toList k := by
          rw [Num.good_test h7] at ht
          simpa using ht
        obtain ⟨e1, e2⟩ := Num.rv_good h7 hk hg
        go_ret2
        exact ⟨by rw [e1, e2]; rfl, hb1.drew.trans (hb2.mono hsz1)⟩

end Go.Proofs.YtpdpkcadolcbmaaDoor

/- Contracts (NodeI). -/
namespace Go.Proofs.YtpdpkcadolcbmaaDoor
open Go.RowKit
set_option linter.unusedVariables false

theorem results_cell_tmp2 {fn : Func} {p u v : Tmp} {ty : TypeId} (h : fn.results = #[.cell p ty, .tmp u, .tmp v]) (tmps : Array Value) (P : Program) (w : World) :
    (results fn tmps).run P w =
      ((asAddr (tmps.getD p undef)).run P w).andThen fun a w₁ => ((loadVar ty a).run P w₁).andThen fun x w₂ => .ok (.tuple #[x, tmps.getD u undef, tmps.getD v undef]) w₂ := by
  simp only [results, h]
  simp [Sem.run_bind, Result.andThen]

set_option maxHeartbeats 800000 in
set_option maxRecDepth 100000 in
theorem getNode_any (t : ByteArray) (A : Option Addr) (n c : Nat) (xs : Tr) (w : World) (ht : t.size ≤ maxLen) (h : NdIn w w.heap.size A n xs) (hn : n ≤ 1048576) (hb : 0 < n → 0 ≤ Tr.d xs (n - 1) ∧ Tr.d xs (n - 1) ≤ 12) :
    Calls Tryd.prog 26 #[.string t, .slice A n c] w fun e w' => e = .returned (.tuple #[.agg #[.int .i64 (Tr.node t xs).1.1, .int .i64 (Tr.node t xs).1.2], .int .i64 (Tr.node t xs).2.1, .int .i64 (Tr.node t xs).2.2]) ∧ Below w.heap.size w w' := by
  have H := Lib.hid h
  have HL := Lib.hid H.out.1
  have Hb := Lib.hid hb
  clear h hb
  have hk7 := Num.rvK_le t
  have hr : (Num.rest t (Num.rvK t)).size ≤ maxLen := by rw [Num.rest_size]; omega
  have ht' := ht
  unfold maxLen at ht'
  obtain ⟨K, hK⟩ : ∃ K, K = Num.rvK t := ⟨_, rfl⟩
  obtain ⟨V, hV⟩ : ∃ V, V = Num.rvN t := ⟨_, rfl⟩
  obtain ⟨U, hU⟩ : ∃ U, U = Num.rest t K := ⟨_, rfl⟩
  obtain ⟨K2, hK2⟩ : ∃ K2, K2 = Num.rvK U := ⟨_, rfl⟩
  obtain ⟨V2, hV2⟩ : ∃ V2, V2 = Num.rvN U := ⟨_, rfl⟩
  have hk72 := Num.rvK_le U
  have n1 := Tr.node_n1 (t := t) (xs := xs)
  have n2 := Tr.node_n2 (t := t) (xs := xs)
  have n3 := Tr.node_n3 (t := t) (xs := xs)
  have n4 := Tr.node_n4 (t := t) (xs := xs)
  have n5 := Tr.node_n5 (t := t) (xs := xs)
  have n6 := Tr.node_y (t := t) (xs := xs)
  rw [HL.out] at n5 n6
  simp only [← hK, ← hV, ← hU, ← hK2, ← hV2] at n1 n2 n3 n4 n5 n6 hr hk7 hk72
  have N1 := Lib.hid n1
  have N2 := Lib.hid n2
  have N3 := Lib.hid n3
  have N4 := Lib.hid n4
  have N5 := Lib.hid n5
  have N6 := Lib.hid n6
  have HK := Lib.hid hK
  have HV := Lib.hid hV
  have HU := Lib.hid hU
  have HK2 := Lib.hid hK2
  have HV2 := Lib.hid hV2
  have Ha := Lib.hid (Below.refl w.heap.size w |>.alloc (Nat.le_refl _) (.cells #[.int .i64 0, .int .i64 0] 46))
  have Oa := Lib.hid (World.ownsRow_lit (base := w.heap.size) (e := 46) (size := 2) w #[.int .i64 0, .int .i64 0] 1 (Nat.le_refl _) (by decide) rfl)
  clear n1 n2 n3 n4 n5 n6 hK hV hU hK2 hV2
  have hkt : (K : Int) ≤ (t.size : Int) := by omega
  have hkt' : K ≤ t.size := by omega
  by_cases h1 : K = 0
  · have e1 : ((K : Int) == 0) = true := by rw [h1]; rfl
    have Hf := Lib.hid (N1.out h1)
    clear h1
    go_enter Tryd.func26, Tryd.ntmps26
    go_wp2_with fail
    refine (implReadVar_any t ht _).mono ?_
    rintro e w1 ⟨rfl, hb1⟩
    have O1 := Lib.hid (own_below Oa.out hb1)
    have c0 : w1.cell? ⟨w.heap.size, 0, none⟩ = some (.int .i64 0) := own_even (xs := [(0, 0)]) (k := 0) O1.out (by decide)
    have c1 : w1.cell? ⟨w.heap.size, 1, none⟩ = some (.int .i64 0) := own_odd (xs := [(0, 0)]) (k := 0) O1.out (by decide)
    have f0 := O1.out.frozenAt 0
    have f1 := O1.out.frozenAt 1
    have HB1 := Lib.hid (Ha.out.trans (hb1.mono (Ha.out.size)))
    clear hb1
    rw [← HK.out, ← HV.out]
    go_wp2
    (try simp only [Exit.inBlock, Exit.then])
    refine bodyPost_ret (v := .tuple #[.agg #[.int .i64 0, .int .i64 0], .int .i64 (0), .int .i64 1]) ?_ rfl ⟨?_, ?_⟩
    · rw [results_cell_tmp2 rfl]
      go_simp
    · rw [Hf.out]
      rfl
    · exact (HB1.out.setCell (Nat.le_refl _) _).setCell (Nat.le_refl _) _
  · have e1 : ((K : Int) == 0) = false := beq_eq_false_iff_ne.2 (by omega)
    rcases h2 : Lab.ok V with _ | _
    · have Hf := Lib.hid (N2.out h1 h2)
      clear h1
      go_enter Tryd.func26, Tryd.ntmps26
      go_wp2_with fail
      refine (implReadVar_any t ht _).mono ?_
      rintro e w1 ⟨rfl, hb1⟩
      have O1 := Lib.hid (own_below Oa.out hb1)
      have c0 : w1.cell? ⟨w.heap.size, 0, none⟩ = some (.int .i64 0) := own_even (xs := [(0, 0)]) (k := 0) O1.out (by decide)
      have c1 : w1.cell? ⟨w.heap.size, 1, none⟩ = some (.int .i64 0) := own_odd (xs := [(0, 0)]) (k := 0) O1.out (by decide)
      have f0 := O1.out.frozenAt 0
      have f1 := O1.out.frozenAt 1
      have HB1 := Lib.hid (Ha.out.trans (hb1.mono (Ha.out.size)))
      clear hb1
      rw [← HK.out, ← HV.out]
      go_wp2_with fail
      refine (implLabelOk_any _ _).mono ?_
      rintro e w' ⟨rfl, rfl⟩
      rw [h2]
      go_wp2
      (try simp only [Exit.inBlock, Exit.then])
      refine bodyPost_ret (v := .tuple #[.agg #[.int .i64 0, .int .i64 0], .int .i64 (0), .int .i64 3]) ?_ rfl ⟨?_, ?_⟩
      · rw [results_cell_tmp2 rfl]
        go_simp
      · rw [Hf.out]
        rfl
      · exact (HB1.out.setCell (Nat.le_refl _) _).setCell (Nat.le_refl _) _
    · by_cases h3 : K2 = 0
      · have e3 : ((K2 : Int) == 0) = true := by rw [h3]; rfl
        have Hf := Lib.hid (N3.out h1 h2 h3)
        clear h1 h3
        go_enter Tryd.func26, Tryd.ntmps26
        go_wp2_with fail
        refine (implReadVar_any t ht _).mono ?_
        rintro e w1 ⟨rfl, hb1⟩
        have O1 := Lib.hid (own_below Oa.out hb1)
        have c0 : w1.cell? ⟨w.heap.size, 0, none⟩ = some (.int .i64 0) := own_even (xs := [(0, 0)]) (k := 0) O1.out (by decide)
        have c1 : w1.cell? ⟨w.heap.size, 1, none⟩ = some (.int .i64 0) := own_odd (xs := [(0, 0)]) (k := 0) O1.out (by decide)
        have f0 := O1.out.frozenAt 0
        have f1 := O1.out.frozenAt 1
        have HB1 := Lib.hid (Ha.out.trans (hb1.mono (Ha.out.size)))
        clear hb1
        rw [← HK.out, ← HV.out]
        go_wp2_with fail
        refine (implLabelOk_any _ _).mono ?_
        rintro e w' ⟨rfl, rfl⟩
        rw [h2]
        go_wp2_with fail
        refine (implReadVar_any (Num.rest t K) (by rw [← HU.out]; exact hr) _).mono ?_
        rintro e w2 ⟨rfl, hb2⟩
        have O2 := Lib.hid (own_below O1.out hb2)
        clear c0 c1 f0 f1
        have c0 : w2.cell? ⟨w.heap.size, 0, none⟩ = some (.int .i64 0) := own_even (xs := [(0, 0)]) (k := 0) O2.out (by decide)
        have c1 : w2.cell? ⟨w.heap.size, 1, none⟩ = some (.int .i64 0) := own_odd (xs := [(0, 0)]) (k := 0) O2.out (by decide)
        have f0 := O2.out.frozenAt 0
        have f1 := O2.out.frozenAt 1
        have HB2 := Lib.hid (HB1.out.trans (hb2.mono HB1.out.size))
        clear hb2
        rw [← HU.out, ← HK2.out, ← HV2.out]
        go_wp2
        (try simp only [Exit.inBlock, Exit.then])
        refine bodyPost_ret (v := .tuple #[.agg #[.int .i64 0, .int .i64 0], .int .i64 (0), .int .i64 1]) ?_ rfl ⟨?_, ?_⟩
        · rw [results_cell_tmp2 rfl]
          go_simp
        · rw [Hf.out]
          rfl
        · exact (HB2.out.setCell (Nat.le_refl _) _).setCell (Nat.le_refl _) _
      · have e3 : ((K2 : Int) == 0) = false := beq_eq_false_iff_ne.2 (by omega)
        by_cases h4 : 12 < V2
        · have e4 : decide ((12 : Int) < (V2 : Int)) = true := by simp; omega
          have Hf := Lib.hid (N4.out h1 h2 h3 h4)
          clear h1 h3 h4
          go_enter Tryd.func26, Tryd.ntmps26
          go_wp2_with fail
          refine (implReadVar_any t ht _).mono ?_
          rintro e w1 ⟨rfl, hb1⟩
          have O1 := Lib.hid (own_below Oa.out hb1)
          have c0 : w1.cell? ⟨w.heap.size, 0, none⟩ = some (.int .i64 0) := own_even (xs := [(0, 0)]) (k := 0) O1.out (by decide)
          have c1 : w1.cell? ⟨w.heap.size, 1, none⟩ = some (.int .i64 0) := own_odd (xs := [(0, 0)]) (k := 0) O1.out (by decide)
          have f0 := O1.out.frozenAt 0
          have f1 := O1.out.frozenAt 1
          have HB1 := Lib.hid (Ha.out.trans (hb1.mono (Ha.out.size)))
          clear hb1
          rw [← HK.out, ← HV.out]
          go_wp2_with fail
          refine (implLabelOk_any _ _).mono ?_
          rintro e w' ⟨rfl, rfl⟩
          rw [h2]
          go_wp2_with fail
          refine (implReadVar_any (Num.rest t K) (by rw [← HU.out]; exact hr) _).mono ?_
          rintro e w2 ⟨rfl, hb2⟩
          have O2 := Lib.hid (own_below O1.out hb2)
          clear c0 c1 f0 f1
          have c0 : w2.cell? ⟨w.heap.size, 0, none⟩ = some (.int .i64 0) := own_even (xs := [(0, 0)]) (k := 0) O2.out (by decide)
          have c1 : w2.cell? ⟨w.heap.size, 1, none⟩ = some (.int .i64 0) := own_odd (xs := [(0, 0)]) (k := 0) O2.out (by decide)
          have f0 := O2.out.frozenAt 0
          have f1 := O2.out.frozenAt 1
          have HB2 := Lib.hid (HB1.out.trans (hb2.mono HB1.out.size))
          clear hb2
          rw [← HU.out, ← HK2.out, ← HV2.out]
          go_wp2
          (try simp only [Exit.inBlock, Exit.then])
          refine bodyPost_ret (v := .tuple #[.agg #[.int .i64 0, .int .i64 0], .int .i64 (0), .int .i64 4]) ?_ rfl ⟨?_, ?_⟩
          · rw [results_cell_tmp2 rfl]
            go_simp
          · rw [Hf.out]
            rfl
          · exact (HB2.out.setCell (Nat.le_refl _) _).setCell (Nat.le_refl _) _
        · have e4 : decide ((12 : Int) < (V2 : Int)) = false := by simp; omega
          rcases h5 : Tr.fits xs n V2 with _ | _
          · have Hf := Lib.hid (N5.out h1 h2 h3 h4 h5)
            clear h1 h3 h4
            go_enter Tryd.func26, Tryd.ntmps26
            go_wp2_with fail
            refine (implReadVar_any t ht _).mono ?_
            rintro e w1 ⟨rfl, hb1⟩
            have O1 := Lib.hid (own_below Oa.out hb1)
            have c0 : w1.cell? ⟨w.heap.size, 0, none⟩ = some (.int .i64 0) := own_even (xs := [(0, 0)]) (k := 0) O1.out (by decide)
            have c1 : w1.cell? ⟨w.heap.size, 1, none⟩ = some (.int .i64 0) := own_odd (xs := [(0, 0)]) (k := 0) O1.out (by decide)
            have f0 := O1.out.frozenAt 0
            have f1 := O1.out.frozenAt 1
            have HB1 := Lib.hid (Ha.out.trans (hb1.mono (Ha.out.size)))
            clear hb1
            rw [← HK.out, ← HV.out]
            go_wp2_with fail
            refine (implLabelOk_any _ _).mono ?_
            rintro e w' ⟨rfl, rfl⟩
            rw [h2]
            go_wp2_with fail
            refine (implReadVar_any (Num.rest t K) (by rw [← HU.out]; exact hr) _).mono ?_
            rintro e w2 ⟨rfl, hb2⟩
            have O2 := Lib.hid (own_below O1.out hb2)
            clear c0 c1 f0 f1
            have c0 : w2.cell? ⟨w.heap.size, 0, none⟩ = some (.int .i64 0) := own_even (xs := [(0, 0)]) (k := 0) O2.out (by decide)
            have c1 : w2.cell? ⟨w.heap.size, 1, none⟩ = some (.int .i64 0) := own_odd (xs := [(0, 0)]) (k := 0) O2.out (by decide)
            have f0 := O2.out.frozenAt 0
            have f1 := O2.out.frozenAt 1
            have HB2 := Lib.hid (HB1.out.trans (hb2.mono HB1.out.size))
            clear hb2
            rw [← HU.out, ← HK2.out, ← HV2.out]
            go_wp2_with fail
            refine (depthFits_any _ _ _ xs _ _ (H.out.to_below HB2.out) hn Hb.out).mono ?_
            rintro e w' ⟨rfl, rfl⟩
            rw [h5]
            go_wp2
            (try simp only [Exit.inBlock, Exit.then])
            refine bodyPost_ret (v := .tuple #[.agg #[.int .i64 0, .int .i64 0], .int .i64 (0), .int .i64 5]) ?_ rfl ⟨?_, ?_⟩
            · rw [results_cell_tmp2 rfl]
              go_simp
            · rw [Hf.out]
              rfl
            · exact (HB2.out.setCell (Nat.le_refl _) _).setCell (Nat.le_refl _) _
          · have Hf := Lib.hid (N6.out h1 h2 h3 h4 h5)
            have a1 : IntKind.i64.wrap ((K : Int) + (K2 : Int)) = (K : Int) + (K2 : Int) := Kit.w64 (by omega) (by omega)
            clear h1 h3 h4
            go_enter Tryd.func26, Tryd.ntmps26
            go_wp2_with fail
            refine (implReadVar_any t ht _).mono ?_
            rintro e w1 ⟨rfl, hb1⟩
            have O1 := Lib.hid (own_below Oa.out hb1)
            have c0 : w1.cell? ⟨w.heap.size, 0, none⟩ = some (.int .i64 0) := own_even (xs := [(0, 0)]) (k := 0) O1.out (by decide)
            have c1 : w1.cell? ⟨w.heap.size, 1, none⟩ = some (.int .i64 0) := own_odd (xs := [(0, 0)]) (k := 0) O1.out (by decide)
            have f0 := O1.out.frozenAt 0
            have f1 := O1.out.frozenAt 1
            have HB1 := Lib.hid (Ha.out.trans (hb1.mono (Ha.out.size)))
            clear hb1
            rw [← HK.out, ← HV.out]
            go_wp2_with fail
            refine (implLabelOk_any _ _).mono ?_
            rintro e w' ⟨rfl, rfl⟩
            rw [h2]
            go_wp2_with fail
            refine (implReadVar_any (Num.rest t K) (by rw [← HU.out]; exact hr) _).mono ?_
            rintro e w2 ⟨rfl, hb2⟩
            have O2 := Lib.hid (own_below O1.out hb2)
            clear c0 c1 f0 f1
            have c0 : w2.cell? ⟨w.heap.size, 0, none⟩ = some (.int .i64 0) := own_even (xs := [(0, 0)]) (k := 0) O2.out (by decide)
            have c1 : w2.cell? ⟨w.heap.size, 1, none⟩ = some (.int .i64 0) := own_odd (xs := [(0, 0)]) (k := 0) O2.out (by decide)
            have f0 := O2.out.frozenAt 0
            have f1 := O2.out.frozenAt 1
            have HB2 := Lib.hid (HB1.out.trans (hb2.mono HB1.out.size))
            clear hb2
            rw [← HU.out, ← HK2.out, ← HV2.out]
            go_wp2_with fail
            refine (depthFits_any _ _ _ xs _ _ (H.out.to_below HB2.out) hn Hb.out).mono ?_
            rintro e w' ⟨rfl, rfl⟩
            rw [h5]
            go_wp2
            (try simp only [Exit.inBlock, Exit.then])
            refine bodyPost_ret (v := .tuple #[.agg #[.int .i64 V, .int .i64 V2], .int .i64 ((K : Int) + (K2 : Int)), .int .i64 0]) ?_ rfl ⟨?_, ?_⟩
            · rw [results_cell_tmp2 rfl]
              go_simp
            · rw [Hf.out]
              rfl
            · exact (HB2.out.setCell (Nat.le_refl _) _).setCell (Nat.le_refl _) _

end Go.Proofs.YtpdpkcadolcbmaaDoor

/- Contracts (GetI). -/
namespace Go.Proofs.YtpdpkcadolcbmaaDoor
open Go.RowKit
set_option linter.unusedVariables false

theorem info_ndI : (Tryd.prog.info? 46).map (fun i => (i.zero, i.size, i.bytes)) = some (some (.agg #[.int .i64 0, .int .i64 0]), 2, 16) := by kernel_rfl

set_option maxHeartbeats 1600000 in
set_option maxRecDepth 100000 in
theorem implGetTree_any (s : ByteArray) (hs : s.size ≤ maxLen) (w : World) :
    Calls Tryd.prog 7 #[.string s] w (OwnNodes2 46 (Tr.get s) w) := by
  have hs' : s.size ≤ 9223372036854775807 := hs
  have Hs := Lib.hid hs
  clear hs
  obtain ⟨i0, hi, hz0, hz1, hz2⟩ := info_parts info_ndI
  have Hi := Lib.hid hi
  clear hi
  have hk0 := Num.rvK_le s
  obtain ⟨K, hK⟩ : ∃ K, K = Num.rvK s := ⟨_, rfl⟩
  obtain ⟨N, hN⟩ : ∃ N, N = Num.rvN s := ⟨_, rfl⟩
  have HK := Lib.hid hK
  have HN := Lib.hid hN
  have g1 := Tr.get_n1 (s := s)
  have g2 := Tr.get_n2 (s := s)
  have g3 := Tr.get_y (s := s)
  rw [← hK] at hk0 g1 g2 g3
  rw [← hN] at g2 g3
  clear hK hN
  by_cases h1 : K = 0
  · have Hres := Lib.hid (g1 h1)
    have e1 : ((K : Int) == 0) = true := by rw [h1]; rfl
    clear h1 g1 g2 g3
    go_enter Tryd.func7, Tryd.ntmps7
    go_wp2_with fail
    refine (implReadVar_any s Hs.out _).mono ?_
    rintro e w1 ⟨rfl, hb⟩
    have HB := Lib.hid hb
    clear hb
    rw [← HN.out, ← HK.out]
    go_wp2
    go_ret2
    exact ⟨none, 0, by rw [Hres.out]; rfl, by rw [Hres.out]; exact own_nil, HB.out⟩
  · have e1 : ((K : Int) == 0) = false := beq_eq_false_iff_ne.2 (by omega)
    by_cases h2 : 1 ≤ N
    · have e2 : decide ((N : Int) < 1) = false := by simp; omega
      by_cases h3 : N ≤ 24
      · have e3 : decide ((24 : Int) < (N : Int)) = false := by simp; omega
        have HG := Lib.hid (g3 h1 ⟨h2, h3⟩)
        have hks : (K : Int) ≤ (s.size : Int) := by omega
        have hks' : K ≤ s.size := by omega
        clear h1 g1 g2 g3
        go_enter Tryd.func7, Tryd.ntmps7
        go_wp2_with fail
        refine (implReadVar_any s Hs.out _).mono ?_
        rintro e w1 ⟨rfl, hb⟩
        have HB := Lib.hid hb
        clear hb
        rw [← HN.out, ← HK.out]
        go_wp2
        go_loopw [27, 6, 0] (fun iv lv sv wr => ∃ (k : Nat) (t : ByteArray) (xs : Tr), k ≤ N ∧ iv = .int .i64 k ∧ sv = .string t ∧ t.size ≤ 9223372036854775807 ∧ xs.length = k ∧ wr.ownsRow w.heap.size 46 2 lv k (Tr.cells xs) ∧ (0 < k → 0 ≤ Tr.d xs (k - 1) ∧ Tr.d xs (k - 1) ≤ 12) ∧ Tr.get s = Tr.getB (N - k) t xs ∧ Below w.heap.size w wr) (fun i _ _ _ => N - (intOf i).toNat)
        case atStart => exact ⟨0, Num.rest s K, [], Nat.zero_le _, rfl, rfl, by rw [Num.rest_size]; omega, rfl, own_nil, fun h => absurd h (by omega), HG.out, HB.out⟩
        case round =>
          clear HB
          obtain ⟨k, t, xs, hk, rfl, rfl, ht, hlen, hown, hbd, hI, hB⟩ := hrel
          have HL := Lib.hid hlen
          have Ho := Lib.hid hown
          have HB := Lib.hid hB
          have HI := Lib.hid hI
          have Hbd := Lib.hid hbd
          clear hlen hown hB hI hbd
          obtain ⟨A', c', rfl⟩ := own_slice Ho.out
          by_cases hlt : k < N
          · have HI' := HI.out
            rw [show N - k = (N - k - 1) + 1 by omega] at HI'
            rcases Tr.node_cases t xs with ⟨code, hnode, hc1, hc5⟩ | ⟨l, d, u, hnode, hu, hl, hd⟩
            · have Hres := Lib.hid (HI'.trans (Tr.getB_no hnode hc1))
              have Hnode := Lib.hid hnode
              have f1 : (code == 0) = false := beq_eq_false_iff_ne.2 (by omega)
              have f2 : (code != 0) = true := by simp; omega
              clear HI' hnode
              go_wp2_with fail
              refine (getNode_any t A' k c' xs wr (by unfold maxLen; omega) (NdIn.of_own Ho.out) (by omega) Hbd.out).mono ?_
              rintro e w4 ⟨rfl, hb⟩
              have Ho := Lib.hid (own_below Ho.out hb)
              have HB := Lib.hid (HB.out.trans (hb.mono HB.out.size))
              clear hb
              rw [Hnode.out]
              have HB := Lib.hid (HB.out.alloc HB.out.size (.cells #[.int .i64 0, .int .i64 0] 46))
              go_wp2
              go_ret2
              exact ⟨none, 0, by rw [Hres.out]; rfl, by rw [Hres.out]; exact own_nil, HB.out⟩
            · have Hres := Lib.hid (HI'.trans (Tr.getB_yes (r := N - k - 1) hnode))
              have Hnode := Lib.hid hnode
              have hus : (u : Int) ≤ (t.size : Int) := by omega
              clear HI' hnode
              go_wp2_with fail
              refine (getNode_any t A' k c' xs wr (by unfold maxLen; omega) (NdIn.of_own Ho.out) (by omega) Hbd.out).mono ?_
              rintro e w4 ⟨rfl, hb⟩
              have Ho := Lib.hid (own_below Ho.out hb)
              have HB := Lib.hid (HB.out.trans (hb.mono HB.out.size))
              clear hb
              rw [Hnode.out]
              have hsx := HB.out.size
              have Ho := Lib.hid (World.ownsRow.alloc Ho.out (.cells #[.int .i64 l, .int .i64 d] 46))
              have HB := Lib.hid (HB.out.alloc hsx (.cells #[.int .i64 l, .int .i64 d] 46))
              have hsz := HB.out.size
              have hs1 : (w4.alloc (.cells #[.int .i64 l, .int .i64 d] 46)).heap.size = w4.heap.size + 1 := by simp
              go_wp2_with (at_builtin; go_loud (refine append_node (w4.alloc (.cells #[.int .i64 l, .int .i64 d] 46)) rfl _ _ 24 rfl w.heap.size 46 i0 Tryd.underlying24 Hi.out hz0 hz1 hz2 (.slice A' k c') k xs rfl Ho.out HL.out.symm l d (by rw [hs1]; rfl) (by rw [HL.out]; omega) hsz ?_); intro v' w6 hown hgrow)
              have hb6 := Kit.below_own HB.out Ho.out hgrow
              rw [List.length_append, HL.out] at hown
              go_roundw
              case rel => exact ⟨k + 1, Num.rest t u, xs ++ [(l, d)], by omega, by go_num, rfl, by rw [Num.rest_size]; omega, by simp [HL.out], hown, fun _ => by rw [Tr.d_last _ _ _ HL.out]; exact hd, by rw [Hres.out, show N - k - 1 = N - (k + 1) by omega], hb6⟩
              case measure => simp [intOf]; omega
          · obtain rfl : k = N := by omega
            by_cases h1 : t.size = 0
            · obtain rfl : t = ⟨#[]⟩ := by
                have := ByteArray.size_eq_zero_iff.1 h1
                rw [this]; rfl
              have Hres := Lib.hid (show Tr.get s = (xs, 0) by
                rw [HI.out, Nat.sub_self]; exact Tr.getB_end h1)
              clear h1
              go_wp2
              go_ret2
              exact ⟨A', c', by rw [Hres.out]; show _ = Ending.returned (.tuple #[.slice A' xs.length c', _]); rw [HL.out]; rfl, by rw [Hres.out]; show World.ownsRow _ _ _ _ (.slice A' xs.length c') xs.length _; rw [HL.out]; exact Ho.out, HB.out⟩
            · have f1 : t.toList.isEmpty = false := by
                rw [ByteArray.toList_eq, List.isEmpty_eq_false_iff]
                intro e
                exact h1 (by show t.data.size = 0; rw [← Array.length_toList, e]; rfl)
              have Hres := Lib.hid (show Tr.get s = ([], 6) by
                rw [HI.out, Nat.sub_self]; exact Tr.getB_left h1)
              clear h1
              go_wp2
              go_ret2
              exact ⟨none, 0, by rw [Hres.out]; rfl, by rw [Hres.out]; exact own_nil, HB.out⟩
      · have e3 : decide ((24 : Int) < (N : Int)) = true := by simp; omega
        have Hres := Lib.hid (g2 h1 (by omega))
        clear h1 g1 g2 g3
        go_enter Tryd.func7, Tryd.ntmps7
        go_wp2_with fail
        refine (implReadVar_any s Hs.out _).mono ?_
        rintro e w1 ⟨rfl, hb⟩
        have HB := Lib.hid hb
        clear hb
        rw [← HN.out, ← HK.out]
        go_wp2
        go_ret2
        exact ⟨none, 0, by rw [Hres.out]; rfl, by rw [Hres.out]; exact own_nil, HB.out⟩
    · have e2 : decide ((N : Int) < 1) = true := by simp; omega
      have Hres := Lib.hid (g2 h1 (by omega))
      clear h1 g1 g2 g3
      go_enter Tryd.func7, Tryd.ntmps7
      go_wp2_with fail
      refine (implReadVar_any s Hs.out _).mono ?_
      rintro e w1 ⟨rfl, hb⟩
      have HB := Lib.hid hb
      clear hb
      rw [← HN.out, ← HK.out]
      go_wp2
      go_ret2
      exact ⟨none, 0, by rw [Hres.out]; rfl, by rw [Hres.out]; exact own_nil, HB.out⟩

end Go.Proofs.YtpdpkcadolcbmaaDoor

/- Contracts (ReadVarS). -/
namespace Go.Proofs.YtpdpkcadolcbmaaDoor
open Go.RowKit
set_option linter.unusedVariables false

set_option maxHeartbeats 400000 in
set_option maxRecDepth 100000 in
theorem specReadVar_any (s : ByteArray) (hs : s.size ≤ maxLen) (w : World) :
    Calls Tryd.prog 51 #[.string s] w fun e w' => e = .returned (.tuple #[.int .i64 (Num.rvN s), .int .i64 (Num.rvK s)]) ∧ Below w.heap.size w w' := by
  unfold maxLen at hs
  go_enter Tryd.func51, Tryd.ntmps51
  go_wp2
  go_loopw [4] (fun kv wr => ∃ k : Nat, 1 ≤ k ∧ kv = .int .i64 k ∧ (k : Int) ≤ 8 ∧ k ≤ s.size + 1 ∧ (∀ j, 1 ≤ j → j < k → ¬ Num.good s.data.toList j) ∧ Below w.heap.size w wr) (fun i _ => 8 - (intOf i).toNat)
  case atStart => exact ⟨1, Nat.le_refl _, rfl, by omega, by omega, fun j h1 h2 => by omega, Below.refl _ _⟩
  case round =>
    obtain ⟨k, hk1, rfl, hk8, hks, hno, hb⟩ := hrel
    have Hno := Lib.hid hno
    clear hno
    by_cases hlt : k ≤ 7 ∧ k ≤ s.size
    · obtain ⟨h7, hk⟩ := hlt
      go_wp2
      go_loop [5, 6] (fun nv iv => ∃ i : Nat, i ≤ k ∧ iv = .int .i64 ((i : Int) - 1) ∧ nv = .int .i64 (Num.val7 ((s.data.toList.take k).drop i))) (fun _ i => (intOf i + 1).toNat)
      case atStart => exact ⟨k, Nat.le_refl _, rfl, by rw [List.drop_eq_nil_of_le (List.length_take_le _ _)]; rfl⟩
      case round =>
        obtain ⟨i, hi, rfl, rfl⟩ := hrel
        by_cases hp : 0 < i
        · have hi1 : i - 1 < k := by omega
          have hbt : s[i - 1].toNat < 256 := s[i - 1].toNat_lt
          have hsm := Num.val7_small6 ((s.data.toList.take k).drop i) (by simp; omega)
          have hdr := Num.val7_drop s k (i - 1) hi1 hk
          rw [show i - 1 + 1 = i by omega] at hdr
          have Hdr := Lib.hid hdr
          clear hdr
          have hidx : ((i : Int) - 1).toNat = i - 1 := by omega
          go_wp2
          go_round
          case rel =>
            refine ⟨i - 1, by omega, by rw [show ((i : Int) - 1 - 1) = ((i - 1 : Nat) : Int) - 1 by omega], ?_⟩
            rw [Hdr.out]
            go_num
          case measure => simp [intOf]; omega
        · obtain rfl : i = 0 := by omega
          have hv := Num.val7_small ((s.data.toList.take k).drop 0) (by simp; omega)
          go_wp2
          go_region_law ((go_simp; go_at_call 54; refine (specVar_any _ _).mono ?_; rintro e w' ⟨rfl, hb1⟩))
          go_wp2
          · have ht : (Num.varR (Num.val7 (s.data.toList.take k) : Nat) == (s.extract 0 k).toList) = true := by assumption
            have hg : Num.good s.data.toList k := by simpa [Num.good_test h7] using ht
            obtain ⟨e1, e2⟩ := Num.rv_good h7 hk hg
            go_ret2
            refine ⟨by rw [e1, e2]; rfl, ?_⟩
            exact hb.drew.trans (hb1.mono (by have := hb.size; simpa using this))
          · have ht : (Num.varR (Num.val7 (s.data.toList.take k) : Nat) == (s.extract 0 k).toList) = false := by assumption
            have hg : ¬ Num.good s.data.toList k := by simpa [Num.good_test h7] using ht
            go_roundw
            case rel =>
              refine ⟨k + 1, by omega, by go_num, by omega, by omega, fun j h1 h2 => ?_, hb.drew.trans (hb1.mono (by have := hb.size; simpa using this))⟩
              rcases Nat.lt_succ_iff_lt_or_eq.1 h2 with h2 | rfl
              · exact Hno.out j h1 h2
              · exact hg
            case measure => simp [intOf]; omega
    · have hn := Num.rv_none (s := s) (fun j h1 h2 h3 => Hno.out j h1 (by omega))
      by_cases h7 : k ≤ 7
      · have hks2 : (s.size : Int) < k := by omega
        clear hlt
        have Hn := Lib.hid hn
        clear hn
        go_wp2
        go_ret2
        exact ⟨by rw [Hn.out.1, Hn.out.2]; rfl, hb⟩
      · clear hlt
        have Hn := Lib.hid hn
        clear hn
        go_wp2
        go_ret2
        exact ⟨by rw [Hn.out.1, Hn.out.2]; rfl, hb⟩

end Go.Proofs.YtpdpkcadolcbmaaDoor

/- Contracts (NumS). -/
namespace Go.Proofs.YtpdpkcadolcbmaaDoor
open Go.RowKit
set_option linter.unusedVariables false

set_option maxHeartbeats 800000 in
set_option maxRecDepth 100000 in
theorem l4Num_no (s : ByteArray) (p : Nat) (hp : p ≤ s.size) (hs : s.size ≤ maxLen) (hK : Num.rvK (Num.rest s p) = 0) (w : World) :
    Calls Tryd.prog 30 #[.string s, .int .i64 p] w fun e w' => e = .returned (.tuple #[.int .i64 0, .int .i64 (-1)]) ∧ Below w.heap.size w w' := by
  have hr : (Num.rest s p).size ≤ maxLen := by rw [Num.rest_size]; omega
  unfold maxLen at hs
  have e0 : ((Num.rvK (Num.rest s p) : Int) == 0) = true := by rw [hK]; rfl
  clear hK
  go_enter Tryd.func30, Tryd.ntmps30
  go_wp2_with fail
  refine (specReadVar_any (Num.rest s p) hr _).mono ?_
  rintro e w1 ⟨rfl, hb1⟩
  go_wp2
  go_ret2
  exact ⟨rfl, hb1⟩

set_option maxHeartbeats 800000 in
set_option maxRecDepth 100000 in
theorem l4Num_yes (s : ByteArray) (p q : Nat) (hp : p ≤ s.size) (hs : s.size ≤ maxLen) (hK : ¬ Num.rvK (Num.rest s p) = 0) (hq : q = p + Num.rvK (Num.rest s p)) (w : World) :
    Calls Tryd.prog 30 #[.string s, .int .i64 p] w fun e w' => e = .returned (.tuple #[.int .i64 (Num.rvN (Num.rest s p)), .int .i64 q]) ∧ Below w.heap.size w w' := by
  have hr : (Num.rest s p).size ≤ maxLen := by rw [Num.rest_size]; omega
  unfold maxLen at hs
  have e0 : ((Num.rvK (Num.rest s p) : Int) == 0) = false := beq_eq_false_iff_ne.2 (by omega)
  have h7 := (Num.rvK_le (Num.rest s p)).1
  have h8 := (Num.rvK_le (Num.rest s p)).2
  rw [Num.rest_size] at h8
  have a1 : IntKind.i64.wrap ((p : Int) + (Num.rvK (Num.rest s p) : Int)) = (q : Int) := by rw [Kit.w64 (by omega) (by omega)]; omega
  clear hK hq
  go_enter Tryd.func30, Tryd.ntmps30
  go_wp2_with fail
  refine (specReadVar_any (Num.rest s p) hr _).mono ?_
  rintro e w1 ⟨rfl, hb1⟩
  go_wp2
  go_ret2
  exact ⟨rfl, hb1⟩

end Go.Proofs.YtpdpkcadolcbmaaDoor

/- Contracts (GetS). -/
namespace Go.Proofs.YtpdpkcadolcbmaaDoor
open Go.RowKit
set_option linter.unusedVariables false

theorem info_ndG : (Tryd.prog.info? 46).map (fun i => (i.zero, i.size, i.bytes)) = some (some (.agg #[.int .i64 0, .int .i64 0]), 2, 16) := by kernel_rfl

set_option maxHeartbeats 1600000 in
set_option maxRecDepth 100000 in
theorem specGetTree_any (s : ByteArray) (hs : s.size ≤ maxLen) (w : World) :
    Calls Tryd.prog 11 #[.string s] w (OwnNodes2 46 (Tr.get s) w) := by
  have hs' : s.size ≤ 9223372036854775807 := hs
  have Hs := Lib.hid hs
  clear hs
  obtain ⟨i0, hi, hz0, hz1, hz2⟩ := info_parts info_ndG
  have Hi := Lib.hid hi
  clear hi
  have hk0 := Num.rvK_le s
  have Ho := Lib.hid (World.ownsRow_lit (base := w.heap.size) (e := 46) (size := 2) w #[] 0 (Nat.le_refl _) (Nat.zero_le _) rfl)
  have HB := Lib.hid ((Below.refl w.heap.size w).alloc (Nat.le_refl _) (.cells #[] 46))
  by_cases h1 : Num.rvK s = 0
  · have Hres := Lib.hid (Tr.get_n1 h1)
    have h1x : Num.rvK (Num.rest s 0) = 0 := by rw [Num.rest_zero]; exact h1
    have H1x := Lib.hid h1x
    clear h1 h1x
    go_enter Tryd.func11, Tryd.ntmps11
    go_wp2_with fail
    refine (l4Num_no s 0 (Nat.zero_le _) Hs.out H1x.out _).mono ?_
    rintro e w1 ⟨rfl, hb⟩
    have Ho := Lib.hid (own_below Ho.out hb)
    have HB := Lib.hid (HB.out.trans (hb.mono HB.out.size))
    clear hb
    go_wp2
    go_ret2
    exact ⟨_, _, by rw [Hres.out]; rfl, by rw [Hres.out]; exact Ho.out, HB.out⟩
  · obtain ⟨q, hq⟩ : ∃ q, q = Num.rvK s := ⟨_, rfl⟩
    have h1x := Lib.hid (show ¬ Num.rvK (Num.rest s 0) = 0 by rw [Num.rest_zero]; exact h1)
    have Hq := Lib.hid (show q = 0 + Num.rvK (Num.rest s 0) by rw [Num.rest_zero]; omega)
    obtain ⟨N, hN⟩ : ∃ N, N = Num.rvN s := ⟨_, rfl⟩
    have HN := Lib.hid hN
    by_cases h2 : 1 ≤ Num.rvN s ∧ Num.rvN s ≤ 24
    · have hg := Tr.get_y h1 h2
      rw [← hq, ← hN] at hg
      have HG := Lib.hid hg
      rw [← hN] at h2
      have h2' : decide ((1 : Int) ≤ (N : Int) ∧ (N : Int) ≤ 24) = true := by simp; omega
      have hqs : q ≤ s.size := by omega
      have eq0 : decide ((q : Int) < 0) = false := by simp
      clear h1 hq hN hg hk0
      go_enter Tryd.func11, Tryd.ntmps11
      go_wp2_with fail
      refine (l4Num_yes s 0 q (Nat.zero_le _) Hs.out h1x.out Hq.out _).mono ?_
      rintro e w1 ⟨rfl, hb⟩
      have Ho := Lib.hid (own_below Ho.out hb)
      have HB := Lib.hid (HB.out.trans (hb.mono HB.out.size))
      clear hb
      rw [Num.rest_zero, ← HN.out]
      go_wp2_with fail
      refine (l1In_any _ _ _ _).mono ?_
      rintro e w' ⟨rfl, rfl⟩
      rw [h2']
      go_wp2
      go_loopw [7, 4, 6] (fun iv ov av wr => ∃ (k p : Nat) (xs : Tr), k ≤ N ∧ iv = .int .i64 k ∧ av = .int .i64 p ∧ p ≤ s.size ∧ xs.length = k ∧ wr.ownsRow w.heap.size 46 2 ov k (Tr.cells xs) ∧ (0 < k → 0 ≤ Tr.d xs (k - 1) ∧ Tr.d xs (k - 1) ≤ 12) ∧ Tr.get s = Tr.getB (N - k) (Num.rest s p) xs ∧ Below w.heap.size w wr) (fun i _ _ _ => N - (intOf i).toNat)
      case atStart => exact ⟨0, q, [], Nat.zero_le _, rfl, rfl, hqs, rfl, Ho.out, fun h => absurd h (by omega), HG.out, HB.out⟩
      case round =>
        clear Ho HB
        obtain ⟨k, p, xs, hk, rfl, rfl, hp, hlen, hown, hbd, hI, hB⟩ := hrel
        have HL := Lib.hid hlen
        have Ho := Lib.hid hown
        have HB := Lib.hid hB
        have HI := Lib.hid hI
        have Hbd := Lib.hid hbd
        clear hlen hown hB hI hbd
        obtain ⟨A', c', rfl⟩ := own_slice Ho.out
        by_cases hlt : k < N
        · have HI' := HI.out
          rw [show N - k = (N - k - 1) + 1 by omega] at HI'
          by_cases h1 : Num.rvK (Num.rest s p) = 0
          · have Hres := Lib.hid (HI'.trans (Tr.go_n1 h1))
            have h1x := Lib.hid h1
            clear h1 HI'
            go_wp2_with fail
            refine (l4Num_no s p hp Hs.out h1x.out _).mono ?_
            rintro e w4 ⟨rfl, hb⟩
            have Ho := Lib.hid (own_below Ho.out hb)
            have HB := Lib.hid (HB.out.trans (hb.mono HB.out.size))
            clear hb
            have hsx := HB.out.size
            go_wp2
            go_ret2
            exact ⟨_, _, by rw [Hres.out]; rfl, by rw [Hres.out]; exact World.ownsRow_lit w4 #[] 0 hsx (Nat.zero_le _) rfl, HB.out.alloc hsx _⟩
          · have h1x := Lib.hid h1
            obtain ⟨p1, hp1⟩ : ∃ p1, p1 = p + Num.rvK (Num.rest s p) := ⟨_, rfl⟩
            have hp1' : p1 ≤ s.size := by
              have := (Num.rvK_le (Num.rest s p)).2
              rw [Num.rest_size] at this
              omega
            have Hp1 := Lib.hid hp1
            have ep1 : decide ((p1 : Int) < 0) = false := by simp
            obtain ⟨V, hV⟩ : ∃ V : Int, V = (Num.rvN (Num.rest s p) : Int) := ⟨_, rfl⟩
            have HV := Lib.hid hV
            rcases h2 : Lab.ok V with _ | _
            · have Hres := Lib.hid (HI'.trans (Tr.go_n2 h1 (by rw [← hV]; exact h2)))
              clear h1 HI' hp1 hV
              go_wp2_with fail
              refine (l4Num_yes s p p1 hp Hs.out h1x.out Hp1.out _).mono ?_
              rintro e w4 ⟨rfl, hb⟩
              have Ho := Lib.hid (own_below Ho.out hb)
              have HB := Lib.hid (HB.out.trans (hb.mono HB.out.size))
              clear hb
              rw [← HV.out]
              go_wp2_with fail
              refine (specLabelOk_any _ _).mono ?_
              rintro e w' ⟨rfl, rfl⟩
              rw [h2]
              have hsx := HB.out.size
              go_wp2
              go_ret2
              exact ⟨_, _, by rw [Hres.out]; rfl, by rw [Hres.out]; exact World.ownsRow_lit w4 #[] 0 hsx (Nat.zero_le _) rfl, HB.out.alloc hsx _⟩
            · by_cases h3 : Num.rvK (Num.rest s p1) = 0
              · have Hres := Lib.hid (HI'.trans (Tr.go_n3 hp1 h1 (by rw [← hV]; exact h2) h3))
                have h3x := Lib.hid h3
                clear h1 h3 HI' hp1 hV
                go_wp2_with fail
                refine (l4Num_yes s p p1 hp Hs.out h1x.out Hp1.out _).mono ?_
                rintro e w4 ⟨rfl, hb⟩
                have Ho := Lib.hid (own_below Ho.out hb)
                have HB := Lib.hid (HB.out.trans (hb.mono HB.out.size))
                clear hb
                rw [← HV.out]
                go_wp2_with fail
                refine (specLabelOk_any _ _).mono ?_
                rintro e w' ⟨rfl, rfl⟩
                rw [h2]
                go_wp2_with fail
                refine (l4Num_no s p1 hp1' Hs.out h3x.out _).mono ?_
                rintro e w5 ⟨rfl, hb⟩
                have Ho := Lib.hid (own_below Ho.out hb)
                have HB := Lib.hid (HB.out.trans (hb.mono HB.out.size))
                clear hb
                have hsx := HB.out.size
                go_wp2
                go_ret2
                exact ⟨_, _, by rw [Hres.out]; rfl, by rw [Hres.out]; exact World.ownsRow_lit w5 #[] 0 hsx (Nat.zero_le _) rfl, HB.out.alloc hsx _⟩
              · have h3x := Lib.hid h3
                obtain ⟨p2, hp2⟩ : ∃ p2, p2 = p1 + Num.rvK (Num.rest s p1) := ⟨_, rfl⟩
                have hp2' : p2 ≤ s.size := by
                  have := (Num.rvK_le (Num.rest s p1)).2
                  rw [Num.rest_size] at this
                  omega
                have Hp2 := Lib.hid hp2
                have ep2 : decide ((p2 : Int) < 0) = false := by simp
                obtain ⟨D, hD⟩ : ∃ D : Int, D = (Num.rvN (Num.rest s p1) : Int) := ⟨_, rfl⟩
                have HD := Lib.hid hD
                have hD0 : 0 ≤ D := by omega
                by_cases h4 : 12 < Num.rvN (Num.rest s p1)
                · have Hres := Lib.hid (HI'.trans (Tr.go_n4 hp1 h1 (by rw [← hV]; exact h2) h3 h4))
                  have e4 : decide (12 < D) = true := by simp; omega
                  clear HI' hp1 hp2 hD hV
                  clear h1 h3 h4
                  go_wp2_with fail
                  refine (l4Num_yes s p p1 hp Hs.out h1x.out Hp1.out _).mono ?_
                  rintro e w4 ⟨rfl, hb⟩
                  have Ho := Lib.hid (own_below Ho.out hb)
                  have HB := Lib.hid (HB.out.trans (hb.mono HB.out.size))
                  clear hb
                  rw [← HV.out]
                  go_wp2_with fail
                  refine (specLabelOk_any _ _).mono ?_
                  rintro e w' ⟨rfl, rfl⟩
                  rw [h2]
                  go_wp2_with fail
                  refine (l4Num_yes s p1 p2 hp1' Hs.out h3x.out Hp2.out _).mono ?_
                  rintro e w5 ⟨rfl, hb⟩
                  have Ho := Lib.hid (own_below Ho.out hb)
                  have HB := Lib.hid (HB.out.trans (hb.mono HB.out.size))
                  clear hb
                  rw [← HD.out]
                  have hsx := HB.out.size
                  go_wp2
                  go_ret2
                  exact ⟨_, _, by rw [Hres.out]; rfl, by rw [Hres.out]; exact World.ownsRow_lit w5 #[] 0 hsx (Nat.zero_le _) rfl, HB.out.alloc hsx _⟩
                · have e4 : decide (12 < D) = false := by simp; omega
                  have hD12 : D ≤ 12 := by omega
                  have n5 := fun h => HI'.trans (Tr.go_n5 (r := N - k - 1) (xs := xs) hp1 h1 (by rw [← hV]; exact h2) h3 h4 h)
                  have n6 := fun h => HI'.trans (Tr.go_y (r := N - k - 1) (xs := xs) hp1 hp2 h1 (by rw [← hV]; exact h2) h3 h4 h)
                  rw [HL.out, ← hD] at n5
                  rw [HL.out, ← hD, ← hV] at n6
                  clear HI' hp1 hp2 hD hV
                  by_cases hk0 : k = 0
                  · have e2 : ((k : Int) == 0) = true := by simp [hk0]
                    have e3 : decide (0 < k) = false := by simp; omega
                    by_cases h5 : D = 0
                    · have e1 : (D == 0) = true := by simpa using h5
                      have Hres := Lib.hid (n6 (by rw [Tr.fits, if_pos hk0]; simpa using h5))
                      clear n5 n6 h5 hk0
                      clear h1 h3 h4
                      go_wp2_with fail
                      refine (l4Num_yes s p p1 hp Hs.out h1x.out Hp1.out _).mono ?_
                      rintro e w4 ⟨rfl, hb⟩
                      have Ho := Lib.hid (own_below Ho.out hb)
                      have HB := Lib.hid (HB.out.trans (hb.mono HB.out.size))
                      clear hb
                      rw [← HV.out]
                      go_wp2_with fail
                      refine (specLabelOk_any _ _).mono ?_
                      rintro e w' ⟨rfl, rfl⟩
                      rw [h2]
                      go_wp2_with fail
                      refine (l4Num_yes s p1 p2 hp1' Hs.out h3x.out Hp2.out _).mono ?_
                      rintro e w5 ⟨rfl, hb⟩
                      have Ho := Lib.hid (own_below Ho.out hb)
                      have HB := Lib.hid (HB.out.trans (hb.mono HB.out.size))
                      clear hb
                      rw [← HD.out]
                      have hsx := HB.out.size
                      go_wp2_with (at_builtin; go_loud (refine append_node w5 rfl _ _ 24 rfl w.heap.size 46 i0 Tryd.underlying24 Hi.out hz0 hz1 hz2 (.slice A' k c') k xs rfl Ho.out HL.out.symm V D rfl (by rw [HL.out]; omega) hsx ?_); intro v' w6 hown hgrow)
                      have hb6 := Kit.below_own HB.out Ho.out hgrow
                      rw [List.length_append, HL.out] at hown
                      go_roundw
                      case rel => exact ⟨k + 1, p2, xs ++ [(V, D)], by omega, by go_num, rfl, by omega, by simp [HL.out], hown, fun _ => by rw [Tr.d_last _ _ _ HL.out]; exact ⟨hD0, by show D ≤ 12; omega⟩, by rw [Hres.out, show N - k - 1 = N - (k + 1) by omega], hb6⟩
                      case measure => simp [intOf]; omega
                    · have e1 : (D == 0) = false := by simpa using h5
                      have Hres := Lib.hid (n5 (by rw [Tr.fits, if_pos hk0]; simpa using h5))
                      clear n5 n6 h5 hk0
                      clear h1 h3 h4
                      go_wp2_with fail
                      refine (l4Num_yes s p p1 hp Hs.out h1x.out Hp1.out _).mono ?_
                      rintro e w4 ⟨rfl, hb⟩
                      have Ho := Lib.hid (own_below Ho.out hb)
                      have HB := Lib.hid (HB.out.trans (hb.mono HB.out.size))
                      clear hb
                      rw [← HV.out]
                      go_wp2_with fail
                      refine (specLabelOk_any _ _).mono ?_
                      rintro e w' ⟨rfl, rfl⟩
                      rw [h2]
                      go_wp2_with fail
                      refine (l4Num_yes s p1 p2 hp1' Hs.out h3x.out Hp2.out _).mono ?_
                      rintro e w5 ⟨rfl, hb⟩
                      have Ho := Lib.hid (own_below Ho.out hb)
                      have HB := Lib.hid (HB.out.trans (hb.mono HB.out.size))
                      clear hb
                      rw [← HD.out]
                      have hsx := HB.out.size
                      go_wp2
                      go_ret2
                      exact ⟨_, _, by rw [Hres.out]; rfl, by rw [Hres.out]; exact World.ownsRow_lit w5 #[] 0 hsx (Nat.zero_le _) rfl, HB.out.alloc hsx _⟩
                  · have e2 : ((k : Int) == 0) = false := by simp [hk0]
                    have e3 : decide (0 < k) = true := by simp; omega
                    by_cases h5 : D = 0
                    · have e1 : (D == 0) = true := by simpa using h5
                      have Hres := Lib.hid (n5 (by rw [Tr.fits, if_neg hk0]; simp; omega))
                      clear n5 n6 h5 hk0
                      clear h1 h3 h4
                      go_wp2_with fail
                      refine (l4Num_yes s p p1 hp Hs.out h1x.out Hp1.out _).mono ?_
                      rintro e w4 ⟨rfl, hb⟩
                      have Ho := Lib.hid (own_below Ho.out hb)
                      have HB := Lib.hid (HB.out.trans (hb.mono HB.out.size))
                      clear hb
                      rw [← HV.out]
                      go_wp2_with fail
                      refine (specLabelOk_any _ _).mono ?_
                      rintro e w' ⟨rfl, rfl⟩
                      rw [h2]
                      go_wp2_with fail
                      refine (l4Num_yes s p1 p2 hp1' Hs.out h3x.out Hp2.out _).mono ?_
                      rintro e w5 ⟨rfl, hb⟩
                      have Ho := Lib.hid (own_below Ho.out hb)
                      have HB := Lib.hid (HB.out.trans (hb.mono HB.out.size))
                      clear hb
                      rw [← HD.out]
                      have hsx := HB.out.size
                      go_wp2
                      go_ret2
                      exact ⟨_, _, by rw [Hres.out]; rfl, by rw [Hres.out]; exact World.ownsRow_lit w5 #[] 0 hsx (Nat.zero_le _) rfl, HB.out.alloc hsx _⟩
                    · have e1 : (D == 0) = false := by simpa using h5
                      have hbk := Hbd.out (by omega)
                      have a1 : IntKind.i64.wrap ((k : Int) - 1) = (k : Int) - 1 := Kit.w64 (by omega) (by omega)
                      have a2 : ((k : Int) - 1).toNat = k - 1 := by omega
                      have a3 : (1 : Int) ≤ (k : Int) := by omega
                      have a4 : (k : Int) - 1 < (k : Int) := by omega
                      have a5 : IntKind.i64.wrap (Tr.d xs (k - 1) + 1) = Tr.d xs (k - 1) + 1 := Kit.w64 (by omega) (by omega)
                      by_cases h6 : D ≤ Tr.d xs (k - 1) + 1
                      · have e6 : decide (Tr.d xs (k - 1) + 1 < D) = false := by simpa using h6
                        have Hres := Lib.hid (n6 (by rw [Tr.fits, if_neg hk0]; simp; omega))
                        clear n5 n6 h5 h6
                        clear h1 h3 h4
                        go_wp2_with fail
                        refine (l4Num_yes s p p1 hp Hs.out h1x.out Hp1.out _).mono ?_
                        rintro e w4 ⟨rfl, hb⟩
                        have Ho := Lib.hid (own_below Ho.out hb)
                        have HB := Lib.hid (HB.out.trans (hb.mono HB.out.size))
                        clear hb
                        rw [← HV.out]
                        go_wp2_with fail
                        refine (specLabelOk_any _ _).mono ?_
                        rintro e w' ⟨rfl, rfl⟩
                        rw [h2]
                        go_wp2_with fail
                        refine (l4Num_yes s p1 p2 hp1' Hs.out h3x.out Hp2.out _).mono ?_
                        rintro e w5 ⟨rfl, hb⟩
                        have Ho := Lib.hid (own_below Ho.out hb)
                        have HB := Lib.hid (HB.out.trans (hb.mono HB.out.size))
                        clear hb
                        rw [← HD.out]
                        obtain ⟨ad, rfl, _, hl', hd'⟩ := (NdIn.of_own Ho.out).at_ (k := k - 1) (by omega)
                        clear hk0 hbk
                        have hsx := HB.out.size
                        go_wp2_with (at_builtin; clear a1 a2 a3 a4 a5; go_loud (refine append_node w5 rfl _ _ 24 rfl w.heap.size 46 i0 Tryd.underlying24 Hi.out hz0 hz1 hz2 (.slice (some ad) k c') k xs rfl Ho.out HL.out.symm V D rfl (by rw [HL.out]; omega) hsx ?_); intro v' w6 hown hgrow)
                        have hb6 := Kit.below_own HB.out Ho.out hgrow
                        rw [List.length_append, HL.out] at hown
                        go_roundw
                        case rel => exact ⟨k + 1, p2, xs ++ [(V, D)], by omega, by go_num, rfl, by omega, by simp [HL.out], hown, fun _ => by rw [Tr.d_last _ _ _ HL.out]; exact ⟨hD0, by show D ≤ 12; omega⟩, by rw [Hres.out, show N - k - 1 = N - (k + 1) by omega], hb6⟩
                        case measure => simp [intOf]; omega
                      · have e6 : decide (Tr.d xs (k - 1) + 1 < D) = true := by simpa using h6
                        have Hres := Lib.hid (n5 (by rw [Tr.fits, if_neg hk0]; simp; omega))
                        clear n5 n6 h5 h6
                        clear h1 h3 h4
                        go_wp2_with fail
                        refine (l4Num_yes s p p1 hp Hs.out h1x.out Hp1.out _).mono ?_
                        rintro e w4 ⟨rfl, hb⟩
                        have Ho := Lib.hid (own_below Ho.out hb)
                        have HB := Lib.hid (HB.out.trans (hb.mono HB.out.size))
                        clear hb
                        rw [← HV.out]
                        go_wp2_with fail
                        refine (specLabelOk_any _ _).mono ?_
                        rintro e w' ⟨rfl, rfl⟩
                        rw [h2]
                        go_wp2_with fail
                        refine (l4Num_yes s p1 p2 hp1' Hs.out h3x.out Hp2.out _).mono ?_
                        rintro e w5 ⟨rfl, hb⟩
                        have Ho := Lib.hid (own_below Ho.out hb)
                        have HB := Lib.hid (HB.out.trans (hb.mono HB.out.size))
                        clear hb
                        rw [← HD.out]
                        obtain ⟨ad, rfl, _, hl', hd'⟩ := (NdIn.of_own Ho.out).at_ (k := k - 1) (by omega)
                        clear hk0 hbk
                        have hsx := HB.out.size
                        go_wp2
                        go_ret2
                        exact ⟨_, _, by rw [Hres.out]; rfl, by rw [Hres.out]; exact World.ownsRow_lit w5 #[] 0 hsx (Nat.zero_le _) rfl, HB.out.alloc hsx _⟩
        · obtain rfl : k = N := by omega
          by_cases h1 : p = s.size
          · have e1 : ((p : Int) == (s.size : Int)) = true := by simp [h1]
            have Hres := Lib.hid (show Tr.get s = (xs, 0) by
              rw [HI.out, Nat.sub_self]; exact Tr.getB_end (by rw [Num.rest_size]; omega))
            clear h1
            go_wp2
            go_ret2
            exact ⟨A', c', by rw [Hres.out]; show _ = Ending.returned (.tuple #[.slice A' xs.length c', _]); rw [HL.out]; rfl, by rw [Hres.out]; show World.ownsRow _ _ _ _ (.slice A' xs.length c') xs.length _; rw [HL.out]; exact Ho.out, HB.out⟩
          · have e1 : ((p : Int) == (s.size : Int)) = false := beq_eq_false_iff_ne.2 (by omega)
            have Hres := Lib.hid (show Tr.get s = ([], 6) by
              rw [HI.out, Nat.sub_self]; exact Tr.getB_left (by rw [Num.rest_size]; omega))
            clear h1
            have hsx := HB.out.size
            go_wp2
            go_ret2
            exact ⟨_, _, by rw [Hres.out]; rfl, by rw [Hres.out]; exact World.ownsRow_lit wr #[] 0 hsx (Nat.zero_le _) rfl, HB.out.alloc hsx _⟩
    · have Hres := Lib.hid (Tr.get_n2 h1 h2)
      rw [← hN] at h2
      have h2' : decide ((1 : Int) ≤ (N : Int) ∧ (N : Int) ≤ 24) = false := by simp; omega
      have eq0 : decide ((q : Int) < 0) = false := by simp
      clear h1 h2 hq hN
      go_enter Tryd.func11, Tryd.ntmps11
      go_wp2_with fail
      refine (l4Num_yes s 0 q (Nat.zero_le _) Hs.out h1x.out Hq.out _).mono ?_
      rintro e w1 ⟨rfl, hb⟩
      have Ho := Lib.hid (own_below Ho.out hb)
      have HB := Lib.hid (HB.out.trans (hb.mono HB.out.size))
      clear hb
      rw [Num.rest_zero, ← HN.out]
      go_wp2_with fail
      refine (l1In_any _ _ _ _).mono ?_
      rintro e w' ⟨rfl, rfl⟩
      rw [h2']
      go_wp2
      go_ret2
      exact ⟨_, _, by rw [Hres.out]; rfl, by rw [Hres.out]; exact Ho.out, HB.out⟩

end Go.Proofs.YtpdpkcadolcbmaaDoor
