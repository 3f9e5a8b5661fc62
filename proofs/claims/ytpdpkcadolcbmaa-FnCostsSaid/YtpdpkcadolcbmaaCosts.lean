/- Contracts (Costs). -/
import Derived.Test.YtpdpkcadolcbmaaDrawRC
import Derived.Test.YtpdpkcadolcbmaaBig
import Derived.Test.YtpdpkcadolcbmaaCostOkI
import Derived.Test.YtpdpkcadolcbmaaCostOkS
import Derived.Test.YtpdpkcadolcbmaaUnitI
import Derived.Test.YtpdpkcadolcbmaaRelI
import Derived.Test.YtpdpkcadolcbmaaDelI
import Derived.Test.YtpdpkcadolcbmaaInsI
import Derived.Test.YtpdpkcadolcbmaaLabOkS
import Derived.Test.YtpdpkcadolcbmaaPutCI
import Derived.BigQuiet
namespace Go.Proofs.Ytpdpkcadolcbmaa
open Go.RowKit
set_option linter.unusedVariables false

theorem Co.unit_ok : Co.ok Co.unit = true := by decide
theorem Co.unit_12 : Co.rel Co.unit 1 2 = 1 := by decide
theorem Co.rel_bad {k : Co} (h : Co.ok k = false) (a b : Int) : Co.rel k a b = 0 := by unfold Co.rel; rw [h]; rfl
theorem Co.del_bad {k : Co} (h : Co.ok k = false) (a : Int) : Co.del k a = 0 := by unfold Co.del; rw [h]; rfl
theorem Co.rel_la {k : Co} {a : Int} (h : Lab.ok a = false) (b : Int) : Co.rel k a b = 0 := by unfold Co.rel; rw [h]; simp
theorem Co.rel_lb {k : Co} {b : Int} (h : Lab.ok b = false) (a : Int) : Co.rel k a b = 0 := by unfold Co.rel; rw [h]; simp
theorem Co.del_la {k : Co} {a : Int} (h : Lab.ok a = false) : Co.del k a = 0 := by unfold Co.del; rw [h]; simp
theorem Lab.nat {a : Int} (h : Lab.ok a = true) : ∃ n : Nat, a = n ∧ n < 6 := by
  simp only [Lab.ok, decide_eq_true_eq] at h
  exact ⟨a.toNat, by omega, by omega⟩
theorem Co.rel_at {k : Co} {a b p : Nat} (h : Co.ok k = true) (ha : a < 6) (hb : b < 6) (hp : p = a * 6 + b) : Co.rel k a b = Zs.at k.r p := by
  have la : Lab.ok (a : Int) = true := by simp [Lab.ok]; omega
  have lb : Lab.ok (b : Int) = true := by simp [Lab.ok]; omega
  unfold Co.rel
  rw [h, la, lb, if_pos (show (true && true && true) = true from rfl)]
  congr 1
  omega
theorem Co.del_at {k : Co} {a : Nat} (h : Co.ok k = true) (ha : a < 6) : Co.del k a = Zs.at k.d a := by
  have la : Lab.ok (a : Int) = true := by simp [Lab.ok]; omega
  unfold Co.del
  rw [h, la, if_pos (show (true && true) = true from rfl)]
  rfl
theorem Co.ins_at {k : Co} {a : Nat} (h : Co.ok k = true) (ha : a < 6) : Co.ins k a = Zs.at k.i a := by
  have la : Lab.ok (a : Int) = true := by simp [Lab.ok]; omega
  unfold Co.ins
  rw [h, la, if_pos (show (true && true) = true from rfl)]
  rfl
theorem Co.rel_self {k : Co} {a : Nat} (h : Co.ok k = true) (ha : a < 6) : Co.rel k a a = 0 := by
  rw [Co.rel_at h ha ha rfl]
  have hd := (Co.ok_iff.1 h).2.2.2
  simp only [Co.diag, List.all_eq_true, List.mem_range, decide_eq_true_eq] at hd
  exact hd a ha
/-- a variable of three cells and three cells more stand as they did; the world has only grown -/
def LawG (w0 : World) (s p q r : Nat) (wq : World) : Prop := Below w0.heap.size w0 wq ∧ s < w0.heap.size ∧ p < w0.heap.size ∧ q < w0.heap.size ∧ r < w0.heap.size
theorem law_keep {w0 wx wq : World} {s p q r i j m : Nat} {a0 a1 a2 b0 b1 b2 : Option Value} (hS : wx.cell? ⟨s, 0, none⟩ = a0 ∧ wx.cell? ⟨s, 1, none⟩ = a1 ∧ wx.cell? ⟨s, 2, none⟩ = a2 ∧ wx.cell? ⟨p, i, none⟩ = b0 ∧ wx.cell? ⟨q, j, none⟩ = b1 ∧ wx.cell? ⟨r, m, none⟩ = b2 ∧ LawG w0 s p q r wx)
    (hb : Below wx.heap.size wx wq) : wq.cell? ⟨s, 0, none⟩ = a0 ∧ wq.cell? ⟨s, 1, none⟩ = a1 ∧ wq.cell? ⟨s, 2, none⟩ = a2 ∧ wq.cell? ⟨p, i, none⟩ = b0 ∧ wq.cell? ⟨q, j, none⟩ = b1 ∧ wq.cell? ⟨r, m, none⟩ = b2 ∧ LawG w0 s p q r wq := by
  obtain ⟨h0, h1, h2, k0, k1, k2, hB, hs, hp, hq, hr⟩ := hS
  have hz := hB.size
  have c (u o : Nat) (hu : u < w0.heap.size) : wq.cell? ⟨u, o, none⟩ = wx.cell? ⟨u, o, none⟩ := hb.cell (p := ⟨u, o, none⟩) (by simp only; omega)
  exact ⟨by rw [c s 0 hs, h0], by rw [c s 1 hs, h1], by rw [c s 2 hs, h2], by rw [c p i hp, k0], by rw [c q j hq, k1], by rw [c r m hr, k2], hB.trans (hb.mono hz), hs, hp, hq, hr⟩
theorem law_below {w0 wx : World} {s p q r i j m : Nat} {a0 a1 a2 b0 b1 b2 : Option Value} (hS : wx.cell? ⟨s, 0, none⟩ = a0 ∧ wx.cell? ⟨s, 1, none⟩ = a1 ∧ wx.cell? ⟨s, 2, none⟩ = a2 ∧ wx.cell? ⟨p, i, none⟩ = b0 ∧ wx.cell? ⟨q, j, none⟩ = b1 ∧ wx.cell? ⟨r, m, none⟩ = b2 ∧ LawG w0 s p q r wx) : Below w0.heap.size w0 wx := hS.2.2.2.2.2.2.1
theorem cell_of {w : World} {h j : Nat} {v : Option Value} (x : w.cell? ((⟨h, 0, none⟩ : Addr).add j) = v) : w.cell? ⟨h, j, none⟩ = v := by
  rw [← x]
  unfold Addr.add
  split
  · rename_i e; rw [e]
  · simp
set_option maxHeartbeats 6400000 in
set_option maxRecDepth 100000 in
theorem costs_any (k : Code) (w : World) (hcode : CodeIn w w.heap.size k.a k.cs) (hlen : k.cs.length ≤ 1048576) :
    Calls Try.prog 3 #[.slice k.a k.cs.length k.cap] w fun e w' => e = .returned (.bool true) ∧ Below w.heap.size w w' := by
  have HC := Lib.hid hcode
  clear hcode
  go_enter Try.func3, Try.ntmps3
  go_wp2_with fail
  refine (big_small _ _ _ (by omega) _).mono ?_
  rintro e w0 ⟨rfl, rfl⟩
  go_wp2_with fail
  refine (drawRelCost_ex _ k HC.out hlen).mono ?_
  rintro e w1 ⟨a, b, h0, h1, h2, c0, c2, A1, n1, q1, K, rfl, hn1, hin, hb⟩
  obtain ⟨s, es⟩ : ∃ s, s = w1.heap.size := ⟨_, rfl⟩
  obtain ⟨wc, hwc⟩ : ∃ wc, wc = w1.alloc (.cells #[.slice (some ⟨h0, 0, none⟩) 6 c0, .slice A1 n1 q1, .slice (some ⟨h2, 0, none⟩) 36 c2] 26) := ⟨_, rfl⟩
  have hbc : Below w1.heap.size w1 wc := by rw [hwc]; exact (Below.refl _ _).alloc (Nat.le_refl _) _
  have HX := Lib.hid (show Box3 wc s (.slice (some ⟨h0, 0, none⟩) 6 c0) (.slice A1 n1 q1) (.slice (some ⟨h2, 0, none⟩) 36 c2) by rw [hwc, es]; exact Box3.made _ _ _ _ _)
  have HLT := Lib.hid (show s < wc.heap.size by rw [hwc, es]; simp)
  have HI := Lib.hid (hin.to_below hbc)
  have HW := Lib.hid (hb.trans (hbc.mono hb.size))
  have HN1 := Lib.hid hn1
  have HN := Lib.hid (show n1 ≤ 1048576 by omega)
  have HLEN := Lib.hid hin.len
  clear hn1 hin hb hbc
  obtain ⟨N, hN⟩ : ∃ N, N = Co.rel K a b := ⟨_, rfl⟩
  have HRN := Lib.hid hN
  clear hN
  obtain ⟨g0, g1, g2⟩ := HX.out
  rw [es] at g0 g1 g2
  rw [hwc] at g0 g1 g2
  go_wp2_with fail
  clear g0 g1 g2
  rw [← hwc]
  rw [← es]
  clear hwc es
  refine (implRelCost_any _ _ _ _ _ _ _ _ _ K a b _ HI.out (by decide) HN.out (by decide)).mono ?_
  rintro e w3 ⟨rfl, hb⟩
  have HX := Lib.hid (HX.out.below hb HLT.out)
  have HI := Lib.hid (HI.out.to_below hb)
  have HW := Lib.hid (HW.out.trans (hb.mono HW.out.size))
  have HLT := Lib.hid (Nat.lt_of_lt_of_le HLT.out hb.size)
  clear hb
  rw [← HRN.out]
  cases hok : Co.ok K with
  | false =>
    have HN0 := Lib.hid (show N = 0 by rw [HRN.out]; exact Co.rel_bad hok a b)
    have HOK := Lib.hid hok
    clear hok
    obtain rfl : N = 0 := HN0.out
    obtain ⟨g0, g1, g2⟩ := HX.out
    go_wp2_with fail
    have S0 := Lib.hid (show w3.drew.cell? ⟨s, 0, none⟩ = some (.slice (some ⟨h0, 0, none⟩) 6 c0) ∧ w3.drew.cell? ⟨s, 1, none⟩ = some (.slice A1 n1 q1) ∧ w3.drew.cell? ⟨s, 2, none⟩ = some (.slice (some ⟨h2, 0, none⟩) 36 c2) ∧ TriG w3 s w3.drew from ⟨g0, g1, g2, (Below.refl _ _).drew, HLT.out⟩)
    clear g0 g1 g2
    go_region_held3 (fun wq => wq.cell? ⟨s, 0, none⟩ = some (.slice (some ⟨h0, 0, none⟩) 6 c0) ∧ wq.cell? ⟨s, 1, none⟩ = some (.slice A1 n1 q1) ∧ wq.cell? ⟨s, 2, none⟩ = some (.slice (some ⟨h2, 0, none⟩) 36 c2) ∧ TriG w3 s wq) (first | exact S0.out | (refine tri_keep ?_ hb; assumption)) (first | (go_at_call 15; (fail_if_success (have := m1)); refine (implCostOk_any _ _ _ _ _ _ _ _ _ K _ (HI.out.to_below (tri_below (by assumption))) (by decide) HN.out (by decide)).mono ?_; rintro e w5 ⟨rfl, hb⟩; have m1 := True.intro; rw [HOK.out]) | (go_at_call 16; refine (specCostOk_any _ _ _ _ _ _ _ _ _ K _ (HI.out.to_below (tri_below (by assumption))) (by decide) HN.out (by decide)).mono ?_; rintro e w6 ⟨rfl, hb⟩; rw [HOK.out]) | (go_at_call 17; (fail_if_success (have := m2)); refine (implUnitCost_any _).mono ?_; rintro e w7 ⟨B0, B1, B2, d0, d1, d2, rfl, p0, p1, p2, _, _, _, hb⟩; have m2 := True.intro) | (go_at_call 15; have := m2; refine (implCostOk_any _ _ _ _ _ _ _ _ _ Co.unit _ ⟨IntIn.of_own p0, IntIn.of_own p1, IntIn.of_own p2⟩ (by decide) (by decide) (by decide)).mono ?_; rintro e w8 ⟨rfl, hb⟩; rw [Co.unit_ok]) | (go_at_call 17; have := m2; refine (implUnitCost_any _).mono ?_; rintro e w9 ⟨E0, E1, E2, f0, f1, f2, rfl, t0, t1, t2, _, _, _, hb⟩) | (go_at_call 14; refine (implRelCost_any _ _ _ _ _ _ _ _ _ Co.unit 1 2 _ ⟨IntIn.of_own t0, IntIn.of_own t1, IntIn.of_own t2⟩ (by decide) (by decide) (by decide)).mono ?_; rintro e w10 ⟨rfl, hb⟩; rw [Co.unit_12]))
    have HG := Lib.hid (show TriG w3 s w10 by (first | (rename_i q; exact q.2.2.2) | (rename_i q _; exact q.2.2.2)))
    have HX := Lib.hid (HX.out.below HG.out.1 HLT.out)
    have HI := Lib.hid (HI.out.to_below HG.out.1)
    have HW := Lib.hid (HW.out.trans (HG.out.1.mono HW.out.size))
    have HLT := Lib.hid (Nat.lt_of_lt_of_le HLT.out HG.out.1.size)
    clear S0 HG
    obtain ⟨g0, g1, g2⟩ := HX.out
    go_wp2_with fail
    clear g0 g1 g2
    refine (specCostOk_any _ _ _ _ _ _ _ _ _ K _ HI.out (by decide) HN.out (by decide)).mono ?_
    rintro e w11 ⟨rfl, hb⟩
    have HX := Lib.hid (HX.out.below hb HLT.out)
    have HI := Lib.hid (HI.out.to_below hb)
    have HW := Lib.hid (HW.out.trans (hb.mono HW.out.size))
    have HLT := Lib.hid (Nat.lt_of_lt_of_le HLT.out hb.size)
    clear hb
    rw [HOK.out]
    cases la : Lab.ok a with
    | true =>
      go_wp2_with fail
      refine (specLabelOk_any _ _).mono ?_
      rintro e w' ⟨rfl, rfl⟩
      rw [la]
      go_wp2
      go_ret
      exact ⟨rfl, HW.out⟩
    | false =>
      go_wp2_with fail
      refine (specLabelOk_any _ _).mono ?_
      rintro e w' ⟨rfl, rfl⟩
      rw [la]
      obtain ⟨g0, g1, g2⟩ := HX.out
      go_wp2_with fail
      clear g0 g1 g2
      refine (implDelCost_any _ _ _ _ _ _ _ _ _ K a _ HI.out (by decide) HN.out (by decide)).mono ?_
      rintro e w12 ⟨rfl, hb⟩
      have HW := Lib.hid (HW.out.trans (hb.mono HW.out.size))
      clear hb
      rw [Co.del_bad HOK.out]
      go_wp2
      go_ret
      exact ⟨rfl, HW.out⟩
  | true =>
    have HOK := Lib.hid hok
    obtain ⟨g0, g1, g2⟩ := HX.out
    go_wp2_with fail
    have S0 := Lib.hid (show w3.drew.cell? ⟨s, 0, none⟩ = some (.slice (some ⟨h0, 0, none⟩) 6 c0) ∧ w3.drew.cell? ⟨s, 1, none⟩ = some (.slice A1 n1 q1) ∧ w3.drew.cell? ⟨s, 2, none⟩ = some (.slice (some ⟨h2, 0, none⟩) 36 c2) ∧ TriG w3 s w3.drew from ⟨g0, g1, g2, (Below.refl _ _).drew, HLT.out⟩)
    clear g0 g1 g2
    go_region_held3 (fun wq => wq.cell? ⟨s, 0, none⟩ = some (.slice (some ⟨h0, 0, none⟩) 6 c0) ∧ wq.cell? ⟨s, 1, none⟩ = some (.slice A1 n1 q1) ∧ wq.cell? ⟨s, 2, none⟩ = some (.slice (some ⟨h2, 0, none⟩) 36 c2) ∧ TriG w3 s wq) (first | exact S0.out | (refine tri_keep ?_ hb; assumption)) (first | (go_at_call 15; (fail_if_success (have := m1)); refine (implCostOk_any _ _ _ _ _ _ _ _ _ K _ (HI.out.to_below (tri_below (by assumption))) (by decide) HN.out (by decide)).mono ?_; rintro e w5 ⟨rfl, hb⟩; have m1 := True.intro; rw [HOK.out]) | (go_at_call 16; refine (specCostOk_any _ _ _ _ _ _ _ _ _ K _ (HI.out.to_below (tri_below (by assumption))) (by decide) HN.out (by decide)).mono ?_; rintro e w6 ⟨rfl, hb⟩; rw [HOK.out]) | (go_at_call 17; (fail_if_success (have := m2)); refine (implUnitCost_any _).mono ?_; rintro e w7 ⟨B0, B1, B2, d0, d1, d2, rfl, p0, p1, p2, _, _, _, hb⟩; have m2 := True.intro) | (go_at_call 15; have := m2; refine (implCostOk_any _ _ _ _ _ _ _ _ _ Co.unit _ ⟨IntIn.of_own p0, IntIn.of_own p1, IntIn.of_own p2⟩ (by decide) (by decide) (by decide)).mono ?_; rintro e w8 ⟨rfl, hb⟩; rw [Co.unit_ok]) | (go_at_call 17; have := m2; refine (implUnitCost_any _).mono ?_; rintro e w9 ⟨E0, E1, E2, f0, f1, f2, rfl, t0, t1, t2, _, _, _, hb⟩) | (go_at_call 14; refine (implRelCost_any _ _ _ _ _ _ _ _ _ Co.unit 1 2 _ ⟨IntIn.of_own t0, IntIn.of_own t1, IntIn.of_own t2⟩ (by decide) (by decide) (by decide)).mono ?_; rintro e w10 ⟨rfl, hb⟩; rw [Co.unit_12]))
    have HG := Lib.hid (show TriG w3 s w10 by (first | (rename_i q; exact q.2.2.2) | (rename_i q _; exact q.2.2.2)))
    have HX := Lib.hid (HX.out.below HG.out.1 HLT.out)
    have HI := Lib.hid (HI.out.to_below HG.out.1)
    have HW := Lib.hid (HW.out.trans (HG.out.1.mono HW.out.size))
    have HLT := Lib.hid (Nat.lt_of_lt_of_le HLT.out HG.out.1.size)
    clear S0 HG
    obtain ⟨g0, g1, g2⟩ := HX.out
    go_wp2_with fail
    clear g0 g1 g2
    refine (specCostOk_any _ _ _ _ _ _ _ _ _ K _ HI.out (by decide) HN.out (by decide)).mono ?_
    rintro e w11 ⟨rfl, hb⟩
    have HX := Lib.hid (HX.out.below hb HLT.out)
    have HI := Lib.hid (HI.out.to_below hb)
    have HW := Lib.hid (HW.out.trans (hb.mono HW.out.size))
    have HLT := Lib.hid (Nat.lt_of_lt_of_le HLT.out hb.size)
    clear hb
    rw [HOK.out]
    cases la : Lab.ok a with
    | false =>
      obtain rfl : N = 0 := by rw [HRN.out]; exact Co.rel_la la b
      clear hok
      go_wp2_with fail
      refine (specLabelOk_any _ _).mono ?_
      rintro e w' ⟨rfl, rfl⟩
      rw [la]
      go_wp2_with fail
      refine (specLabelOk_any _ _).mono ?_
      rintro e w' ⟨rfl, rfl⟩
      rw [la]
      obtain ⟨g0, g1, g2⟩ := HX.out
      go_wp2_with fail
      clear g0 g1 g2
      refine (implDelCost_any _ _ _ _ _ _ _ _ _ K a _ HI.out (by decide) HN.out (by decide)).mono ?_
      rintro e w12 ⟨rfl, hb⟩
      have HW := Lib.hid (HW.out.trans (hb.mono HW.out.size))
      clear hb
      rw [Co.del_la la]
      go_wp2
      go_ret
      exact ⟨rfl, HW.out⟩
    | true =>
      go_wp2_with fail
      refine (specLabelOk_any _ _).mono ?_
      rintro e w' ⟨rfl, rfl⟩
      rw [la]
      cases lb : Lab.ok b with
      | false =>
        obtain rfl : N = 0 := by rw [HRN.out]; exact Co.rel_lb lb a
        clear hok
        go_wp2_with fail
        refine (specLabelOk_any _ _).mono ?_
        rintro e w' ⟨rfl, rfl⟩
        rw [lb]
        go_wp2_with fail
        refine (specLabelOk_any _ _).mono ?_
        rintro e w' ⟨rfl, rfl⟩
        rw [la]
        go_wp2
        go_ret
        exact ⟨rfl, HW.out⟩
      | true =>
        go_wp2_with fail
        refine (specLabelOk_any _ _).mono ?_
        rintro e w' ⟨rfl, rfl⟩
        rw [lb]
        obtain ⟨a, rfl, ha⟩ := Lab.nat la
        obtain ⟨b, rfl, hb6⟩ := Lab.nat lb
        have hl := Co.ok_len hok
        have hln := HLEN.out
        have hn := HN1.out
        obtain ⟨rfl, rfl⟩ : n1 = 6 ∧ A1 = some ⟨h1, 0, none⟩ := by
          rcases hn with hn | hn
          · exact hn
          · omega
        obtain ⟨p, hp⟩ : ∃ p, p = a * 6 + b := ⟨_, rfl⟩
        obtain ⟨zr, hzr⟩ : ∃ z, z = Zs.at K.r p := ⟨_, rfl⟩
        obtain ⟨zd, hzd⟩ : ∃ z, z = Zs.at K.d a := ⟨_, rfl⟩
        obtain ⟨zi, hzi⟩ : ∃ z, z = Zs.at K.i b := ⟨_, rfl⟩
        obtain rfl : N = zr := by rw [HRN.out, Co.rel_at hok ha hb6 hp, hzr]
        have HD := Lib.hid (show Co.del K a = zd by rw [Co.del_at hok ha, hzd])
        have HJ := Lib.hid (show Co.ins K b = zi by rw [Co.ins_at hok hb6, hzi])
        have HR0 := Lib.hid (Co.rel_self hok ha)
        have m1 : IntKind.i64.wrap ((a : Int) * 6) = (a : Int) * 6 := Kit.w64 (by omega) (by omega)
        have m2 : IntKind.i64.wrap ((a : Int) * 6 + (b : Int)) = (p : Int) := by rw [Kit.w64 (by omega) (by omega)]; omega
        have i0 : (0 : Int) ≤ (p : Int) := by omega
        have i1 : (p : Int) < 36 := by omega
        have i2 : (0 : Int) ≤ (a : Int) := by omega
        have i3 : (a : Int) < 6 := by omega
        have i4 : (0 : Int) ≤ (b : Int) := by omega
        have i5 : (b : Int) < 6 := by omega
        obtain ⟨ad2, e2, l2, x2⟩ := HI.out.2.2.at_ (k := p) (by omega)
        obtain ⟨ad0, e0, l0, x0⟩ := HI.out.1.at_ (k := a) (by omega)
        obtain ⟨ad1, e1, l1, x1⟩ := HI.out.2.1.at_ (k := b) (by omega)
        injection e2 with e2
        injection e1 with e1
        injection e0 with e0
        subst e0 e1 e2
        rw [← hzr] at x2
        rw [← hzd] at x0
        rw [← hzi] at x1
        simp only at l0 l1 l2
        have HC2 := Lib.hid (cell_of x2)
        have HC0 := Lib.hid (cell_of x0)
        have HC1 := Lib.hid (cell_of x1)
        have HLL := Lib.hid (And.intro l2 (And.intro l0 l1))
        clear hp hzr hzd hzi hl hln hn la lb hok x0 x1 x2 l0 l1 l2 ha hb6
        obtain ⟨g0, g1, g2⟩ := HX.out
        have g3 := HC2.out
        have g4 := HC0.out
        have g5 := HC1.out
        go_wp2_with fail
        have S0 := Lib.hid (show w11.drew.cell? ⟨s, 0, none⟩ = some (.slice (some ⟨h0, 0, none⟩) 6 c0) ∧ w11.drew.cell? ⟨s, 1, none⟩ = some (.slice (some ⟨h1, 0, none⟩) 6 q1) ∧ w11.drew.cell? ⟨s, 2, none⟩ = some (.slice (some ⟨h2, 0, none⟩) 36 c2) ∧ w11.drew.cell? ⟨h2, p, none⟩ = some (.int .i64 N) ∧ w11.drew.cell? ⟨h0, a, none⟩ = some (.int .i64 zd) ∧ w11.drew.cell? ⟨h1, b, none⟩ = some (.int .i64 zi) ∧ LawG w11 s h2 h0 h1 w11.drew from ⟨g0, g1, g2, g3, g4, g5, (Below.refl _ _).drew, HLT.out, HLL.out⟩)
        clear g0 g1 g2 g3 g4 g5
        go_region_held3 (fun wq => wq.cell? ⟨s, 0, none⟩ = some (.slice (some ⟨h0, 0, none⟩) 6 c0) ∧ wq.cell? ⟨s, 1, none⟩ = some (.slice (some ⟨h1, 0, none⟩) 6 q1) ∧ wq.cell? ⟨s, 2, none⟩ = some (.slice (some ⟨h2, 0, none⟩) 36 c2) ∧ wq.cell? ⟨h2, p, none⟩ = some (.int .i64 N) ∧ wq.cell? ⟨h0, a, none⟩ = some (.int .i64 zd) ∧ wq.cell? ⟨h1, b, none⟩ = some (.int .i64 zi) ∧ LawG w11 s h2 h0 h1 wq) (first | exact S0.out | (refine law_keep ?_ hb; assumption)) (first | (go_at_call 19; refine (implDelCost_any _ _ _ _ _ _ _ _ _ K (a : Int) _ (HI.out.to_below (law_below (by assumption))) (by decide) HN.out (by decide)).mono ?_; rintro e w12 ⟨rfl, hb⟩; rw [HD.out]) | (go_at_call 20; refine (implInsCost_any _ _ _ _ _ _ _ _ _ K (b : Int) _ (HI.out.to_below (law_below (by assumption))) (by decide) HN.out (by decide)).mono ?_; rintro e w13 ⟨rfl, hb⟩; rw [HJ.out]) | (go_at_call 14; refine (implRelCost_any _ _ _ _ _ _ _ _ _ K (a : Int) (a : Int) _ (HI.out.to_below (law_below (by assumption))) (by decide) HN.out (by decide)).mono ?_; rintro e w14 ⟨rfl, hb⟩; rw [HR0.out]))
        have HG := Lib.hid (show LawG w11 s h2 h0 h1 w14 by (first | (rename_i q; exact q.2.2.2.2.2.2) | (rename_i q _; exact q.2.2.2.2.2.2)))
        have HW := Lib.hid (HW.out.trans (HG.out.1.mono HW.out.size))
        go_wp2
        go_ret
        exact ⟨rfl, HW.out⟩

end Go.Proofs.Ytpdpkcadolcbmaa
