/- Texts of one claim laid into one file, in build order: ForestS, DelX, UnpI, MapK, SplI, Rtb, DisI. -/
import Derived.Test.YtlndaflhlkbedaaMg11
import Derived.Deep.RegionHeld3
import Derived.DeepKeys5
import Derived.Maps.OwnSet
import Derived.Outline
import Derived.StillTailTactics
import Derived.WalkArith
/- Contracts (ForestS). -/
namespace Go.Proofs.Ytlndaflhlkbedaa
open Go.RowKit
set_option linter.unusedVariables false

/-- the distance of two ranges, as the document asks for it -/
def Tr.fdist (xs ys : Tr) (k : Co) (i j p q : Int) : Int := if (Tr.ok xs && Tr.ok ys && Co.ok k) = true ∧ (0 ≤ i ∧ i ≤ j ∧ j ≤ xs.length) ∧ (0 ≤ p ∧ p ≤ q ∧ q ≤ ys.length) then RR xs ys k i.toNat j.toNat p.toNat q.toNat else -1
section
variable (A A' : Option Addr) (n n' c c' : Nat) (xs ys : Tr) (K0 K1 K2 : Option Addr) (n0 n1 n2 c0 c1 c2 : Nat) (k : Co) (w : World) (ha : NdIn w w.heap.size A n xs) (hb : NdIn w w.heap.size A' n' ys) (hk : CoIn w w.heap.size K0 K1 K2 n0 n1 n2 k)
    (i0 i1 i2 i3 : Int) (hn : n ≤ 1048576) (hn' : n' ≤ 1048576) (h0 : n0 ≤ 1048576) (h1 : n1 ≤ 1048576) (h2 : n2 ≤ 1048576)
include ha hb hk hn hn' h0 h1 h2
set_option maxHeartbeats 1600000 in
set_option maxRecDepth 100000 in
theorem specForestDist_any : Calls Try.prog 31 #[.slice A n c, .int .i64 i0, .int .i64 i1, .slice A' n' c', .int .i64 i2, .int .i64 i3, .agg #[.slice K0 n0 c0, .slice K1 n1 c1, .slice K2 n2 c2]] w fun e w' => e = .returned (.int .i64 (Tr.fdist xs ys k i0 i1 i2 i3)) ∧ Below w.heap.size w w' := by
  obtain ⟨wc, hwc⟩ : ∃ wc, wc = w.alloc (.cells #[.slice K0 n0 c0, .slice K1 n1 c1, .slice K2 n2 c2] 27) := ⟨_, rfl⟩
  have hbc : Below w.heap.size w wc := by rw [hwc]; exact (Below.refl _ _).alloc (Nat.le_refl _) _
  have HQ := Lib.hid (show Box3 wc w.heap.size (.slice K0 n0 c0) (.slice K1 n1 c1) (.slice K2 n2 c2) by rw [hwc]; exact Box3.made _ _ _ _ _)
  have HL := Lib.hid (show w.heap.size < wc.heap.size by rw [hwc]; simp)
  have HWC := Lib.hid hwc
  have HA := Lib.hid (ha.to_below hbc)
  have HB := Lib.hid (hb.to_below hbc)
  have HK := Lib.hid (hk.to_below hbc)
  have HBC := Lib.hid hbc
  have hl := ha.1
  have hl' := hb.1
  cases hd : DOk xs ys k with
  | false =>
    have Hf := Lib.hid (show Tr.fdist xs ys k i0 i1 i2 i3 = -1 from if_neg (fun h => by unfold DOk at hd; rw [hd] at h; exact absurd h.1 (by decide)))
    have HD := Lib.hid (show (Tr.ok xs && Tr.ok ys && Co.ok k) = false from hd)
    clear ha hb hk hd hwc hbc hl hl'
    go_enter Try.func31, Try.ntmps31
    go_wp2_with fail
    rw [← HWC.out]
    refine (l8Three_any (c := _) (c' := _) (c0 := _) (c1 := _) (c2 := _) (ha := HA.out) (hb := HB.out) (hk := HK.out) (hn := hn) (hn' := hn') (h0 := h0) (h1 := h1) (h2 := h2)).mono ?_
    rintro e w1 ⟨rfl, b1⟩
    have HA := Lib.hid (HA.out.to_below b1)
    have HB := Lib.hid (HB.out.to_below b1)
    have HK := Lib.hid (HK.out.to_below b1)
    have HQ := Lib.hid (HQ.out.below b1 HL.out)
    have HL := Lib.hid (Nat.lt_of_lt_of_le HL.out b1.size)
    have HBC := Lib.hid (HBC.out.trans (b1.mono HBC.out.size))
    clear b1
    rw [HD.out]
    go_wp2
    go_ret
    exact ⟨Kit.ret_int Hf.out.symm, HBC.out⟩
  | true =>
    have HD := Lib.hid (show (Tr.ok xs && Tr.ok ys && Co.ok k) = true from hd)
    obtain ⟨o1, o2, o3⟩ := DOk.parts hd
    have O1 := Lib.hid o1
    have O2 := Lib.hid o2
    have O3 := Lib.hid o3
    have n24 := (Tr.len24 o1).2
    have m24 := (Tr.len24 o2).2
    clear ha hb hk hd hwc hbc o1 o2 o3
    by_cases h01 : 0 ≤ i0 ∧ i0 ≤ i1
    rotate_left
    · have Hf := Lib.hid (show Tr.fdist xs ys k i0 i1 i2 i3 = -1 from if_neg (fun h => h01 ⟨h.2.1.1, h.2.1.2.1⟩))
      have I1 := Lib.hid (show decide (0 ≤ i0 ∧ i0 ≤ i1) = false by first | exact decide_eq_true h01 | exact decide_eq_false h01)
      clear h01 hl hl' n24 m24
      go_enter Try.func31, Try.ntmps31
      go_wp2_with fail
      rw [← HWC.out]
      refine (l8Three_any (c := _) (c' := _) (c0 := _) (c1 := _) (c2 := _) (ha := HA.out) (hb := HB.out) (hk := HK.out) (hn := hn) (hn' := hn') (h0 := h0) (h1 := h1) (h2 := h2)).mono ?_
      rintro e w1 ⟨rfl, b1⟩
      have HA := Lib.hid (HA.out.to_below b1)
      have HB := Lib.hid (HB.out.to_below b1)
      have HK := Lib.hid (HK.out.to_below b1)
      have HQ := Lib.hid (HQ.out.below b1 HL.out)
      have HL := Lib.hid (Nat.lt_of_lt_of_le HL.out b1.size)
      have HBC := Lib.hid (HBC.out.trans (b1.mono HBC.out.size))
      clear b1
      rw [HD.out]
      go_wp2_with fail
      refine (l1In_any _ _ _ _).mono ?_
      rintro e wi ⟨rfl, rfl⟩
      rw [I1.out]
      go_wp2
      go_ret
      exact ⟨Kit.ret_int Hf.out.symm, HBC.out⟩
    have I1 := Lib.hid (show decide (0 ≤ i0 ∧ i0 ≤ i1) = true by first | exact decide_eq_true h01 | exact decide_eq_false h01)
    by_cases h1n : i1 ≤ (n : Int)
    rotate_left
    · have Hf := Lib.hid (show Tr.fdist xs ys k i0 i1 i2 i3 = -1 from if_neg (fun h => h1n (by have := h.2.1.2.2; omega)))
      have e1 : decide ((n : Int) < i1) = true := decide_eq_true (by omega)
      clear h01 hl hl' n24 m24 h1n
      go_enter Try.func31, Try.ntmps31
      go_wp2_with fail
      rw [← HWC.out]
      refine (l8Three_any (c := _) (c' := _) (c0 := _) (c1 := _) (c2 := _) (ha := HA.out) (hb := HB.out) (hk := HK.out) (hn := hn) (hn' := hn') (h0 := h0) (h1 := h1) (h2 := h2)).mono ?_
      rintro e w1 ⟨rfl, b1⟩
      have HA := Lib.hid (HA.out.to_below b1)
      have HB := Lib.hid (HB.out.to_below b1)
      have HK := Lib.hid (HK.out.to_below b1)
      have HQ := Lib.hid (HQ.out.below b1 HL.out)
      have HL := Lib.hid (Nat.lt_of_lt_of_le HL.out b1.size)
      have HBC := Lib.hid (HBC.out.trans (b1.mono HBC.out.size))
      clear b1
      rw [HD.out]
      go_wp2_with fail
      refine (l1In_any _ _ _ _).mono ?_
      rintro e wi ⟨rfl, rfl⟩
      rw [I1.out]
      go_wp2
      go_ret
      exact ⟨Kit.ret_int Hf.out.symm, HBC.out⟩
    have e1 : decide ((n : Int) < i1) = false := decide_eq_false (by omega)
    by_cases h23 : 0 ≤ i2 ∧ i2 ≤ i3
    rotate_left
    · have Hf := Lib.hid (show Tr.fdist xs ys k i0 i1 i2 i3 = -1 from if_neg (fun h => h23 ⟨h.2.2.1, h.2.2.2.1⟩))
      have I2 := Lib.hid (show decide (0 ≤ i2 ∧ i2 ≤ i3) = false by first | exact decide_eq_true h23 | exact decide_eq_false h23)
      clear h01 h23 hl hl' n24 m24 h1n
      go_enter Try.func31, Try.ntmps31
      go_wp2_with fail
      rw [← HWC.out]
      refine (l8Three_any (c := _) (c' := _) (c0 := _) (c1 := _) (c2 := _) (ha := HA.out) (hb := HB.out) (hk := HK.out) (hn := hn) (hn' := hn') (h0 := h0) (h1 := h1) (h2 := h2)).mono ?_
      rintro e w1 ⟨rfl, b1⟩
      have HA := Lib.hid (HA.out.to_below b1)
      have HB := Lib.hid (HB.out.to_below b1)
      have HK := Lib.hid (HK.out.to_below b1)
      have HQ := Lib.hid (HQ.out.below b1 HL.out)
      have HL := Lib.hid (Nat.lt_of_lt_of_le HL.out b1.size)
      have HBC := Lib.hid (HBC.out.trans (b1.mono HBC.out.size))
      clear b1
      rw [HD.out]
      go_wp2_with fail
      refine (l1In_any _ _ _ _).mono ?_
      rintro e wi ⟨rfl, rfl⟩
      rw [I1.out]
      go_wp2_with fail
      refine (l1In_any _ _ _ _).mono ?_
      rintro e wi ⟨rfl, rfl⟩
      rw [I2.out]
      go_wp2
      go_ret
      exact ⟨Kit.ret_int Hf.out.symm, HBC.out⟩
    have I2 := Lib.hid (show decide (0 ≤ i2 ∧ i2 ≤ i3) = true by first | exact decide_eq_true h23 | exact decide_eq_false h23)
    by_cases h3n : i3 ≤ (n' : Int)
    rotate_left
    · have Hf := Lib.hid (show Tr.fdist xs ys k i0 i1 i2 i3 = -1 from if_neg (fun h => h3n (by have := h.2.2.2.2; omega)))
      have e2 : decide ((n' : Int) < i3) = true := decide_eq_true (by omega)
      clear h01 h23 hl hl' n24 m24 h1n h3n
      go_enter Try.func31, Try.ntmps31
      go_wp2_with fail
      rw [← HWC.out]
      refine (l8Three_any (c := _) (c' := _) (c0 := _) (c1 := _) (c2 := _) (ha := HA.out) (hb := HB.out) (hk := HK.out) (hn := hn) (hn' := hn') (h0 := h0) (h1 := h1) (h2 := h2)).mono ?_
      rintro e w1 ⟨rfl, b1⟩
      have HA := Lib.hid (HA.out.to_below b1)
      have HB := Lib.hid (HB.out.to_below b1)
      have HK := Lib.hid (HK.out.to_below b1)
      have HQ := Lib.hid (HQ.out.below b1 HL.out)
      have HL := Lib.hid (Nat.lt_of_lt_of_le HL.out b1.size)
      have HBC := Lib.hid (HBC.out.trans (b1.mono HBC.out.size))
      clear b1
      rw [HD.out]
      go_wp2_with fail
      refine (l1In_any _ _ _ _).mono ?_
      rintro e wi ⟨rfl, rfl⟩
      rw [I1.out]
      go_wp2_with fail
      refine (l1In_any _ _ _ _).mono ?_
      rintro e wi ⟨rfl, rfl⟩
      rw [I2.out]
      go_wp2
      go_ret
      exact ⟨Kit.ret_int Hf.out.symm, HBC.out⟩
    have e2 : decide ((n' : Int) < i3) = false := decide_eq_false (by omega)
    obtain ⟨j0, rfl⟩ : ∃ z : Nat, i0 = (z : Int) := ⟨i0.toNat, by omega⟩
    obtain ⟨j1, rfl⟩ : ∃ z : Nat, i1 = (z : Int) := ⟨i1.toNat, by omega⟩
    obtain ⟨j2, rfl⟩ : ∃ z : Nat, i2 = (z : Int) := ⟨i2.toNat, by omega⟩
    obtain ⟨j3, rfl⟩ : ∃ z : Nat, i3 = (z : Int) := ⟨i3.toNat, by omega⟩
    have Hf := Lib.hid (show Tr.fdist xs ys k j0 j1 j2 j3 = RR xs ys k j0 j1 j2 j3 from if_pos ⟨HD.out, ⟨h01.1, h01.2, by omega⟩, h23.1, h23.2, by omega⟩)
    have e1' : decide (n < j1) = false := decide_eq_false (by omega)
    have e2' : decide (n' < j3) = false := decide_eq_false (by omega)
    clear e1 e2
    have HB4 := Lib.hid (show j0 ≤ j1 ∧ j1 ≤ xs.length ∧ j2 ≤ j3 ∧ j3 ≤ ys.length by omega)
    clear h01 h23 hl hl' n24 m24 h1n h3n
    go_enter Try.func31, Try.ntmps31
    go_wp2_with fail
    rw [← HWC.out]
    refine (l8Three_any (c := _) (c' := _) (c0 := _) (c1 := _) (c2 := _) (ha := HA.out) (hb := HB.out) (hk := HK.out) (hn := hn) (hn' := hn') (h0 := h0) (h1 := h1) (h2 := h2)).mono ?_
    rintro e w1 ⟨rfl, b1⟩
    have HA := Lib.hid (HA.out.to_below b1)
    have HB := Lib.hid (HB.out.to_below b1)
    have HK := Lib.hid (HK.out.to_below b1)
    have HQ := Lib.hid (HQ.out.below b1 HL.out)
    have HL := Lib.hid (Nat.lt_of_lt_of_le HL.out b1.size)
    have HBC := Lib.hid (HBC.out.trans (b1.mono HBC.out.size))
    clear b1
    rw [HD.out]
    go_wp2_with fail
    refine (l1In_any _ _ _ _).mono ?_
    rintro e wi ⟨rfl, rfl⟩
    rw [I1.out]
    go_wp2_with fail
    refine (l1In_any _ _ _ _).mono ?_
    rintro e wi ⟨rfl, rfl⟩
    rw [I2.out]
    obtain ⟨q0, q1, q2⟩ := HQ.out
    go_wp2_with fail
    clear q0 q1 q2
    refine (l9New_any _ _ _ _ _ _ xs ys _ _ _ _ _ _ _ _ _ k _ HA.out HB.out HK.out O1.out O2.out O3.out).mono ?_
    rintro e w2 ⟨D, N, K, rfl, hM, b2⟩
    have BB := Lib.hid (HBC.out.trans (b2.mono HBC.out.size))
    have C := Lib.hid (l9Dist_any w1.heap.size N D xs ys k O1.out O2.out O3.out _ j0 j1 j2 j3 w2 HB4.out.1 HB4.out.2.1 HB4.out.2.2.1 HB4.out.2.2.2 (Nat.lt_succ_self _) ⟨K, hM⟩)
    clear hM b2
    go_wp2_with fail
    refine C.out.mono ?_
    rintro e w3 ⟨rfl, hk3⟩
    have BF := Lib.hid (BB.out.trans (hk3.2.mono HBC.out.size))
    go_wp2
    go_ret
    exact ⟨Kit.ret_int Hf.out.symm, BF.out⟩
end

end Go.Proofs.Ytlndaflhlkbedaa

/- Contracts (DelX). -/
namespace Go.Proofs.Ytlndaflhlkbedaa
open Go.RowKit
set_option linter.unusedVariables false

/-- two trees and the costs, as nine cells at the head of a block; the rows that they name -/
structure SD (g : Nat) (a0 a1 b0 b1 k0 k1 k2 : Addr) (ca0 ca1 cb0 cb1 ck0 ck1 ck2 : Nat) (xs ys : Tr) (k : Co) (w : World) : Prop where
  h0 : w.cell? ⟨g, 0, none⟩ = some (.slice (some a0) xs.length ca0)
  h1 : w.cell? ⟨g, 1, none⟩ = some (.slice (some a1) xs.length ca1)
  h3 : w.cell? ⟨g, 3, none⟩ = some (.slice (some b0) ys.length cb0)
  h4 : w.cell? ⟨g, 4, none⟩ = some (.slice (some b1) ys.length cb1)
  h6 : w.cell? ⟨g, 6, none⟩ = some (.slice (some k0) 6 ck0)
  h7 : w.cell? ⟨g, 7, none⟩ = some (.slice (some k1) 6 ck1)
  h8 : w.cell? ⟨g, 8, none⟩ = some (.slice (some k2) 36 ck2)
  ra0 : ∀ x, x < xs.length → w.cell? (a0.add x) = some (.int .i64 (Tr.xa xs x))
  ra1 : ∀ x, x < xs.length → w.cell? (a1.add x) = some (.int .i64 (Tr.la xs x))
  rb0 : ∀ y, y < ys.length → w.cell? (b0.add y) = some (.int .i64 (Tr.xa ys y))
  rb1 : ∀ y, y < ys.length → w.cell? (b1.add y) = some (.int .i64 (Tr.la ys y))
  rk0 : ∀ u, u < 6 → w.cell? (k0.add u) = some (.int .i64 (Zs.at k.d u))
  rk1 : ∀ u, u < 6 → w.cell? (k1.add u) = some (.int .i64 (Zs.at k.i u))
  rk2 : ∀ u, u < 36 → w.cell? (k2.add u) = some (.int .i64 (Zs.at k.r u))
section
variable {g : Nat} {a0 a1 b0 b1 k0 k1 k2 : Addr} {ca0 ca1 cb0 cb1 ck0 ck1 ck2 : Nat} {xs ys : Tr} {k : Co} {w w' : World}
/-- the labels, as they are read -/
theorem SD.la0 (h : SD g a0 a1 b0 b1 k0 k1 k2 ca0 ca1 cb0 cb1 ck0 ck1 ck2 xs ys k w) (hx : Tr.ok xs = true) {x : Nat} (hxl : x < xs.length) : ∃ u : Nat, u < 6 ∧ Tr.xa xs x = (u : Int) ∧ w.cell? (a0.add x) = some (.int .i64 (u : Int)) := by
  obtain ⟨u, hu, e⟩ := Tr.xa_lab hx hxl
  exact ⟨u, hu, e, by rw [h.ra0 x hxl, e]⟩
theorem SD.lb0 (h : SD g a0 a1 b0 b1 k0 k1 k2 ca0 ca1 cb0 cb1 ck0 ck1 ck2 xs ys k w) (hy : Tr.ok ys = true) {y : Nat} (hyl : y < ys.length) : ∃ u : Nat, u < 6 ∧ Tr.xa ys y = (u : Int) ∧ w.cell? (b0.add y) = some (.int .i64 (u : Int)) := by
  obtain ⟨u, hu, e⟩ := Tr.xa_lab hy hyl
  exact ⟨u, hu, e, by rw [h.rb0 y hyl, e]⟩
theorem SD.drawn (h : SD g a0 a1 b0 b1 k0 k1 k2 ca0 ca1 cb0 cb1 ck0 ck1 ck2 xs ys k w) (hd : Drawn w w') : SD g a0 a1 b0 b1 k0 k1 k2 ca0 ca1 cb0 cb1 ck0 ck1 ck2 xs ys k w' := by obtain ⟨m, rfl⟩ := hd; exact ⟨h.h0, h.h1, h.h3, h.h4, h.h6, h.h7, h.h8, h.ra0, h.ra1, h.rb0, h.rb1, h.rk0, h.rk1, h.rk2⟩
end
set_option maxHeartbeats 800000 in
set_option maxRecDepth 100000 in
theorem sidesDel_any (g : Nat) (a0 a1 b0 b1 k0 k1 k2 : Addr) (ca0 ca1 cb0 cb1 ck0 ck1 ck2 : Nat) (xs ys : Tr) (k : Co) (w : World) (h : SD g a0 a1 b0 b1 k0 k1 k2 ca0 ca1 cb0 cb1 ck0 ck1 ck2 xs ys k w) (hx : Tr.ok xs = true) (hk : Co.ok k = true) (x : Nat) (hxl : x < xs.length) :
    Calls Try.prog 126 #[.pointer (some ⟨g, 0, none⟩), .int .i64 x] w fun e w' => e = .returned (.int .i64 (Co.del k (Tr.xa xs x))) ∧ Drawn w w' := by
  obtain ⟨u, hu, e, c1⟩ := h.la0 hx hxl
  have c2 := h.rk0 u hu
  have Hv := Lib.hid (show Co.del k (Tr.xa xs x) = Zs.at k.d u by rw [e]; exact Co.del_at hk hu)
  have c3 := h.h0
  have c4 := h.h6
  have b1 : (0 : Int) ≤ (x : Int) := by omega
  have b2 : (x : Int) < (xs.length : Int) := by omega
  have b3 : (0 : Int) ≤ (u : Int) := by omega
  have b4 : (u : Int) < 6 := by omega
  clear h e hx hk
  go_enter Try.func126, Try.ntmps126
  go_wp2_with fail
  go_quiet (fail)
  go_wp2
  go_ret
  exact ⟨Kit.ret_int Hv.out.symm, (Drawn.refl _).drewN _⟩
set_option maxHeartbeats 800000 in
set_option maxRecDepth 100000 in
theorem sidesIns_any (g : Nat) (a0 a1 b0 b1 k0 k1 k2 : Addr) (ca0 ca1 cb0 cb1 ck0 ck1 ck2 : Nat) (xs ys : Tr) (k : Co) (w : World) (h : SD g a0 a1 b0 b1 k0 k1 k2 ca0 ca1 cb0 cb1 ck0 ck1 ck2 xs ys k w) (hy : Tr.ok ys = true) (hk : Co.ok k = true) (y : Nat) (hyl : y < ys.length) :
    Calls Try.prog 128 #[.pointer (some ⟨g, 0, none⟩), .int .i64 y] w fun e w' => e = .returned (.int .i64 (Co.ins k (Tr.xa ys y))) ∧ Drawn w w' := by
  obtain ⟨u, hu, e, c1⟩ := h.lb0 hy hyl
  have c2 := h.rk1 u hu
  have Hv := Lib.hid (show Co.ins k (Tr.xa ys y) = Zs.at k.i u by rw [e]; exact Co.ins_at hk hu)
  have c3 := h.h3
  have c4 := h.h7
  have b1 : (0 : Int) ≤ (y : Int) := by omega
  have b2 : (y : Int) < (ys.length : Int) := by omega
  have b3 : (0 : Int) ≤ (u : Int) := by omega
  have b4 : (u : Int) < 6 := by omega
  clear h e hy hk
  go_enter Try.func128, Try.ntmps128
  go_wp2_with fail
  go_quiet (fail)
  go_wp2
  go_ret
  exact ⟨Kit.ret_int Hv.out.symm, (Drawn.refl _).drewN _⟩
set_option maxHeartbeats 800000 in
set_option maxRecDepth 100000 in
theorem sidesRel_any (g : Nat) (a0 a1 b0 b1 k0 k1 k2 : Addr) (ca0 ca1 cb0 cb1 ck0 ck1 ck2 : Nat) (xs ys : Tr) (k : Co) (w : World) (h : SD g a0 a1 b0 b1 k0 k1 k2 ca0 ca1 cb0 cb1 ck0 ck1 ck2 xs ys k w) (hx : Tr.ok xs = true) (hy : Tr.ok ys = true) (hk : Co.ok k = true) (x y : Nat) (hxl : x < xs.length) (hyl : y < ys.length) :
    Calls Try.prog 72 #[.pointer (some ⟨g, 0, none⟩), .int .i64 x, .int .i64 y] w fun e w' => e = .returned (.int .i64 (Co.rel k (Tr.xa xs x) (Tr.xa ys y))) ∧ Drawn w w' := by
  obtain ⟨u, hu, e, c1⟩ := h.la0 hx hxl
  obtain ⟨v, hv, e', c1'⟩ := h.lb0 hy hyl
  obtain ⟨p, hp⟩ : ∃ p, p = u * 6 + v := ⟨_, rfl⟩
  have c2 := h.rk2 p (by omega)
  have Hv := Lib.hid (show Co.rel k (Tr.xa xs x) (Tr.xa ys y) = Zs.at k.r p by rw [e, e', hp]; exact Co.rel_at hk hu hv)
  have c3 := h.h0
  have c4 := h.h3
  have c5 := h.h8
  have a3 : (u : Int) * 6 + (v : Int) = (p : Int) := by omega
  have b1 : (0 : Int) ≤ (x : Int) := by omega
  have b2 : (x : Int) < (xs.length : Int) := by omega
  have b3 : (0 : Int) ≤ (p : Int) := by omega
  have b4 : (p : Int) < 36 := by omega
  have b5 : (0 : Int) ≤ (y : Int) := by omega
  have b6 : (y : Int) < (ys.length : Int) := by omega
  clear h e e' hx hy hk hp
  go_enter Try.func72, Try.ntmps72
  go_wp2_with fail
  go_quiet (first | (go_at_call 116; exact quiet_same ((relIndex_any _ _ _ (by omega) (by omega) (by omega) (by omega)).mono fun e w' ⟨h1, h2⟩ => ⟨by rw [h1, a3], h2⟩)))
  go_wp2
  go_ret
  exact ⟨Kit.ret_int Hv.out.symm, (Drawn.refl _).drewN _⟩

section
variable {B : Nat} {D : DtD} {xs ys : Tr} {k : Co} {F : Nat → Nat → Int} {T : List Int} {w : World}
theorem DT.sd (h : DT B D xs ys k F T w) (hx : Tr.ok xs = true) (hy : Tr.ok ys = true) : SD D.g D.a0 D.a1 D.b0 D.b1 D.k0 D.k1 D.k2 D.ca0 D.ca1 D.cb0 D.cb1 D.ck0 D.ck1 D.ck2 xs ys k w :=
  ⟨h.h0, h.h1, h.h3, h.h4, h.h6, h.h7, h.h8, h.ra0.at_, fun x hl => (h.ra1.at_ x hl).trans (by rw [Tr.la_up hx hl]), h.rb0.at_, fun y hl => (h.rb1.at_ y hl).trans (by rw [Tr.la_up hy hl]), h.rk0.at_, h.rk1.at_, h.rk2.at_⟩
theorem DT.la0 (h : DT B D xs ys k F T w) (hx : Tr.ok xs = true) {x : Nat} (hxl : x < xs.length) : ∃ u : Nat, u < 6 ∧ Tr.xa xs x = (u : Int) ∧ w.cell? (D.a0.add x) = some (.int .i64 (u : Int)) := by
  obtain ⟨u, hu, e⟩ := Tr.xa_lab hx hxl
  have := h.ra0.at_ x hxl
  exact ⟨u, hu, e, by rw [this, ← e]; rfl⟩
theorem DT.lb0 (h : DT B D xs ys k F T w) (hy : Tr.ok ys = true) {y : Nat} (hyl : y < ys.length) : ∃ u : Nat, u < 6 ∧ Tr.xa ys y = (u : Int) ∧ w.cell? (D.b0.add y) = some (.int .i64 (u : Int)) := by
  obtain ⟨u, hu, e⟩ := Tr.xa_lab hy hyl
  have := h.rb0.at_ y hyl
  exact ⟨u, hu, e, by rw [this, ← e]; rfl⟩
end
theorem distDel_any (B : Nat) (D : DtD) (xs ys : Tr) (k : Co) (F : Nat → Nat → Int) (T : List Int) (w : World) (h : DT B D xs ys k F T w) (hx : Tr.ok xs = true) (hy : Tr.ok ys = true) (hk : Co.ok k = true) (x : Nat) (hxl : x < xs.length) :
    Calls Try.prog 126 #[.pointer (some ⟨D.g, 0, none⟩), .int .i64 x] w fun e w' => e = .returned (.int .i64 (Co.del k (Tr.xa xs x))) ∧ Drawn w w' := sidesDel_any _ _ _ _ _ _ _ _ _ _ _ _ _ _ _ _ _ _ _ (h.sd hx hy) hx hk x hxl
theorem distIns_any (B : Nat) (D : DtD) (xs ys : Tr) (k : Co) (F : Nat → Nat → Int) (T : List Int) (w : World) (h : DT B D xs ys k F T w) (hx : Tr.ok xs = true) (hy : Tr.ok ys = true) (hk : Co.ok k = true) (y : Nat) (hyl : y < ys.length) :
    Calls Try.prog 128 #[.pointer (some ⟨D.g, 0, none⟩), .int .i64 y] w fun e w' => e = .returned (.int .i64 (Co.ins k (Tr.xa ys y))) ∧ Drawn w w' := sidesIns_any _ _ _ _ _ _ _ _ _ _ _ _ _ _ _ _ _ _ _ (h.sd hx hy) hy hk y hyl
theorem distRel_any (B : Nat) (D : DtD) (xs ys : Tr) (k : Co) (F : Nat → Nat → Int) (T : List Int) (w : World) (h : DT B D xs ys k F T w) (hx : Tr.ok xs = true) (hy : Tr.ok ys = true) (hk : Co.ok k = true) (x y : Nat) (hxl : x < xs.length) (hyl : y < ys.length) :
    Calls Try.prog 72 #[.pointer (some ⟨D.g, 0, none⟩), .int .i64 x, .int .i64 y] w fun e w' => e = .returned (.int .i64 (Co.rel k (Tr.xa xs x) (Tr.xa ys y))) ∧ Drawn w w' := sidesRel_any _ _ _ _ _ _ _ _ _ _ _ _ _ _ _ _ _ _ _ (h.sd hx hy) hx hy hk x y hxl hyl

end Go.Proofs.Ytlndaflhlkbedaa

/- Contracts (UnpI). -/
namespace Go.Proofs.Ytlndaflhlkbedaa
open Go.RowKit
set_option linter.unusedVariables false

/-- four ints in a block -/
def Bx4 (w : World) (b : Nat) (i j p q : Int) : Prop := w.cell? ⟨b, 0, none⟩ = some (.int .i64 i) ∧ w.cell? ⟨b, 1, none⟩ = some (.int .i64 j) ∧ w.cell? ⟨b, 2, none⟩ = some (.int .i64 p) ∧ w.cell? ⟨b, 3, none⟩ = some (.int .i64 q)
theorem Bx4.drawn {w w' : World} {b : Nat} {i j p q : Int} (h : Bx4 w b i j p q) (hd : Drawn w w') : Bx4 w' b i j p q := ⟨(hd.cell _).trans h.1, (hd.cell _).trans h.2.1, (hd.cell _).trans h.2.2.1, (hd.cell _).trans h.2.2.2⟩
theorem Bx4.below {w w' : World} {b B : Nat} {i j p q : Int} (h : Bx4 w b i j p q) (hb : Below B w w') (hl : b < B) : Bx4 w' b i j p q := ⟨(hb.cell (p := ⟨b, 0, none⟩) hl).trans h.1, (hb.cell (p := ⟨b, 1, none⟩) hl).trans h.2.1, (hb.cell (p := ⟨b, 2, none⟩) hl).trans h.2.2.1, (hb.cell (p := ⟨b, 3, none⟩) hl).trans h.2.2.2⟩
theorem Bx4.made (w : World) (i j p q : Int) (e : TypeId) : Bx4 (w.alloc (.cells #[.int .i64 i, .int .i64 j, .int .i64 p, .int .i64 q] e)) w.heap.size i j p q := ⟨by simp, by simp, by simp, by simp⟩
theorem SD.below {g : Nat} {a0 a1 b0 b1 k0 k1 k2 : Addr} {ca0 ca1 cb0 cb1 ck0 ck1 ck2 : Nat} {xs ys : Tr} {k : Co} {w w' : World} (h : SD g a0 a1 b0 b1 k0 k1 k2 ca0 ca1 cb0 cb1 ck0 ck1 ck2 xs ys k w) (hb : Below w.heap.size w w') : SD g a0 a1 b0 b1 k0 k1 k2 ca0 ca1 cb0 cb1 ck0 ck1 ck2 xs ys k w' :=
  ⟨(hb.cell (World.block_lt_of_cell? w _ h.h0)).trans h.h0, (hb.cell (World.block_lt_of_cell? w _ h.h1)).trans h.h1, (hb.cell (World.block_lt_of_cell? w _ h.h3)).trans h.h3, (hb.cell (World.block_lt_of_cell? w _ h.h4)).trans h.h4, (hb.cell (World.block_lt_of_cell? w _ h.h6)).trans h.h6, (hb.cell (World.block_lt_of_cell? w _ h.h7)).trans h.h7, (hb.cell (World.block_lt_of_cell? w _ h.h8)).trans h.h8, fun x hx => (hb.cell (World.block_lt_of_cell? w _ (h.ra0 x hx))).trans (h.ra0 x hx), fun x hx => (hb.cell (World.block_lt_of_cell? w _ (h.ra1 x hx))).trans (h.ra1 x hx), fun x hx => (hb.cell (World.block_lt_of_cell? w _ (h.rb0 x hx))).trans (h.rb0 x hx), fun x hx => (hb.cell (World.block_lt_of_cell? w _ (h.rb1 x hx))).trans (h.rb1 x hx), fun x hx => (hb.cell (World.block_lt_of_cell? w _ (h.rk0 x hx))).trans (h.rk0 x hx), fun x hx => (hb.cell (World.block_lt_of_cell? w _ (h.rk1 x hx))).trans (h.rk1 x hx), fun x hx => (hb.cell (World.block_lt_of_cell? w _ (h.rk2 x hx))).trans (h.rk2 x hx)⟩

set_option maxHeartbeats 400000 in
theorem rangeOk_any (a b n : Int) (w : World) : Calls Try.prog 83 #[.int .i64 a, .int .i64 b, .int .i64 n] w fun e w' => e = .returned (.bool (decide (0 ≤ a ∧ a ≤ b ∧ b ≤ n))) ∧ w = w' := by
  go_enter Try.func83, Try.ntmps83
  go_wp2
  all_goals go_ret
  all_goals exact ⟨Kit.ret_bool (by first | (simp; done) | (simp [*]; done) | (simp; omega)), rfl⟩
set_option maxHeartbeats 1600000 in
set_option maxRecDepth 100000 in
theorem withoutA_any (i j p q : Nat) (w : World) (hj : 1 ≤ j) (hb : j ≤ 100) : Calls Try.prog 125 #[(.agg #[.int .i64 (i : Int), .int .i64 (j : Int), .int .i64 (p : Int), .int .i64 (q : Int)])] w fun e w' => e = .returned (.agg #[.int .i64 (i : Int), .int .i64 ((j - 1 : Nat) : Int), .int .i64 (p : Int), .int .i64 (q : Int)]) ∧ Below w.heap.size w w' := by
  have e := Lib.hid (show ((j - 1 : Nat) : Int) = (j : Int) - 1 by omega)
  rw [e.out]
  go_enter Try.func125, Try.ntmps125
  go_wp2
  (try simp only [Exit.inBlock, Exit.then])
  refine bodyPost_ret (v := (.agg #[.int .i64 (i : Int), .int .i64 ((j : Int) - 1), .int .i64 (p : Int), .int .i64 (q : Int)])) ?_ rfl ?_
  · rw [results_cell1 rfl]
    go_simp
  · refine ⟨rfl, ?_⟩
    repeat (first | exact Below.refl _ _ | refine Below.setCell ?_ (by simp) _ | refine Below.alloc ?_ (by simp) _)
set_option maxHeartbeats 1600000 in
set_option maxRecDepth 100000 in
theorem withoutB_any (i j p q : Nat) (w : World) (hq : 1 ≤ q) (hb : q ≤ 100) : Calls Try.prog 127 #[(.agg #[.int .i64 (i : Int), .int .i64 (j : Int), .int .i64 (p : Int), .int .i64 (q : Int)])] w fun e w' => e = .returned (.agg #[.int .i64 (i : Int), .int .i64 (j : Int), .int .i64 (p : Int), .int .i64 ((q - 1 : Nat) : Int)]) ∧ Below w.heap.size w w' := by
  have e := Lib.hid (show ((q - 1 : Nat) : Int) = (q : Int) - 1 by omega)
  rw [e.out]
  go_enter Try.func127, Try.ntmps127
  go_wp2
  (try simp only [Exit.inBlock, Exit.then])
  refine bodyPost_ret (v := (.agg #[.int .i64 (i : Int), .int .i64 (j : Int), .int .i64 (p : Int), .int .i64 ((q : Int) - 1)])) ?_ rfl ?_
  · rw [results_cell1 rfl]
    go_simp
  · refine ⟨rfl, ?_⟩
    repeat (first | exact Below.refl _ _ | refine Below.setCell ?_ (by simp) _ | refine Below.alloc ?_ (by simp) _)
set_option maxHeartbeats 1600000 in
set_option maxRecDepth 100000 in
theorem unpaired_any (g : Nat) (a0 a1 b0 b1 k0 k1 k2 : Addr) (ca0 ca1 cb0 cb1 ck0 ck1 ck2 : Nat) (xs ys : Tr) (k : Co) (w : World) (h : SD g a0 a1 b0 b1 k0 k1 k2 ca0 ca1 cb0 cb1 ck0 ck1 ck2 xs ys k w) (hx : Tr.ok xs = true) (hy : Tr.ok ys = true) (hk : Co.ok k = true) (i j p q : Nat) (hij : i ≤ j) (hj : j ≤ xs.length) (hpq : p ≤ q) (hq : q ≤ ys.length) (he : i = j ∨ p = q) :
    Calls Try.prog 123 #[.pointer (some ⟨g, 0, none⟩), (.agg #[.int .i64 (i : Int), .int .i64 (j : Int), .int .i64 (p : Int), .int .i64 (q : Int)])] w fun e w' => e = .returned (.int .i64 (RR xs ys k i j p q)) ∧ Below w.heap.size w w' := by
  obtain ⟨w1, hw1⟩ : ∃ w1, w1 = w.alloc (.cells #[.int .i64 (i : Int), .int .i64 (j : Int), .int .i64 (p : Int), .int .i64 (q : Int)] 102) := ⟨_, rfl⟩
  have hb1 : Below w.heap.size w w1 := by rw [hw1]; exact (Below.refl _ _).alloc (Nat.le_refl _) _
  have H := Lib.hid (h.below hb1)
  have R := Lib.hid (show Bx4 w1 w.heap.size i j p q by rw [hw1]; exact Bx4.made _ _ _ _ _ _)
  have HB1 := Lib.hid hb1
  have HWC := Lib.hid hw1
  have OX := Lib.hid hx
  have OY := Lib.hid hy
  have OK := Lib.hid hk
  have LT := Lib.hid (fun x (a : i ≤ x) (b : x < j) => show RR xs ys k i (x + 1) p p = RR xs ys k i x p p + Co.del k (Tr.xa xs x) from RD_left (Tr.la_nest hx) a (by omega) (Nat.le_refl _))
  have RT := Lib.hid (fun (e : i = j) y (a : p ≤ y) (b : y < q) => show RR xs ys k i j p (y + 1) = RR xs ys k i j p y + Co.ins k (Tr.xa ys y) from RD_right (Tr.la_nest hy) (by omega) a (by omega))
  have Z := Lib.hid (show RR xs ys k i i p p = 0 from RD_none (Nat.le_refl _) (Nat.le_refl _))
  have BX := Lib.hid (fun x (a : i ≤ x) (b : x ≤ j) => RR_bound (k := k) hx hy (p := i) (a := x) (q := p) (b := p) a (by omega) (Nat.le_refl _) (by omega))
  have BY := Lib.hid (fun y (a : p ≤ y) (b : y ≤ q) => RR_bound (k := k) hx hy (p := i) (a := j) (q := p) (b := y) hij hj a (by omega))
  have DD := Lib.hid (Co.nonneg' k)
  have x24 := (Tr.len24 hx).2
  have y24 := (Tr.len24 hy).2
  have HE := Lib.hid he
  clear h hx hy hk hb1 hw1 he
  go_enter Try.func123, Try.ntmps123
  go_wp2_with fail
  rw [← HWC.out]
  go_loopw [6, 5] (fun xv sv wr => ∃ x : Nat, i ≤ x ∧ x ≤ j ∧ xv = .int .i64 x ∧ sv = .int .i64 (RR xs ys k i x p p) ∧ Drawn w1 wr) (fun x _ _ => j - (intOf x).toNat)
  case atStart => exact ⟨i, Nat.le_refl _, hij, rfl, by rw [Z.out], Drawn.refl _⟩
  case round =>
    obtain ⟨x, h1, h2, rfl, rfl, hD⟩ := hrel
    have HD := Lib.hid hD
    clear hD
    have rc := (R.out.drawn HD.out).2.1
    by_cases hlt : x < j
    · have bd := BX.out x h1 h2
      have bd2 := BX.out (x + 1) (by omega) (by omega)
      have HL := Lib.hid (LT.out x h1 hlt)
      rw [HL.out] at bd2
      obtain ⟨s, hs⟩ : ∃ s, s = RR xs ys k i x p p := ⟨_, rfl⟩
      rw [← hs] at bd bd2
      have HS := Lib.hid hs
      rw [← hs]
      clear hs
      go_wp2_with fail
      refine (sidesDel_any g a0 a1 b0 b1 k0 k1 k2 ca0 ca1 cb0 cb1 ck0 ck1 ck2 xs ys k _ (H.out.drawn HD.out) OX.out OK.out x (by omega)).mono ?_
      rintro e wi ⟨rfl, hd⟩
      have HD2 := Lib.hid (HD.out.trans hd)
      clear hd
      go_wp2
      go_roundw
      case rel => exact ⟨x + 1, by omega, by omega, by go_num, by rw [HL.out, HS.out], HD2.out⟩
      case measure => simp [intOf]; omega
    · obtain rfl : j = x := by omega
      have rc2 := (R.out.drawn HD.out).2.2.1
      go_wp2_with fail
      clear rc rc2 h1 h2 hlt
      go_loopw [7, 5] (fun xv sv wr => ∃ y : Nat, p ≤ y ∧ y ≤ q ∧ xv = .int .i64 y ∧ sv = .int .i64 (RR xs ys k i j p y) ∧ Drawn w1 wr) (fun x _ _ => q - (intOf x).toNat)
      case atStart => exact ⟨p, Nat.le_refl _, hpq, rfl, rfl, HD.out⟩
      case round =>
        obtain ⟨y, h1, h2, rfl, rfl, hD⟩ := hrel
        have HD := Lib.hid hD
        clear hD
        have rc := (R.out.drawn HD.out).2.2.2
        by_cases hlt : y < q
        · have e : i = j := by have := HE.out; omega
          have bd := BY.out y h1 h2
          have bd2 := BY.out (y + 1) (by omega) (by omega)
          have HL := Lib.hid (RT.out e y h1 hlt)
          clear e
          rw [HL.out] at bd2
          obtain ⟨s, hs⟩ : ∃ s, s = RR xs ys k i j p y := ⟨_, rfl⟩
          rw [← hs] at bd bd2
          have HS := Lib.hid hs
          rw [← hs]
          clear hs
          go_wp2_with fail
          refine (sidesIns_any g a0 a1 b0 b1 k0 k1 k2 ca0 ca1 cb0 cb1 ck0 ck1 ck2 xs ys k _ (H.out.drawn HD.out) OY.out OK.out y (by omega)).mono ?_
          rintro e wi ⟨rfl, hd⟩
          have HD2 := Lib.hid (HD.out.trans hd)
          clear hd
          go_wp2
          go_roundw
          case rel => exact ⟨y + 1, by omega, by omega, by go_num, by rw [HL.out, HS.out], HD2.out⟩
          case measure => simp [intOf]; omega
        · obtain rfl : q = y := by omega
          go_wp2
          go_ret
          exact ⟨rfl, Drawn.below HB1.out HD.out⟩

end Go.Proofs.Ytlndaflhlkbedaa

/- Contracts (MapK). -/
namespace Go.Proofs.Ytlndaflhlkbedaa
open Go.RowKit
set_option linter.unusedVariables false

open Go.Maps Go.MapKept Go.ChangeMaps Go.WideShapes
open Go.WideElems (Fit)

/-- four ints, as a key -/
def rgV (i j p q : Nat) : Value := .agg #[.int .i64 (i : Int), .int .i64 (j : Int), .int .i64 (p : Int), .int .i64 (q : Int)]
theorem rgLaid : laidOutB Try.prog = true := by kernel_rfl
theorem rgRow : (102 : TypeId) < Try.prog.types.size := of_decide_eq_true (by kernel_rfl)
theorem rgKey : Try.prog.keyType 102 = true := by kernel_rfl
theorem rgWide : (match Try.prog.underlying 102 with | some (.array _ _) | some (.struct _) => true | _ => false) = true := by kernel_rfl
theorem rgLaw : Keyed Try.prog 102 := Keyed.of_law (deep_law_laid rgLaid (m := 2) (by omega) rgRow (by kernel_rfl) (by simp only [Try.underlying102]))
theorem rgCells : Try.prog.cellsOf 102 = 4 := by kernel_rfl
theorem rgCell : Try.prog.cellsOf 3 = 1 := by kernel_rfl
theorem rgZero (w : World) : (zeroValue 3).run Try.prog w = .ok (.int .i64 0) w := by kernel_rfl
theorem rg_lits (d : Nat) {a b c e : Int} (ha : (Lit.int .i64 a).wf = true) (hb : (Lit.int .i64 b).wf = true) (hc : (Lit.int .i64 c).wf = true) (he : (Lit.int .i64 e).wf = true) : ∃ L, Try.prog.keyLits (d + 2) 102 [.int .i64 a, .int .i64 b, .int .i64 c, .int .i64 e] = some L := by
  refine ⟨[.int .i64 a, .int .i64 b, .int .i64 c, .int .i64 e], ?_⟩
  simp [Program.keyLits, Try.underlying102, Try.underlying3, rgCells, rgCell, ha, hb, hc, he]
theorem rg_key {i j p q : Nat} (hi : i ≤ 24) (hj : j ≤ 24) (hp : p ≤ 24) (hq : q ≤ 24) : ∃ l, keyOf Try.prog 102 (rgV i j p q) = some l := by
  have e : Try.prog.types.size + 1 = (Try.prog.types.size - 1) + 2 := by have h : (102 : Nat) < Try.prog.types.size := rgRow; omega
  have wf (n : Nat) (h : n ≤ 24) : (Lit.int .i64 (n : Int)).wf = true := Go.WalkArith.wf_i64 ⟨by omega, by omega⟩
  obtain ⟨L, hL⟩ := rg_lits (Try.prog.types.size - 1) (wf i hi) (wf j hj) (wf p hp) (wf q hq)
  have hf : (rgV i j p q).formed Try.prog 102 = true := by simp [rgV, Value.formed, Try.underlying102, rgCells]
  refine ⟨.string (keyBytes L), ?_⟩
  unfold keyOf
  rw [Try.underlying102, e]
  simp only [rgKey, hf, Bool.and_self, if_true]
  show ((Try.prog.keyLits (Try.prog.types.size - 1 + 2) 102 [.int .i64 (i : Int), .int .i64 (j : Int), .int .i64 (p : Int), .int .i64 (q : Int)]).map fun ls => Lit.string (keyBytes ls)) = _
  rw [hL]
  rfl

/-! how many there may be -/
theorem few_nats : ∀ (N : Nat) (l : List Nat), l.Pairwise (fun a b => a ≠ b) → (∀ a ∈ l, a < N) → l.length ≤ N := by
  intro N
  induction N with
  | zero =>
    intro l _ h
    cases l with
    | nil => simp
    | cons a r => exact absurd (h a (by simp)) (by omega)
  | succ N ih =>
    intro l hd h
    have h1 := ih (l.filter (· != N)) (hd.filter _) (fun a ha => by
      obtain ⟨m, hne⟩ := List.mem_filter.1 ha
      have := h a m
      have : a ≠ N := by simpa using hne
      omega)
    have h2 : ∀ l : List Nat, l.Pairwise (fun a b => a ≠ b) → l.length ≤ (l.filter (· != N)).length + 1 := by
      intro l
      induction l with
      | nil => intro _; simp
      | cons a r ihr =>
        intro hp
        obtain ⟨p1, p2⟩ := List.pairwise_cons.1 hp
        by_cases e : a = N
        · have : r.filter (· != N) = r := List.filter_eq_self.2 (fun b hb => by have := p1 b hb; simp; omega)
          rw [List.filter_cons_of_neg (by simp [e]), this]
          simp
        · rw [List.filter_cons_of_pos (by simp [e])]
          have := ihr p2
          simp only [List.length_cons]
          omega
    have := h2 l hd
    omega
def rgNum : Value → Nat
  | .agg ⟨[.int _ a, .int _ b, .int _ c, .int _ d]⟩ => ((a.toNat * 25 + b.toNat) * 25 + c.toNat) * 25 + d.toNat
  | _ => 0
theorem rgNum_at (i j p q : Nat) : rgNum (rgV i j p q) = ((i * 25 + j) * 25 + p) * 25 + q := by simp [rgNum, rgV]

/-- block b is a map of distances that are right -/
def Memo (xs ys : Tr) (k : Co) (b : Nat) (w : World) : Prop :=
  ∃ es clock, w.heap[b]? = some (.map es clock) ∧ Fit (H := Unit) Try.prog 102 (plainElem Try.prog 3) es clock ∧
    ∀ x ∈ es.toList, ∃ i j p q : Nat, i ≤ 24 ∧ j ≤ 24 ∧ p ≤ 24 ∧ q ≤ 24 ∧ x.key = rgV i j p q ∧ x.val = .int .i64 (RR xs ys k i j p q)
section
variable {xs ys : Tr} {k : Co} {b : Nat} {w w' : World}
theorem memo_few {es : Array MapEntry} {clock : Nat} (F : Fit (H := Unit) Try.prog 102 (plainElem Try.prog 3) es clock) (hes : ∀ x ∈ es.toList, ∃ i j p q : Nat, i ≤ 24 ∧ j ≤ 24 ∧ p ≤ 24 ∧ q ≤ 24 ∧ x.key = rgV i j p q ∧ x.val = .int .i64 (RR xs ys k i j p q)) : es.size < maxLen := by
  have hn : es.toList.Pairwise (fun x y => x.key ≠ y.key) := ((stamped_iff es clock).1 F.stamped).2.2
  have hp : es.toList.Pairwise (fun x y => x ∈ es.toList ∧ y ∈ es.toList ∧ x.key ≠ y.key) := hn.imp_of_mem (fun ha hb h => ⟨ha, hb, h⟩)
  have h1 := few_nats 390625 (es.toList.map (fun x => rgNum x.key)) (by
    rw [List.pairwise_map]
    refine hp.imp ?_
    rintro x y ⟨hx, hy, hne⟩ e
    obtain ⟨i, j, p, q, b1, b2, b3, b4, ex, _⟩ := hes x hx
    obtain ⟨i', j', p', q', c1, c2, c3, c4, ey, _⟩ := hes y hy
    rw [ex, ey, rgNum_at, rgNum_at] at e
    refine hne ?_
    rw [ex, ey]
    obtain ⟨rfl, rfl, rfl, rfl⟩ : i = i' ∧ j = j' ∧ p = p' ∧ q = q' := by omega
    rfl) (fun a ha => by
    obtain ⟨x, hx, rfl⟩ := List.mem_map.1 ha
    obtain ⟨i, j, p, q, b1, b2, b3, b4, ex, _⟩ := hes x hx
    show rgNum x.key < _
    rw [ex, rgNum_at]
    omega)
  rw [List.length_map] at h1
  have e : es.size = es.toList.length := by simp
  unfold maxLen
  omega
theorem Memo.made (w : World) : Memo xs ys k w.heap.size (w.alloc (.map #[] 0)) :=
  ⟨#[], 0, (heap_alloc w _).1, ⟨by simp, stamped_empty 0, by simp⟩, by simp⟩
theorem Memo.lt (h : Memo xs ys k b w) : b < w.heap.size := by
  obtain ⟨es, clock, hb, _⟩ := h
  exact (Array.getElem?_eq_some_iff.1 hb).1
theorem Memo.same (h : Memo xs ys k b w) (he : w'.heap[b]? = w.heap[b]?) : Memo xs ys k b w' := by
  obtain ⟨es, clock, hb, r⟩ := h
  exact ⟨es, clock, he.trans hb, r⟩
theorem Memo.below (h : Memo xs ys k b w) (hb : Below w.heap.size w w') : Memo xs ys k b w' := h.same (hb.block b h.lt)
theorem Memo.drawn (h : Memo xs ys k b w) (hd : Drawn w w') : Memo xs ys k b w' := h.same (by rw [hd.heap])
theorem Memo.apart (h : Memo xs ys k b w) {p : Addr} {v : Value} (hc : w.cell? p = some v) : p.block ≠ b := by
  intro e
  obtain ⟨es, clock, hb, _⟩ := h
  rw [← e] at hb
  simp [World.cell?, hb] at hc
theorem Memo.look (h : Memo xs ys k b w) {i j p q : Nat} (hi : i ≤ 24) (hj : j ≤ 24) (hp : p ≤ 24) (hq : q ≤ 24) :
    (∀ w' : World, w'.heap[b]? = w.heap[b]? → (Instr.lookup 140 (.map (some b)) (rgV i j p q) true).run Try.prog w' = .ok (.tuple #[.int .i64 0, .bool false]) w') ∨ (∀ w' : World, w'.heap[b]? = w.heap[b]? → (Instr.lookup 140 (.map (some b)) (rgV i j p q) true).run Try.prog w' = .ok (.tuple #[.int .i64 (RR xs ys k i j p q), .bool true]) w') := by
  obtain ⟨es, clock, hb, F, hes⟩ := h
  obtain ⟨kl, hkey⟩ := rg_key hi hj hp hq
  by_cases hx : ∃ x ∈ es.toList, x.key = rgV i j p q
  · refine .inr (fun w' hw => ?_)
    rcases Maps.fit_look true rgLaw Try.underlying140 (rgZero w') (hw.trans hb) F hkey with ⟨_, hno, _⟩ | ⟨e0, y, hm, hke, hrun, _⟩
    · obtain ⟨x, h1, h2⟩ := hx
      exact absurd h2 (hno x h1)
    · obtain ⟨i', j', p', q', b1, b2, b3, b4, ex, ev⟩ := hes e0 hm
      have e := congrArg rgNum (ex.symm.trans hke)
      rw [rgNum_at, rgNum_at] at e
      obtain ⟨rfl, rfl, rfl, rfl⟩ : i' = i ∧ j' = j ∧ p' = p ∧ q' = q := by omega
      rw [ev] at hrun
      exact hrun
  · refine .inl (fun w' hw => ?_)
    rcases Maps.fit_look true rgLaw Try.underlying140 (rgZero w') (hw.trans hb) F hkey with ⟨hrun, _, _⟩ | ⟨e0, y, hm, hke, hrun, _⟩
    · exact hrun
    · exact absurd ⟨e0, hm, hke⟩ hx
theorem Memo.store (h : Memo xs ys k b w) {i j p q : Nat} (hi : i ≤ 24) (hj : j ≤ 24) (hp : p ≤ 24) (hq : q ≤ 24) (hr : (Lit.int .i64 (RR xs ys k i j p q)).wf = true) :
    ∃ w', (Instr.mapUpdate 140 (.map (some b)) (rgV i j p q) (.int .i64 (RR xs ys k i j p q))).run Try.prog w = .ok () w' ∧ Memo xs ys k b w' ∧ w.grownBy w' (some b) := by
  obtain ⟨es, clock, hb, F, hes⟩ := h
  obtain ⟨kl, hkey⟩ := rg_key hi hj hp hq
  obtain ⟨es', clock', hrun, F', _, _, _, hmem⟩ := Maps.fit_store (R' := plainElem Try.prog 3) rgLaw Try.underlying140 hb F (memo_few F hes) (fun _ _ _ _ hz => hz) hkey (plainElem_int Try.underlying3 hr)
  refine ⟨_, hrun, ⟨es', clock', heap_setBlock_same hb _, F', fun x hx => ?_⟩, (show w.mapTurned _ b from ⟨es, clock, es', clock', hb, rfl⟩).grown⟩
  rcases hmem x hx with ⟨hm, _⟩ | ⟨hk, hv⟩
  · exact hes x hm
  · exact ⟨i, j, p, q, hi, hj, hp, hq, hk, hv⟩
end

end Go.Proofs.Ytlndaflhlkbedaa

/- Contracts (SplI). -/
namespace Go.Proofs.Ytlndaflhlkbedaa
open Go.RowKit
set_option linter.unusedVariables false

theorem Bx4.free (w : World) (i j p q : Int) (e : TypeId) (off : Nat) : (w.alloc (.cells #[.int .i64 i, .int .i64 j, .int .i64 p, .int .i64 q] e)).frozen? ⟨w.heap.size, off, none⟩ = false := by simp
theorem results_cell2 {fn : Func} {p u : Tmp} {ty tz : TypeId} (h : fn.results = #[.cell p ty, .cell u tz]) (tmps : Array Value) (P : Program) (w : World) :
    (results fn tmps).run P w = ((asAddr (tmps.getD p undef)).run P w).andThen fun a w₁ => ((loadVar ty a).run P w₁).andThen fun v w₂ => ((asAddr (tmps.getD u undef)).run P w₂).andThen fun b w₃ => ((loadVar tz b).run P w₃).andThen fun v2 w₄ => .ok (.tuple #[v, v2]) w₄ := by
  simp only [results, h]
  simp [Sem.run_bind, Result.andThen]
set_option maxHeartbeats 1600000 in
set_option maxRecDepth 100000 in
theorem split_any (g : Nat) (a0 a1 b0 b1 k0 k1 k2 : Addr) (ca0 ca1 cb0 cb1 ck0 ck1 ck2 : Nat) (xs ys : Tr) (k : Co) (w : World) (h : SD g a0 a1 b0 b1 k0 k1 k2 ca0 ca1 cb0 cb1 ck0 ck1 ck2 xs ys k w) (hx : Tr.ok xs = true) (hy : Tr.ok ys = true) (i j p q j1 q1 P Q : Nat) (ej : j = j1 + 1) (eq : q = q1 + 1) (hj : j ≤ xs.length) (hq : q ≤ ys.length) (hi : i ≤ 24) (hp : p ≤ 24) (eP : P = max i (Tr.la xs j1)) (eQ : Q = max p (Tr.la ys q1)) :
    Calls Try.prog 124 #[.pointer (some ⟨g, 0, none⟩), (.agg #[.int .i64 (i : Int), .int .i64 (j : Int), .int .i64 (p : Int), .int .i64 (q : Int)])] w fun e w' => e = .returned (.tuple #[(.agg #[.int .i64 (i : Int), .int .i64 (P : Int), .int .i64 (p : Int), .int .i64 (Q : Int)]), (.agg #[.int .i64 (P : Int), .int .i64 (j1 : Int), .int .i64 (Q : Int), .int .i64 (q1 : Int)])]) ∧ Below w.heap.size w w' := by
  obtain ⟨w1, hw1⟩ : ∃ w1, w1 = ((w.alloc (.cells #[.int .i64 (i : Int), .int .i64 (j : Int), .int .i64 (p : Int), .int .i64 (q : Int)] 102)).alloc (.cells #[.int .i64 0, .int .i64 0, .int .i64 0, .int .i64 0] 102)).alloc (.cells #[.int .i64 0, .int .i64 0, .int .i64 0, .int .i64 0] 102) := ⟨_, rfl⟩
  have hb1 : Below w.heap.size w w1 := by rw [hw1]; exact (((Below.refl _ _).alloc (Nat.le_refl _) _).alloc (by simp) _).alloc (by simp; omega) _
  have R := Lib.hid (show Bx4 w1 w.heap.size i j p q by rw [hw1]; exact (Bx4.made w _ _ _ _ _).below (((Below.refl _ _).alloc (Nat.le_refl _) _).alloc (by simp) _) (by simp))
  have S1 := Lib.hid (show Bx4 w1 (w.heap.size + 1) 0 0 0 0 ∧ ∀ off, w1.frozen? ⟨w.heap.size + 1, off, none⟩ = false by
    have e : (w.alloc (.cells #[.int .i64 (i : Int), .int .i64 (j : Int), .int .i64 (p : Int), .int .i64 (q : Int)] 102)).heap.size = w.heap.size + 1 := by simp
    rw [hw1, ← e]
    exact ⟨(Bx4.made _ _ _ _ _ _).below ((Below.refl _ _).alloc (Nat.le_refl _) _) (by simp), fun off => free_below ((Below.refl _ _).alloc (Nat.le_refl _) _) (by simp) (Bx4.free _ _ _ _ _ _) off⟩)
  have S2 := Lib.hid (show Bx4 w1 (w.heap.size + 1 + 1) 0 0 0 0 ∧ ∀ off, w1.frozen? ⟨w.heap.size + 1 + 1, off, none⟩ = false by
    have e : ((w.alloc (.cells #[.int .i64 (i : Int), .int .i64 (j : Int), .int .i64 (p : Int), .int .i64 (q : Int)] 102)).alloc (.cells #[.int .i64 0, .int .i64 0, .int .i64 0, .int .i64 0] 102)).heap.size = w.heap.size + 1 + 1 := by simp
    rw [hw1, ← e]
    exact ⟨Bx4.made _ _ _ _ _ _, Bx4.free _ _ _ _ _ _⟩)
  have H := Lib.hid (h.below hb1)
  have HB1 := Lib.hid hb1
  have HWC := Lib.hid hw1
  have hj24 := (Tr.len24 hx).2
  have hq24 := (Tr.len24 hy).2
  obtain ⟨x, hxe⟩ : ∃ x, x = Tr.la xs j1 := ⟨_, rfl⟩
  obtain ⟨y, hye⟩ : ∃ y, y = Tr.la ys q1 := ⟨_, rfl⟩
  have c0 := H.out.h1
  have c1 := H.out.ra1 j1 (by omega)
  have c2 := H.out.h4
  have c3 := H.out.rb1 q1 (by omega)
  rw [← hxe] at c1 eP
  rw [← hye] at c3 eQ
  obtain ⟨r0, r1, r2, r3⟩ := R.out
  have a1 : IntKind.i64.wrap ((j : Int) - 1) = (j1 : Int) := by rw [Kit.w64 (by omega) (by omega)]; omega
  have a2 : IntKind.i64.wrap ((q : Int) - 1) = (q1 : Int) := by rw [Kit.w64 (by omega) (by omega)]; omega
  have b1 : (0 : Int) ≤ (j1 : Int) := by omega
  have b2 : (j1 : Int) < (xs.length : Int) := by omega
  have b3 : (0 : Int) ≤ (q1 : Int) := by omega
  have b4 : (q1 : Int) < (ys.length : Int) := by omega
  have HP := Lib.hid (show (if i < x then (x : Int) else (i : Int)) = (P : Int) by split <;> omega)
  have HQ := Lib.hid (show (if p < y then (y : Int) else (p : Int)) = (Q : Int) by split <;> omega)
  clear h hx hy hb1 hw1 ej eq hxe hye eP eQ hj24 hq24 hj hq hi hp
  go_enter Try.func124, Try.ntmps124
  go_wp2_with fail
  rw [← HWC.out]
  go_quiet (fail)
  rw [HP.out]
  go_wp2_with fail
  go_quiet (fail)
  rw [HQ.out]
  go_wp2_with fail
  obtain ⟨⟨s0, s1, s2, s3⟩, sf⟩ := S1.out
  obtain ⟨⟨u0, u1, u2, u3⟩, uf⟩ := S2.out
  have f0 := sf 0
  have f1 := sf 1
  have f2 := sf 2
  have f3 := sf 3
  have g0 := uf 0
  have g1 := uf 1
  have g2 := uf 2
  have g3 := uf 3
  clear sf uf
  go_region
  go_wp2
  (try simp only [Exit.inBlock, Exit.then])
  refine bodyPost_ret (v := .tuple #[(.agg #[.int .i64 (i : Int), .int .i64 (P : Int), .int .i64 (p : Int), .int .i64 (Q : Int)]), (.agg #[.int .i64 (P : Int), .int .i64 (j1 : Int), .int .i64 (Q : Int), .int .i64 (q1 : Int)])]) ?_ rfl ?_
  · rw [results_cell2 rfl]
    go_simp
  · refine ⟨rfl, ?_⟩
    refine Below.setCell ?_ (by show w.heap.size ≤ w.heap.size + 1 + 1; omega) _
    refine Below.setCell ?_ (by show w.heap.size ≤ w.heap.size + 1 + 1; omega) _
    refine Below.setCell ?_ (by show w.heap.size ≤ w.heap.size + 1 + 1; omega) _
    refine Below.setCell ?_ (by show w.heap.size ≤ w.heap.size + 1 + 1; omega) _
    refine Below.setCell ?_ (by show w.heap.size ≤ w.heap.size + 1; omega) _
    refine Below.setCell ?_ (by show w.heap.size ≤ w.heap.size + 1; omega) _
    refine Below.setCell ?_ (by show w.heap.size ≤ w.heap.size + 1; omega) _
    refine Below.setCell ?_ (by show w.heap.size ≤ w.heap.size + 1; omega) _
    exact Drawn.below HB1.out ((Drawn.refl _).drewN _)

end Go.Proofs.Ytlndaflhlkbedaa

/- Contracts (Rtb). -/
namespace Go.Proofs.Ytlndaflhlkbedaa
open Go.RowKit
set_option linter.unusedVariables false

/-- where a table of ranges stands, and what it reads -/
structure D10 where
  g : Nat
  gm : Nat
  a0 : Addr
  a1 : Addr
  b0 : Addr
  b1 : Addr
  k0 : Addr
  k1 : Addr
  k2 : Addr
  ca0 : Nat
  ca1 : Nat
  cb0 : Nat
  cb1 : Nat
  ck0 : Nat
  ck1 : Nat
  ck2 : Nat
structure PT (D : D10) (xs ys : Tr) (k : Co) (w : World) : Prop where
  sd : SD D.g D.a0 D.a1 D.b0 D.b1 D.k0 D.k1 D.k2 D.ca0 D.ca1 D.cb0 D.cb1 D.ck0 D.ck1 D.ck2 xs ys k w
  h9 : w.cell? ⟨D.g, 9, none⟩ = some (.map (some D.gm))
  mm : Memo xs ys k D.gm w
section
variable {D : D10} {xs ys : Tr} {k : Co} {w w' w0 : World}
theorem grownB_below (hb : Below w.heap.size w w') (row : Option Nat) : w.grownBy w' row := ⟨hb.os, hb.tape, hb.output, hb.size, fun i hi _ => hb.block i hi⟩
theorem grownB_drawn (hd : Drawn w w') (row : Option Nat) : w.grownBy w' row := grownB_below hd.toBelow row
theorem PT.step (h : PT D xs ys k w) (hg : w.grownBy w' (some D.gm)) (hm : Memo xs ys k D.gm w') : PT D xs ys k w' := by
  have n : ∀ {p : Addr} {v : Value}, w.cell? p = some v → some p.block ≠ some D.gm := fun hc e => h.mm.apart hc (Option.some.inj e)
  exact ⟨⟨hg.cell h.sd.h0 (n h.sd.h0), hg.cell h.sd.h1 (n h.sd.h1), hg.cell h.sd.h3 (n h.sd.h3), hg.cell h.sd.h4 (n h.sd.h4), hg.cell h.sd.h6 (n h.sd.h6), hg.cell h.sd.h7 (n h.sd.h7), hg.cell h.sd.h8 (n h.sd.h8), fun x hx => hg.cell (h.sd.ra0 x hx) (n (h.sd.ra0 x hx)), fun x hx => hg.cell (h.sd.ra1 x hx) (n (h.sd.ra1 x hx)), fun x hx => hg.cell (h.sd.rb0 x hx) (n (h.sd.rb0 x hx)), fun x hx => hg.cell (h.sd.rb1 x hx) (n (h.sd.rb1 x hx)), fun x hx => hg.cell (h.sd.rk0 x hx) (n (h.sd.rk0 x hx)), fun x hx => hg.cell (h.sd.rk1 x hx) (n (h.sd.rk1 x hx)), fun x hx => hg.cell (h.sd.rk2 x hx) (n (h.sd.rk2 x hx))⟩, hg.cell h.h9 (n h.h9), hm⟩
theorem PT.below (h : PT D xs ys k w) (hb : Below w.heap.size w w') : PT D xs ys k w' := h.step (grownB_below hb _) (h.mm.below hb)
theorem PT.drawn (h : PT D xs ys k w) (hd : Drawn w w') : PT D xs ys k w' := h.below hd.toBelow
/-- the table in some world that the call has turned -/
def PG (D : D10) (xs ys : Tr) (k : Co) (w0 w : World) : Prop := PT D xs ys k w ∧ w0.grownBy w (some D.gm)
theorem PG.next (h : PG D xs ys k w0 w) (h' : PG D xs ys k w w') : PG D xs ys k w0 w' := ⟨h'.1, h.2.trans h'.2⟩
theorem PG.below (h : PG D xs ys k w0 w) (hb : Below w.heap.size w w') : PG D xs ys k w0 w' := ⟨h.1.below hb, h.2.trans (grownB_below hb _)⟩
theorem PG.drawn (h : PG D xs ys k w0 w) (hd : Drawn w w') : PG D xs ys k w0 w' := h.below hd.toBelow
theorem PG.refl (h : PT D xs ys k w) : PG D xs ys k w w := ⟨h, World.grownBy.refl _ _⟩
/-- four ints, kept while the table's map turns -/
theorem Bx4.pg {b : Nat} {i j p q : Int} (h : Bx4 w b i j p q) (hp : PT D xs ys k w) (h' : PG D xs ys k w w') : Bx4 w' b i j p q := by
  have n : ∀ {p : Addr} {v : Value}, w.cell? p = some v → some p.block ≠ some D.gm := fun hc e => hp.mm.apart hc (Option.some.inj e)
  exact ⟨h'.2.cell h.1 (n h.1), h'.2.cell h.2.1 (n h.2.1), h'.2.cell h.2.2.1 (n h.2.2.1), h'.2.cell h.2.2.2 (n h.2.2.2)⟩
end

end Go.Proofs.Ytlndaflhlkbedaa

/- Contracts (DisI). -/
namespace Go.Proofs.Ytlndaflhlkbedaa
open Go.RowKit
set_option linter.unusedVariables false

/-- dist of ranges that hold fewer than s places together -/
def SaysD (D : D10) (xs ys : Tr) (k : Co) (s : Nat) : Prop :=
  ∀ (i j p q : Nat) (w : World), i ≤ j → j ≤ xs.length → p ≤ q → q ≤ ys.length → (j - i) + (q - p) < s → PT D xs ys k w →
    Calls Try.prog 84 #[.pointer (some ⟨D.g, 0, none⟩), (.agg #[.int .i64 (i : Int), .int .i64 (j : Int), .int .i64 (p : Int), .int .i64 (q : Int)])] w fun e w' => e = .returned (.int .i64 (RR xs ys k i j p q)) ∧ PG D xs ys k w w'
section
variable {D : D10} {xs ys : Tr} {k : Co} {w0 wx wy : World} {b0 b1 b2 i j p q P Q j1 q1 : Nat}
theorem r8_pg (h : (wx.cell? ⟨b0, 0, none⟩ = some (.int .i64 (i : Int)) ∧ wx.cell? ⟨b0, 1, none⟩ = some (.int .i64 (j : Int)) ∧ wx.cell? ⟨b0, 2, none⟩ = some (.int .i64 (p : Int)) ∧ wx.cell? ⟨b0, 3, none⟩ = some (.int .i64 (q : Int))) ∧ (wx.cell? ⟨b1, 0, none⟩ = some (.int .i64 (i : Int)) ∧ wx.cell? ⟨b1, 1, none⟩ = some (.int .i64 (P : Int)) ∧ wx.cell? ⟨b1, 2, none⟩ = some (.int .i64 (p : Int)) ∧ wx.cell? ⟨b1, 3, none⟩ = some (.int .i64 (Q : Int))) ∧ (wx.cell? ⟨b2, 0, none⟩ = some (.int .i64 (P : Int)) ∧ wx.cell? ⟨b2, 1, none⟩ = some (.int .i64 (j1 : Int)) ∧ wx.cell? ⟨b2, 2, none⟩ = some (.int .i64 (Q : Int)) ∧ wx.cell? ⟨b2, 3, none⟩ = some (.int .i64 (q1 : Int))) ∧ PG D xs ys k w0 wx) : PG D xs ys k w0 wx := h.2.2.2
theorem r8_pt (h : (wx.cell? ⟨b0, 0, none⟩ = some (.int .i64 (i : Int)) ∧ wx.cell? ⟨b0, 1, none⟩ = some (.int .i64 (j : Int)) ∧ wx.cell? ⟨b0, 2, none⟩ = some (.int .i64 (p : Int)) ∧ wx.cell? ⟨b0, 3, none⟩ = some (.int .i64 (q : Int))) ∧ (wx.cell? ⟨b1, 0, none⟩ = some (.int .i64 (i : Int)) ∧ wx.cell? ⟨b1, 1, none⟩ = some (.int .i64 (P : Int)) ∧ wx.cell? ⟨b1, 2, none⟩ = some (.int .i64 (p : Int)) ∧ wx.cell? ⟨b1, 3, none⟩ = some (.int .i64 (Q : Int))) ∧ (wx.cell? ⟨b2, 0, none⟩ = some (.int .i64 (P : Int)) ∧ wx.cell? ⟨b2, 1, none⟩ = some (.int .i64 (j1 : Int)) ∧ wx.cell? ⟨b2, 2, none⟩ = some (.int .i64 (Q : Int)) ∧ wx.cell? ⟨b2, 3, none⟩ = some (.int .i64 (q1 : Int))) ∧ PG D xs ys k w0 wx) : PT D xs ys k wx := h.2.2.2.1
theorem r8_next (h : (wx.cell? ⟨b0, 0, none⟩ = some (.int .i64 (i : Int)) ∧ wx.cell? ⟨b0, 1, none⟩ = some (.int .i64 (j : Int)) ∧ wx.cell? ⟨b0, 2, none⟩ = some (.int .i64 (p : Int)) ∧ wx.cell? ⟨b0, 3, none⟩ = some (.int .i64 (q : Int))) ∧ (wx.cell? ⟨b1, 0, none⟩ = some (.int .i64 (i : Int)) ∧ wx.cell? ⟨b1, 1, none⟩ = some (.int .i64 (P : Int)) ∧ wx.cell? ⟨b1, 2, none⟩ = some (.int .i64 (p : Int)) ∧ wx.cell? ⟨b1, 3, none⟩ = some (.int .i64 (Q : Int))) ∧ (wx.cell? ⟨b2, 0, none⟩ = some (.int .i64 (P : Int)) ∧ wx.cell? ⟨b2, 1, none⟩ = some (.int .i64 (j1 : Int)) ∧ wx.cell? ⟨b2, 2, none⟩ = some (.int .i64 (Q : Int)) ∧ wx.cell? ⟨b2, 3, none⟩ = some (.int .i64 (q1 : Int))) ∧ PG D xs ys k w0 wx) (h' : PG D xs ys k wx wy) : (wy.cell? ⟨b0, 0, none⟩ = some (.int .i64 (i : Int)) ∧ wy.cell? ⟨b0, 1, none⟩ = some (.int .i64 (j : Int)) ∧ wy.cell? ⟨b0, 2, none⟩ = some (.int .i64 (p : Int)) ∧ wy.cell? ⟨b0, 3, none⟩ = some (.int .i64 (q : Int))) ∧ (wy.cell? ⟨b1, 0, none⟩ = some (.int .i64 (i : Int)) ∧ wy.cell? ⟨b1, 1, none⟩ = some (.int .i64 (P : Int)) ∧ wy.cell? ⟨b1, 2, none⟩ = some (.int .i64 (p : Int)) ∧ wy.cell? ⟨b1, 3, none⟩ = some (.int .i64 (Q : Int))) ∧ (wy.cell? ⟨b2, 0, none⟩ = some (.int .i64 (P : Int)) ∧ wy.cell? ⟨b2, 1, none⟩ = some (.int .i64 (j1 : Int)) ∧ wy.cell? ⟨b2, 2, none⟩ = some (.int .i64 (Q : Int)) ∧ wy.cell? ⟨b2, 3, none⟩ = some (.int .i64 (q1 : Int))) ∧ PG D xs ys k w0 wy :=
  ⟨Bx4.pg h.1 h.2.2.2.1 h', Bx4.pg h.2.1 h.2.2.2.1 h', Bx4.pg h.2.2.1 h.2.2.2.1 h', h.2.2.2.next h'⟩
theorem r8_below (h : (wx.cell? ⟨b0, 0, none⟩ = some (.int .i64 (i : Int)) ∧ wx.cell? ⟨b0, 1, none⟩ = some (.int .i64 (j : Int)) ∧ wx.cell? ⟨b0, 2, none⟩ = some (.int .i64 (p : Int)) ∧ wx.cell? ⟨b0, 3, none⟩ = some (.int .i64 (q : Int))) ∧ (wx.cell? ⟨b1, 0, none⟩ = some (.int .i64 (i : Int)) ∧ wx.cell? ⟨b1, 1, none⟩ = some (.int .i64 (P : Int)) ∧ wx.cell? ⟨b1, 2, none⟩ = some (.int .i64 (p : Int)) ∧ wx.cell? ⟨b1, 3, none⟩ = some (.int .i64 (Q : Int))) ∧ (wx.cell? ⟨b2, 0, none⟩ = some (.int .i64 (P : Int)) ∧ wx.cell? ⟨b2, 1, none⟩ = some (.int .i64 (j1 : Int)) ∧ wx.cell? ⟨b2, 2, none⟩ = some (.int .i64 (Q : Int)) ∧ wx.cell? ⟨b2, 3, none⟩ = some (.int .i64 (q1 : Int))) ∧ PG D xs ys k w0 wx) (hb : Below wx.heap.size wx wy) : (wy.cell? ⟨b0, 0, none⟩ = some (.int .i64 (i : Int)) ∧ wy.cell? ⟨b0, 1, none⟩ = some (.int .i64 (j : Int)) ∧ wy.cell? ⟨b0, 2, none⟩ = some (.int .i64 (p : Int)) ∧ wy.cell? ⟨b0, 3, none⟩ = some (.int .i64 (q : Int))) ∧ (wy.cell? ⟨b1, 0, none⟩ = some (.int .i64 (i : Int)) ∧ wy.cell? ⟨b1, 1, none⟩ = some (.int .i64 (P : Int)) ∧ wy.cell? ⟨b1, 2, none⟩ = some (.int .i64 (p : Int)) ∧ wy.cell? ⟨b1, 3, none⟩ = some (.int .i64 (Q : Int))) ∧ (wy.cell? ⟨b2, 0, none⟩ = some (.int .i64 (P : Int)) ∧ wy.cell? ⟨b2, 1, none⟩ = some (.int .i64 (j1 : Int)) ∧ wy.cell? ⟨b2, 2, none⟩ = some (.int .i64 (Q : Int)) ∧ wy.cell? ⟨b2, 3, none⟩ = some (.int .i64 (q1 : Int))) ∧ PG D xs ys k w0 wy := r8_next h ((PG.refl h.2.2.2.1).below hb)
theorem r8_drawn (h : (wx.cell? ⟨b0, 0, none⟩ = some (.int .i64 (i : Int)) ∧ wx.cell? ⟨b0, 1, none⟩ = some (.int .i64 (j : Int)) ∧ wx.cell? ⟨b0, 2, none⟩ = some (.int .i64 (p : Int)) ∧ wx.cell? ⟨b0, 3, none⟩ = some (.int .i64 (q : Int))) ∧ (wx.cell? ⟨b1, 0, none⟩ = some (.int .i64 (i : Int)) ∧ wx.cell? ⟨b1, 1, none⟩ = some (.int .i64 (P : Int)) ∧ wx.cell? ⟨b1, 2, none⟩ = some (.int .i64 (p : Int)) ∧ wx.cell? ⟨b1, 3, none⟩ = some (.int .i64 (Q : Int))) ∧ (wx.cell? ⟨b2, 0, none⟩ = some (.int .i64 (P : Int)) ∧ wx.cell? ⟨b2, 1, none⟩ = some (.int .i64 (j1 : Int)) ∧ wx.cell? ⟨b2, 2, none⟩ = some (.int .i64 (Q : Int)) ∧ wx.cell? ⟨b2, 3, none⟩ = some (.int .i64 (q1 : Int))) ∧ PG D xs ys k w0 wx) (hd : Drawn wx wy) : (wy.cell? ⟨b0, 0, none⟩ = some (.int .i64 (i : Int)) ∧ wy.cell? ⟨b0, 1, none⟩ = some (.int .i64 (j : Int)) ∧ wy.cell? ⟨b0, 2, none⟩ = some (.int .i64 (p : Int)) ∧ wy.cell? ⟨b0, 3, none⟩ = some (.int .i64 (q : Int))) ∧ (wy.cell? ⟨b1, 0, none⟩ = some (.int .i64 (i : Int)) ∧ wy.cell? ⟨b1, 1, none⟩ = some (.int .i64 (P : Int)) ∧ wy.cell? ⟨b1, 2, none⟩ = some (.int .i64 (p : Int)) ∧ wy.cell? ⟨b1, 3, none⟩ = some (.int .i64 (Q : Int))) ∧ (wy.cell? ⟨b2, 0, none⟩ = some (.int .i64 (P : Int)) ∧ wy.cell? ⟨b2, 1, none⟩ = some (.int .i64 (j1 : Int)) ∧ wy.cell? ⟨b2, 2, none⟩ = some (.int .i64 (Q : Int)) ∧ wy.cell? ⟨b2, 3, none⟩ = some (.int .i64 (q1 : Int))) ∧ PG D xs ys k w0 wy := r8_below h hd.toBelow
end
set_option maxHeartbeats 800000 in
set_option maxRecDepth 100000 in
theorem dist_none (D : D10) (xs ys : Tr) (k : Co) (hx : Tr.ok xs = true) (hy : Tr.ok ys = true) (hk : Co.ok k = true) (i j p q : Nat) (w : World) (hij : i ≤ j) (hj : j ≤ xs.length) (hpq : p ≤ q) (hq : q ≤ ys.length) (h : PT D xs ys k w) (he : i = j) :
    Calls Try.prog 84 #[.pointer (some ⟨D.g, 0, none⟩), (.agg #[.int .i64 (i : Int), .int .i64 (j : Int), .int .i64 (p : Int), .int .i64 (q : Int)])] w fun e w' => e = .returned (.int .i64 (RR xs ys k i j p q)) ∧ PG D xs ys k w w' := by
  obtain ⟨w1, hw1⟩ : ∃ w1, w1 = w.alloc (.cells #[.int .i64 (i : Int), .int .i64 (j : Int), .int .i64 (p : Int), .int .i64 (q : Int)] 102) := ⟨_, rfl⟩
  have hb1 : Below w.heap.size w w1 := by rw [hw1]; exact (Below.refl _ _).alloc (Nat.le_refl _) _
  have hB := (show Bx4 w1 w.heap.size i j p q by rw [hw1]; exact Bx4.made _ _ _ _ _ _)
  have G1 := Lib.hid ((PG.refl h).below hb1)
  have HWC := Lib.hid hw1
  clear hw1 hb1
  have CU := Lib.hid (unpaired_any D.g D.a0 D.a1 D.b0 D.b1 D.k0 D.k1 D.k2 D.ca0 D.ca1 D.cb0 D.cb1 D.ck0 D.ck1 D.ck2 xs ys k w1 G1.out.1.sd hx hy hk i j p q hij hj hpq hq (by omega))
  have f1 : ((i : Int) == (j : Int)) = true := by simp; omega
  clear he
  obtain ⟨r0, r1, r2, r3⟩ := hB
  clear h hx hy hk
  go_enter Try.func84, Try.ntmps84
  go_wp2_with fail
  rw [← HWC.out]
  go_wp2_with fail
  refine CU.out.mono ?_
  rintro e w2 ⟨rfl, hb⟩
  have G2 := Lib.hid (G1.out.below hb)
  clear hb
  go_wp2
  go_ret
  exact ⟨rfl, G2.out⟩
set_option maxHeartbeats 800000 in
set_option maxRecDepth 100000 in
theorem dist_none2 (D : D10) (xs ys : Tr) (k : Co) (hx : Tr.ok xs = true) (hy : Tr.ok ys = true) (hk : Co.ok k = true) (i j p q : Nat) (w : World) (hij : i ≤ j) (hj : j ≤ xs.length) (hpq : p ≤ q) (hq : q ≤ ys.length) (h : PT D xs ys k w) (hne : i ≠ j) (he : p = q) :
    Calls Try.prog 84 #[.pointer (some ⟨D.g, 0, none⟩), (.agg #[.int .i64 (i : Int), .int .i64 (j : Int), .int .i64 (p : Int), .int .i64 (q : Int)])] w fun e w' => e = .returned (.int .i64 (RR xs ys k i j p q)) ∧ PG D xs ys k w w' := by
  obtain ⟨w1, hw1⟩ : ∃ w1, w1 = w.alloc (.cells #[.int .i64 (i : Int), .int .i64 (j : Int), .int .i64 (p : Int), .int .i64 (q : Int)] 102) := ⟨_, rfl⟩
  have hb1 : Below w.heap.size w w1 := by rw [hw1]; exact (Below.refl _ _).alloc (Nat.le_refl _) _
  have hB := (show Bx4 w1 w.heap.size i j p q by rw [hw1]; exact Bx4.made _ _ _ _ _ _)
  have G1 := Lib.hid ((PG.refl h).below hb1)
  have HWC := Lib.hid hw1
  clear hw1 hb1
  have CU := Lib.hid (unpaired_any D.g D.a0 D.a1 D.b0 D.b1 D.k0 D.k1 D.k2 D.ca0 D.ca1 D.cb0 D.cb1 D.ck0 D.ck1 D.ck2 xs ys k w1 G1.out.1.sd hx hy hk i j p q hij hj hpq hq (by omega))
  have f1 : ((i : Int) == (j : Int)) = false := by simp; omega
  have f2 : ((p : Int) == (q : Int)) = true := by simp; omega
  clear he hne
  obtain ⟨r0, r1, r2, r3⟩ := hB
  clear h hx hy hk
  go_enter Try.func84, Try.ntmps84
  go_wp2_with fail
  rw [← HWC.out]
  go_wp2_with fail
  refine CU.out.mono ?_
  rintro e w2 ⟨rfl, hb⟩
  have G2 := Lib.hid (G1.out.below hb)
  clear hb
  go_wp2
  go_ret
  exact ⟨rfl, G2.out⟩
set_option maxHeartbeats 800000 in
set_option maxRecDepth 100000 in
theorem dist_known (D : D10) (xs ys : Tr) (k : Co) (i j p q : Nat) (w : World) (h : PT D xs ys k w) (hij : i ≠ j) (hpq : p ≠ q) 
    (hlook : ∀ w' : World, w'.heap[D.gm]? = w.heap[D.gm]? → (Instr.lookup 140 (.map (some D.gm)) (rgV i j p q) true).run Try.prog w' = .ok (.tuple #[.int .i64 (RR xs ys k i j p q), .bool true]) w') :
    Calls Try.prog 84 #[.pointer (some ⟨D.g, 0, none⟩), (.agg #[.int .i64 (i : Int), .int .i64 (j : Int), .int .i64 (p : Int), .int .i64 (q : Int)])] w fun e w' => e = .returned (.int .i64 (RR xs ys k i j p q)) ∧ PG D xs ys k w w' := by
  obtain ⟨w1, hw1⟩ : ∃ w1, w1 = w.alloc (.cells #[.int .i64 (i : Int), .int .i64 (j : Int), .int .i64 (p : Int), .int .i64 (q : Int)] 102) := ⟨_, rfl⟩
  have hb1 : Below w.heap.size w w1 := by rw [hw1]; exact (Below.refl _ _).alloc (Nat.le_refl _) _
  have hB := (show Bx4 w1 w.heap.size i j p q by rw [hw1]; exact Bx4.made _ _ _ _ _ _)
  have G1 := Lib.hid ((PG.refl h).below hb1)
  have HWC := Lib.hid hw1
  clear hw1 hb1
  have f1 : ((i : Int) == (j : Int)) = false := by simp; omega
  have f2 : ((p : Int) == (q : Int)) = false := by simp; omega
  have hl : ∀ n, (Instr.lookup 140 (.map (some D.gm)) (.agg #[.int .i64 (i : Int), .int .i64 (j : Int), .int .i64 (p : Int), .int .i64 (q : Int)]) true).run Try.prog (w1.drewN n) = .ok (.tuple #[.int .i64 (RR xs ys k i j p q), .bool true]) (w1.drewN n) := fun n => hlook _ (by rw [HWC.out]; exact ((Below.refl _ _).alloc (Nat.le_refl _) _).block D.gm h.mm.lt)
  have hl0 := hl 0
  have hl1 := hl 1
  have h9 := G1.out.1.h9
  obtain ⟨r0, r1, r2, r3⟩ := hB
  clear hlook h hij hpq
  go_enter Try.func84, Try.ntmps84
  go_wp2_with fail
  rw [← HWC.out]
  go_wp2_with fail
  go_quiet (fail)
  go_wp2
  go_ret
  exact ⟨rfl, G1.out.drawn ((Drawn.refl _).drewN _)⟩
set_option maxHeartbeats 800000 in
set_option maxRecDepth 100000 in
theorem dist_new (D : D10) (xs ys : Tr) (k : Co) (s : Nat) (hx : Tr.ok xs = true) (hy : Tr.ok ys = true) (hk : Co.ok k = true) (ih : SaysD D xs ys k s) (i j p q : Nat) (w : World) (hij : i < j) (hj : j ≤ xs.length) (hpq : p < q) (hq : q ≤ ys.length) (hsum : (j - i) + (q - p) < s + 1) (h : PT D xs ys k w)
    (hlook : ∀ w' : World, w'.heap[D.gm]? = w.heap[D.gm]? → (Instr.lookup 140 (.map (some D.gm)) (rgV i j p q) true).run Try.prog w' = .ok (.tuple #[.int .i64 0, .bool false]) w') :
    Calls Try.prog 84 #[.pointer (some ⟨D.g, 0, none⟩), (.agg #[.int .i64 (i : Int), .int .i64 (j : Int), .int .i64 (p : Int), .int .i64 (q : Int)])] w fun e w' => e = .returned (.int .i64 (RR xs ys k i j p q)) ∧ PG D xs ys k w w' := by
  have x24 := (Tr.len24 hx).2
  have y24 := (Tr.len24 hy).2
  obtain ⟨w1, hw1⟩ : ∃ w1, w1 = w.alloc (.cells #[.int .i64 (i : Int), .int .i64 (j : Int), .int .i64 (p : Int), .int .i64 (q : Int)] 102) := ⟨_, rfl⟩
  have hb1 : Below w.heap.size w w1 := by rw [hw1]; exact (Below.refl _ _).alloc (Nat.le_refl _) _
  have hB := (show Bx4 w1 w.heap.size i j p q by rw [hw1]; exact Bx4.made _ _ _ _ _ _)
  have G1 := Lib.hid ((PG.refl h).below hb1)
  have HWC := Lib.hid hw1
  clear hw1 hb1
  have f1 : ((i : Int) == (j : Int)) = false := by simp; omega
  have f2 : ((p : Int) == (q : Int)) = false := by simp; omega
  have hl : ∀ n, (Instr.lookup 140 (.map (some D.gm)) (.agg #[.int .i64 (i : Int), .int .i64 (j : Int), .int .i64 (p : Int), .int .i64 (q : Int)]) true).run Try.prog (w1.drewN n) = .ok (.tuple #[.int .i64 0, .bool false]) (w1.drewN n) := fun n => hlook _ (by rw [HWC.out]; exact ((Below.refl _ _).alloc (Nat.le_refl _) _).block D.gm h.mm.lt)
  have hl0 := hl 0
  have hl1 := hl 1
  have h9 := G1.out.1.h9
  have h90 := Lib.hid h9
  obtain ⟨j1, ej⟩ : ∃ z, j = z + 1 := ⟨j - 1, by omega⟩
  obtain ⟨q1, eq⟩ : ∃ z, q = z + 1 := ⟨q - 1, by omega⟩
  have la1 := (Tr.la_nest hx j1 (by omega)).1
  have lb1 := (Tr.la_nest hy q1 (by omega)).1
  obtain ⟨P, eP⟩ : ∃ z, z = max i (Tr.la xs j1) := ⟨_, rfl⟩
  obtain ⟨Q, eQ⟩ : ∃ z, z = max p (Tr.la ys q1) := ⟨_, rfl⟩
  have CS := Lib.hid (fun (wq : World) (hs : SD D.g D.a0 D.a1 D.b0 D.b1 D.k0 D.k1 D.k2 D.ca0 D.ca1 D.cb0 D.cb1 D.ck0 D.ck1 D.ck2 xs ys k wq) => split_any D.g D.a0 D.a1 D.b0 D.b1 D.k0 D.k1 D.k2 D.ca0 D.ca1 D.cb0 D.cb1 D.ck0 D.ck1 D.ck2 xs ys k wq hs hx hy i j p q j1 q1 P Q ej eq hj hq (by omega) (by omega) eP eQ)
  obtain ⟨X, hX⟩ : ∃ z, z = RR xs ys k i j1 p q := ⟨_, rfl⟩
  obtain ⟨Y, hY⟩ : ∃ z, z = RR xs ys k i j p q1 := ⟨_, rfl⟩
  obtain ⟨U, hU⟩ : ∃ z, z = RR xs ys k i P p Q := ⟨_, rfl⟩
  obtain ⟨V, hV⟩ : ∃ z, z = RR xs ys k P j1 Q q1 := ⟨_, rfl⟩
  have bX := RR_bound (k := k) hx hy (p := i) (a := j1) (q := p) (b := q) (by omega) (by omega) (by omega) hq
  have bY := RR_bound (k := k) hx hy (p := i) (a := j) (q := p) (b := q1) (by omega) hj (by omega) (by omega)
  have bU := RR_bound (k := k) hx hy (p := i) (a := P) (q := p) (b := Q) (by omega) (by omega) (by omega) (by omega)
  have bV := RR_bound (k := k) hx hy (p := P) (a := j1) (q := Q) (b := q1) (by omega) (by omega) (by omega) (by omega)
  have CX := Lib.hid (fun (wq : World) (hp : PT D xs ys k wq) => ih i j1 p q wq (by omega) (by omega) (by omega) hq (by omega) hp)
  have CY := Lib.hid (fun (wq : World) (hp : PT D xs ys k wq) => ih i j p q1 wq (by omega) hj (by omega) (by omega) (by omega) hp)
  have CU := Lib.hid (fun (wq : World) (hp : PT D xs ys k wq) => ih i P p Q wq (by omega) (by omega) (by omega) (by omega) (by omega) hp)
  have CV := Lib.hid (fun (wq : World) (hp : PT D xs ys k wq) => ih P j1 Q q1 wq (by omega) (by omega) (by omega) (by omega) (by omega) hp)
  rw [← hX] at bX CX
  rw [← hY] at bY CY
  rw [← hU] at bU CU
  rw [← hV] at bV CV
  have nn := Co.nonneg' k
  obtain ⟨dv, hdv⟩ : ∃ z, z = Co.del k (Tr.xa xs j1) := ⟨_, rfl⟩
  obtain ⟨iv, hiv⟩ : ∃ z, z = Co.ins k (Tr.xa ys q1) := ⟨_, rfl⟩
  obtain ⟨rv, hrv⟩ : ∃ z, z = Co.rel k (Tr.xa xs j1) (Tr.xa ys q1) := ⟨_, rfl⟩
  have CD := Lib.hid (fun (wq : World) (hs : SD D.g D.a0 D.a1 D.b0 D.b1 D.k0 D.k1 D.k2 D.ca0 D.ca1 D.cb0 D.cb1 D.ck0 D.ck1 D.ck2 xs ys k wq) => sidesDel_any D.g D.a0 D.a1 D.b0 D.b1 D.k0 D.k1 D.k2 D.ca0 D.ca1 D.cb0 D.cb1 D.ck0 D.ck1 D.ck2 xs ys k wq hs hx hk j1 (by omega))
  have CI := Lib.hid (fun (wq : World) (hs : SD D.g D.a0 D.a1 D.b0 D.b1 D.k0 D.k1 D.k2 D.ca0 D.ca1 D.cb0 D.cb1 D.ck0 D.ck1 D.ck2 xs ys k wq) => sidesIns_any D.g D.a0 D.a1 D.b0 D.b1 D.k0 D.k1 D.k2 D.ca0 D.ca1 D.cb0 D.cb1 D.ck0 D.ck1 D.ck2 xs ys k wq hs hy hk q1 (by omega))
  have CR := Lib.hid (fun (wq : World) (hs : SD D.g D.a0 D.a1 D.b0 D.b1 D.k0 D.k1 D.k2 D.ca0 D.ca1 D.cb0 D.cb1 D.ck0 D.ck1 D.ck2 xs ys k wq) => sidesRel_any D.g D.a0 D.a1 D.b0 D.b1 D.k0 D.k1 D.k2 D.ca0 D.ca1 D.cb0 D.cb1 D.ck0 D.ck1 D.ck2 xs ys k wq hs hx hy hk j1 q1 (by omega) (by omega))
  rw [← hdv] at CD
  rw [← hiv] at CI
  rw [← hrv] at CR
  have bD := nn.1 (Tr.xa xs j1)
  have bI := nn.2.1 (Tr.xa ys q1)
  have bR := nn.2.2 (Tr.xa xs j1) (Tr.xa ys q1)
  rw [← hdv] at bD
  rw [← hiv] at bI
  rw [← hrv] at bR
  have ER := Lib.hid (show RR xs ys k i j p q = min (min (X + dv) (Y + iv)) (U + V + rv) by
    rw [hX, hY, hU, hV, hdv, hiv, hrv, eP, eQ, ej, eq]
    exact RD_both (Tr.la_nest hx) (Tr.la_nest hy) (by omega) (by omega) (by omega) (by omega))
  have a1 : IntKind.i64.wrap ((j : Int) - 1) = (j1 : Int) := by rw [Kit.w64 (by omega) (by omega)]; omega
  have a2 : IntKind.i64.wrap ((q : Int) - 1) = (q1 : Int) := by rw [Kit.w64 (by omega) (by omega)]; omega
  have WF := Lib.hid (show (Lit.int .i64 (RR xs ys k i j p q)).wf = true from Go.WalkArith.wf_i64 (by have := RR_bound (k := k) hx hy (p := i) (a := j) (q := p) (b := q) (by omega) hj (by omega) hq; omega))
  have I24 := Lib.hid (show i ≤ 24 ∧ j ≤ 24 ∧ p ≤ 24 ∧ q ≤ 24 ∧ 1 ≤ j ∧ 1 ≤ q by omega)
  have EJ := Lib.hid (show j - 1 = j1 by omega)
  have EQ := Lib.hid (show q - 1 = q1 by omega)
  have HW := Lib.hid (show ∀ wq : World, PT D xs ys k wq → Calls Try.prog 125 #[(.agg #[.int .i64 (i : Int), .int .i64 (j : Int), .int .i64 (p : Int), .int .i64 (q : Int)])] wq fun e w' => e = .returned (.agg #[.int .i64 (i : Int), .int .i64 (j1 : Int), .int .i64 (p : Int), .int .i64 (q : Int)]) ∧ Below wq.heap.size wq w' by
    intro wq _; have := withoutA_any i j p q wq (by omega) (by omega); rw [EJ.out] at this; exact this)
  have HV := Lib.hid (show ∀ wq : World, PT D xs ys k wq → Calls Try.prog 127 #[(.agg #[.int .i64 (i : Int), .int .i64 (j : Int), .int .i64 (p : Int), .int .i64 (q : Int)])] wq fun e w' => e = .returned (.agg #[.int .i64 (i : Int), .int .i64 (j : Int), .int .i64 (p : Int), .int .i64 (q1 : Int)]) ∧ Below wq.heap.size wq w' by
    intro wq _; have := withoutB_any i j p q wq (by omega) (by omega); rw [EQ.out] at this; exact this)
  have s1 : IntKind.i64.wrap (X + dv) = X + dv := Kit.w64 (by omega) (by omega)
  have s2 : IntKind.i64.wrap (Y + iv) = Y + iv := Kit.w64 (by omega) (by omega)
  have s3 : IntKind.i64.wrap (U + V) = U + V := Kit.w64 (by omega) (by omega)
  have s4 : IntKind.i64.wrap (U + V + rv) = U + V + rv := Kit.w64 (by omega) (by omega)
  obtain ⟨r0, r1, r2, r3⟩ := hB
  have HB0 := Lib.hid (show Bx4 w1 w.heap.size i j p q from ⟨r0, r1, r2, r3⟩)
  clear hlook h hx hy hk ih nn hX hY hU hV hdv hiv hrv bX bY bU bV bD bI bR ej eq la1 lb1 eP eQ x24 y24 hij hj hpq hq hsum
  go_enter Try.func84, Try.ntmps84
  go_wp2_with fail
  rw [← HWC.out]
  go_wp2_with fail
  go_quiet (fail)
  clear hl hl0 hl1 h9
  go_wp2_with fail
  go_quiet (fail)
  clear a1 a2
  go_wp2_with fail
  refine (CS.out _ (G1.out.1.drawn ((Drawn.refl _).drewN _)).sd).mono ?_
  rintro e w2 ⟨rfl, hb2⟩
  have G2 := Lib.hid ((G1.out.drawn ((Drawn.refl _).drewN _)).below hb2)
  have HB2 := Lib.hid ((HB0.out.drawn ((Drawn.refl _).drewN _)).below hb2 (World.block_lt_of_cell? _ _ r0))
  have L0 := Lib.hid (World.block_lt_of_cell? _ _ HB2.out.1)
  clear hb2 r0 r1 r2 r3
  go_wp2_with fail
  generalize hw3 : (w2.alloc (.cells  #[.int .i64 (i : Int), .int .i64 (P : Int), .int .i64 (p : Int), .int .i64 (Q : Int)] 102)).alloc (.cells  #[.int .i64 (P : Int), .int .i64 (j1 : Int), .int .i64 (Q : Int), .int .i64 (q1 : Int)] 102) = w3
  have S0 := Lib.hid (show (w3.drew.cell? ⟨w.heap.size, 0, none⟩ = some (.int .i64 (i : Int)) ∧ w3.drew.cell? ⟨w.heap.size, 1, none⟩ = some (.int .i64 (j : Int)) ∧ w3.drew.cell? ⟨w.heap.size, 2, none⟩ = some (.int .i64 (p : Int)) ∧ w3.drew.cell? ⟨w.heap.size, 3, none⟩ = some (.int .i64 (q : Int))) ∧ (w3.drew.cell? ⟨w2.heap.size, 0, none⟩ = some (.int .i64 (i : Int)) ∧ w3.drew.cell? ⟨w2.heap.size, 1, none⟩ = some (.int .i64 (P : Int)) ∧ w3.drew.cell? ⟨w2.heap.size, 2, none⟩ = some (.int .i64 (p : Int)) ∧ w3.drew.cell? ⟨w2.heap.size, 3, none⟩ = some (.int .i64 (Q : Int))) ∧ (w3.drew.cell? ⟨w2.heap.size + 1, 0, none⟩ = some (.int .i64 (P : Int)) ∧ w3.drew.cell? ⟨w2.heap.size + 1, 1, none⟩ = some (.int .i64 (j1 : Int)) ∧ w3.drew.cell? ⟨w2.heap.size + 1, 2, none⟩ = some (.int .i64 (Q : Int)) ∧ w3.drew.cell? ⟨w2.heap.size + 1, 3, none⟩ = some (.int .i64 (q1 : Int))) ∧ PG D xs ys k w w3.drew by
    have hb3 : Below w2.heap.size w2 w3 := by rw [← hw3]; exact ((Below.refl _ _).alloc (Nat.le_refl _) _).alloc (by simp) _
    have e1 : (w2.alloc (.cells  #[.int .i64 (i : Int), .int .i64 (P : Int), .int .i64 (p : Int), .int .i64 (Q : Int)] 102)).heap.size = w2.heap.size + 1 := by simp
    have x1 : Bx4 w3 w2.heap.size i P p Q := by rw [← hw3]; exact (Bx4.made w2 _ _ _ _ _).below ((Below.refl _ _).alloc (Nat.le_refl _) _) (by simp)
    have x2 : Bx4 w3 (w2.heap.size + 1) P j1 Q q1 := by rw [← hw3, ← e1]; exact Bx4.made _ _ _ _ _ _
    exact r8_drawn ⟨HB2.out.below hb3 L0.out, x1, x2, G2.out.below hb3⟩ (Drawn.refl _).drew)
  clear hw3
  go_region_held3 (fun wq => (wq.cell? ⟨w.heap.size, 0, none⟩ = some (.int .i64 (i : Int)) ∧ wq.cell? ⟨w.heap.size, 1, none⟩ = some (.int .i64 (j : Int)) ∧ wq.cell? ⟨w.heap.size, 2, none⟩ = some (.int .i64 (p : Int)) ∧ wq.cell? ⟨w.heap.size, 3, none⟩ = some (.int .i64 (q : Int))) ∧ (wq.cell? ⟨w2.heap.size, 0, none⟩ = some (.int .i64 (i : Int)) ∧ wq.cell? ⟨w2.heap.size, 1, none⟩ = some (.int .i64 (P : Int)) ∧ wq.cell? ⟨w2.heap.size, 2, none⟩ = some (.int .i64 (p : Int)) ∧ wq.cell? ⟨w2.heap.size, 3, none⟩ = some (.int .i64 (Q : Int))) ∧ (wq.cell? ⟨w2.heap.size + 1, 0, none⟩ = some (.int .i64 (P : Int)) ∧ wq.cell? ⟨w2.heap.size + 1, 1, none⟩ = some (.int .i64 (j1 : Int)) ∧ wq.cell? ⟨w2.heap.size + 1, 2, none⟩ = some (.int .i64 (Q : Int)) ∧ wq.cell? ⟨w2.heap.size + 1, 3, none⟩ = some (.int .i64 (q1 : Int))) ∧ PG D xs ys k w wq) (first | (with_reducible exact SC) | (with_reducible exact S0.out)) (first | ((go_at_call 125; with_reducible refine (HW.out _ (r8_pt (by assumption))).mono ?_); rintro e w5 ⟨rfl, hk5⟩; have SC := r8_below (by assumption) hk5) | ((go_at_call 127; with_reducible refine (HV.out _ (r8_pt (by assumption))).mono ?_); rintro e w5 ⟨rfl, hk5⟩; have SC := r8_below (by assumption) hk5) | ((go_at_call 126; with_reducible refine (CD.out _ (r8_pt (by assumption)).sd).mono ?_); rintro e w5 ⟨rfl, hk5⟩; have SC := r8_drawn (by assumption) hk5) | ((go_at_call 128; with_reducible refine (CI.out _ (r8_pt (by assumption)).sd).mono ?_); rintro e w5 ⟨rfl, hk5⟩; have SC := r8_drawn (by assumption) hk5) | ((go_at_call 72; with_reducible refine (CR.out _ (r8_pt (by assumption)).sd).mono ?_); rintro e w5 ⟨rfl, hk5⟩; have SC := r8_drawn (by assumption) hk5) | ((go_at_call 84; with_reducible refine (CX.out _ (r8_pt (by assumption))).mono ?_); rintro e w5 ⟨rfl, hk5⟩; have SC := r8_next (by assumption) hk5) | ((go_at_call 84; with_reducible refine (CY.out _ (r8_pt (by assumption))).mono ?_); rintro e w5 ⟨rfl, hk5⟩; have SC := r8_next (by assumption) hk5) | ((go_at_call 84; with_reducible refine (CU.out _ (r8_pt (by assumption))).mono ?_); rintro e w5 ⟨rfl, hk5⟩; have SC := r8_next (by assumption) hk5) | ((go_at_call 84; with_reducible refine (CV.out _ (r8_pt (by assumption))).mono ?_); rintro e w5 ⟨rfl, hk5⟩; have SC := r8_next (by assumption) hk5))
  have G5 := Lib.hid (r8_pg SC)
  have c9 := G5.out.1.h9
  obtain ⟨⟨r0, r1, r2, r3⟩, _⟩ := id SC
  rw [min_if, min_if, ← ER.out]
  obtain ⟨w6, hrun, hm6, hg6⟩ := (G5.out.1.mm.drawn (Drawn.refl _).drew).store (i := i) (j := j) (p := p) (q := q) I24.out.1 I24.out.2.1 I24.out.2.2.1 I24.out.2.2.2.1 WF.out
  unfold rgV at hrun
  have G6 := Lib.hid (show PG D xs ys k w w6 from (G5.out.drawn (Drawn.refl _).drew).next ⟨(G5.out.1.drawn (Drawn.refl _).drew).step hg6 hm6, hg6⟩)
  clear hm6 hg6 SC S0 hk5 s1 s2 s3 s4
  go_wp2_with fail
  go_still_tail 6, (by kernel_rfl)
  change wpList _ _ _ _ _ w5.drew
  go_wp2
  go_ret
  exact ⟨rfl, G6.out⟩
theorem rangeDist_any (D : D10) (xs ys : Tr) (k : Co) (hx : Tr.ok xs = true) (hy : Tr.ok ys = true) (hk : Co.ok k = true) : ∀ s, SaysD D xs ys k s := by
  intro s
  induction s with
  | zero => intro i j p q w _ _ _ _ h; omega
  | succ s ih =>
    intro i j p q w hij hj hpq hq hsum h
    by_cases e1 : i = j
    · exact dist_none D xs ys k hx hy hk i j p q w hij hj hpq hq h e1
    · by_cases e2 : p = q
      · exact dist_none2 D xs ys k hx hy hk i j p q w hij hj hpq hq h e1 e2
      · have x24 := (Tr.len24 hx).2
        have y24 := (Tr.len24 hy).2
        rcases h.mm.look (i := i) (j := j) (p := p) (q := q) (by omega) (by omega) (by omega) (by omega) with hl | hl
        · exact dist_new D xs ys k s hx hy hk ih i j p q w (by omega) hj (by omega) hq hsum h hl
        · exact dist_known D xs ys k i j p q w h e1 e2 hl

end Go.Proofs.Ytlndaflhlkbedaa
