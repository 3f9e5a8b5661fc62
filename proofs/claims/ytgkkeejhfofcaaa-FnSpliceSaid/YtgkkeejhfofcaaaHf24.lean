/- Texts of one claim laid into one file, in build order: IcoI, OcoI, NatI, ResC. -/
import Derived.Test.YtgkkeejhfofcaaaHf11
import Derived.Test.YtgkkeejhfofcaaaHf18
import Derived.Test.YtgkkeejhfofcaaaHf2
import Derived.Test.YtgkkeejhfofcaaaHf20
import Derived.Test.YtgkkeejhfofcaaaHf22
import Derived.Test.YtgkkeejhfofcaaaHf23
import Derived.Outline
/- Contracts (IcoI). -/
namespace Go.Proofs.Ytgkkeejhfofcaaa
open Go.RowKit
set_option linter.unusedVariables false

set_option maxHeartbeats 6400000 in
set_option maxRecDepth 100000 in
theorem implInsertCode_any (ad : Addr) (n c : Nat) (xs : Tr) (i : Nat) (k a f z : Int) (P : Option Addr) (m q : Nat) (w : World) (h : NdIn w w.heap.size (some ad) n xs) (hn : n ≤ 1048576) (hnc : n ≤ c) (hok : Tr.ok xs = true) (hi : i < n) (hla : Lab.ok a = true) :
    Calls Try.prog 132 #[.slice (some ad) n c, .int .i64 (i : Int), .agg #[.int .i64 k, .slice P m q, .int .i64 a, .int .i64 f, .int .i64 z]] w fun e w' => e = .returned (.int .i64 (Oc.icode xs i f z)) ∧ Below w.heap.size w w' := by
  have H := Lib.hid h
  clear h
  have HL := Lib.hid H.out.1
  have hix : i < xs.length := by rw [HL.out]; exact hi
  have hh : Tr.has xs (i : Int) = true := Tr.has_iff.2 ⟨hok, by omega, by omega⟩
  have n24 := Tr.len24 hok
  rw [HL.out] at n24
  have hkl := Tr.kidsI_length hh
  obtain ⟨K, hK⟩ : ∃ K, K = (Tr.kidsI xs (i : Int)).length := ⟨_, rfl⟩
  have hkn : K ≤ n := by rw [hK, ← HL.out]; exact Tr.kidsI_len xs i
  rw [← hK] at hkl
  have HKI := Lib.hid hK
  have HKK := Lib.hid hkl
  have HI5 := Lib.hid (Oc.icode5 (xs := xs) (i := i) (f := f) (z := z))
  have HI6 := Lib.hid (Oc.icode6 (xs := xs) (i := i) (f := f) (z := z))
  have HID := Lib.hid (Oc.icode_deep (xs := xs) (i := i) (f := f) (z := z))
  obtain ⟨wz, hwz⟩ : ∃ wz, wz = w.alloc (.cells #[.int .i64 k, .slice P m q, .int .i64 a, .int .i64 f, .int .i64 z] 39) := ⟨_, rfl⟩
  obtain ⟨s, hs⟩ : ∃ s, s = w.heap.size := ⟨_, rfl⟩
  have HBz := Lib.hid (show Below w.heap.size w wz by rw [hwz]; exact (Below.refl _ _).alloc (Nat.le_refl _) _)
  have HX := Lib.hid (show wz.cell? ⟨s, 0, none⟩ = some (.int .i64 k) ∧ wz.cell? ⟨s, 1, none⟩ = some (.slice P m q) ∧ wz.cell? ⟨s, 2, none⟩ = some (.int .i64 a) ∧ wz.cell? ⟨s, 3, none⟩ = some (.int .i64 f) ∧ wz.cell? ⟨s, 4, none⟩ = some (.int .i64 z) ∧ BelA wz wz by rw [hwz, hs]; exact ⟨by simp, by simp, by simp, by simp, by simp, Below.refl _ _⟩)
  have HW := Lib.hid hwz
  have HS := Lib.hid hs
  have Hz := Lib.hid (H.out.to_below HBz.out)
  clear hwz hs hkl hK
  by_cases c1 : f < 0
  · have d1 : decide (f < 0) = true := decide_eq_true c1
    have _u := d1
    go_enter Try.func132, Try.ntmps132
    go_wp2_with fail
    rw [← HW.out, ← HS.out]
    refine (implKidsOf_any _ _ _ xs _ _ Hz.out hn hnc).mono ?_
    rintro e w1 ⟨A1, c1, rfl, ho1, hb1⟩
    rw [← HKI.out]
    obtain ⟨x0, x1, x2, x3, x4, xb⟩ := c5_keep HX.out hb1
    have H1 := Lib.hid (Hz.out.to_below hb1)
    have HB := Lib.hid (HBz.out.trans (hb1.mono HBz.out.size))
    have HX := Lib.hid (show w1.cell? ⟨s, 0, none⟩ = some (.int .i64 k) ∧ w1.cell? ⟨s, 1, none⟩ = some (.slice P m q) ∧ w1.cell? ⟨s, 2, none⟩ = some (.int .i64 a) ∧ w1.cell? ⟨s, 3, none⟩ = some (.int .i64 f) ∧ w1.cell? ⟨s, 4, none⟩ = some (.int .i64 z) ∧ BelA wz w1 from ⟨x0, x1, x2, x3, x4, xb⟩)
    clear ho1 hb1 xb
    go_wp2
    go_ret
    exact ⟨Kit.ret_int (by rw [HI5.out (by rw [← HKK.out]; omega)]), HB.out⟩
  have d1 : decide (f < 0) = false := decide_eq_false c1
  by_cases c2 : (K : Int) < f
  · have d2 : decide ((K : Int) < f) = true := decide_eq_true c2
    have _u := d2
    go_enter Try.func132, Try.ntmps132
    go_wp2_with fail
    rw [← HW.out, ← HS.out]
    refine (implKidsOf_any _ _ _ xs _ _ Hz.out hn hnc).mono ?_
    rintro e w1 ⟨A1, c1, rfl, ho1, hb1⟩
    rw [← HKI.out]
    obtain ⟨x0, x1, x2, x3, x4, xb⟩ := c5_keep HX.out hb1
    have H1 := Lib.hid (Hz.out.to_below hb1)
    have HB := Lib.hid (HBz.out.trans (hb1.mono HBz.out.size))
    have HX := Lib.hid (show w1.cell? ⟨s, 0, none⟩ = some (.int .i64 k) ∧ w1.cell? ⟨s, 1, none⟩ = some (.slice P m q) ∧ w1.cell? ⟨s, 2, none⟩ = some (.int .i64 a) ∧ w1.cell? ⟨s, 3, none⟩ = some (.int .i64 f) ∧ w1.cell? ⟨s, 4, none⟩ = some (.int .i64 z) ∧ BelA wz w1 from ⟨x0, x1, x2, x3, x4, xb⟩)
    clear ho1 hb1 xb
    go_wp2
    go_ret
    exact ⟨Kit.ret_int (by rw [HI5.out (by rw [← HKK.out]; omega)]), HB.out⟩
  have d2 : decide ((K : Int) < f) = false := decide_eq_false c2
  by_cases c3 : z < 0
  · have d3 : decide (z < 0) = true := decide_eq_true c3
    have _u := d2
    go_enter Try.func132, Try.ntmps132
    go_wp2_with fail
    rw [← HW.out, ← HS.out]
    refine (implKidsOf_any _ _ _ xs _ _ Hz.out hn hnc).mono ?_
    rintro e w1 ⟨A1, c1, rfl, ho1, hb1⟩
    rw [← HKI.out]
    obtain ⟨x0, x1, x2, x3, x4, xb⟩ := c5_keep HX.out hb1
    have H1 := Lib.hid (Hz.out.to_below hb1)
    have HB := Lib.hid (HBz.out.trans (hb1.mono HBz.out.size))
    have HX := Lib.hid (show w1.cell? ⟨s, 0, none⟩ = some (.int .i64 k) ∧ w1.cell? ⟨s, 1, none⟩ = some (.slice P m q) ∧ w1.cell? ⟨s, 2, none⟩ = some (.int .i64 a) ∧ w1.cell? ⟨s, 3, none⟩ = some (.int .i64 f) ∧ w1.cell? ⟨s, 4, none⟩ = some (.int .i64 z) ∧ BelA wz w1 from ⟨x0, x1, x2, x3, x4, xb⟩)
    clear ho1 hb1 xb
    go_wp2
    go_ret
    exact ⟨Kit.ret_int (by rw [HI5.out (by rw [← HKK.out]; omega)]), HB.out⟩
  have d3 : decide (z < 0) = false := decide_eq_false c3
  have a5 : IntKind.i64.wrap ((K : Int) - f) = (K : Int) - f := Kit.w64 (by omega) (by omega)
  by_cases c4 : (K : Int) - f < z
  · have d4 : decide ((K : Int) - f < z) = true := decide_eq_true c4
    have _u := d2
    go_enter Try.func132, Try.ntmps132
    go_wp2_with fail
    rw [← HW.out, ← HS.out]
    refine (implKidsOf_any _ _ _ xs _ _ Hz.out hn hnc).mono ?_
    rintro e w1 ⟨A1, c1, rfl, ho1, hb1⟩
    rw [← HKI.out]
    obtain ⟨x0, x1, x2, x3, x4, xb⟩ := c5_keep HX.out hb1
    have H1 := Lib.hid (Hz.out.to_below hb1)
    have HB := Lib.hid (HBz.out.trans (hb1.mono HBz.out.size))
    have HX := Lib.hid (show w1.cell? ⟨s, 0, none⟩ = some (.int .i64 k) ∧ w1.cell? ⟨s, 1, none⟩ = some (.slice P m q) ∧ w1.cell? ⟨s, 2, none⟩ = some (.int .i64 a) ∧ w1.cell? ⟨s, 3, none⟩ = some (.int .i64 f) ∧ w1.cell? ⟨s, 4, none⟩ = some (.int .i64 z) ∧ BelA wz w1 from ⟨x0, x1, x2, x3, x4, xb⟩)
    clear ho1 hb1 xb
    go_wp2
    go_ret
    exact ⟨Kit.ret_int (by rw [HI5.out (by rw [← HKK.out]; omega)]), HB.out⟩
  have d4 : decide ((K : Int) - f < z) = false := decide_eq_false c4
  by_cases c5 : n = 24
  · have d5 : ((n : Int) == 24) = true := by simp; omega
    have Hn := Lib.hid c5
    clear c5
    have _u := d2
    go_enter Try.func132, Try.ntmps132
    go_wp2_with fail
    rw [← HW.out, ← HS.out]
    refine (implKidsOf_any _ _ _ xs _ _ Hz.out hn hnc).mono ?_
    rintro e w1 ⟨A1, c1, rfl, ho1, hb1⟩
    rw [← HKI.out]
    obtain ⟨x0, x1, x2, x3, x4, xb⟩ := c5_keep HX.out hb1
    have H1 := Lib.hid (Hz.out.to_below hb1)
    have HB := Lib.hid (HBz.out.trans (hb1.mono HBz.out.size))
    have HX := Lib.hid (show w1.cell? ⟨s, 0, none⟩ = some (.int .i64 k) ∧ w1.cell? ⟨s, 1, none⟩ = some (.slice P m q) ∧ w1.cell? ⟨s, 2, none⟩ = some (.int .i64 a) ∧ w1.cell? ⟨s, 3, none⟩ = some (.int .i64 f) ∧ w1.cell? ⟨s, 4, none⟩ = some (.int .i64 z) ∧ BelA wz w1 from ⟨x0, x1, x2, x3, x4, xb⟩)
    clear ho1 hb1 xb
    go_wp2
    go_ret
    exact ⟨Kit.ret_int (by rw [HI6.out (by rw [← HKK.out]; omega) (by rw [HL.out]; exact Hn.out)]), HB.out⟩
  have d5 : ((n : Int) == 24) = false := by simp; omega
  have HID2 := Lib.hid (HID.out (by rw [← HKK.out]; omega) (by rw [HL.out]; exact c5))
  obtain ⟨fN, rfl⟩ := Int.eq_ofNat_of_zero_le (show 0 ≤ f by omega)
  obtain ⟨zN, rfl⟩ := Int.eq_ofNat_of_zero_le (show 0 ≤ z by omega)
  have hr : fN + zN ≤ (Tr.kidsTo xs i (Tr.endN xs i)).length := by rw [← HKK.out]; omega
  have HR := Lib.hid hr
  have hFT := Tr.cut_mono hok hix (q := fN) (r := fN + zN) (by omega) hr
  have hb1 := (Tr.cut_bound hok hix fN (by omega)).1
  have hb2 := (Tr.cut_bound hok hix (fN + zN) hr).1
  have t2 := hb2.2.1
  have e2 := (Tr.endN_spec xs i hix).2.1
  have hdp := Oc.ins_deep hok hix hla hb1 hb2 hFT (by rw [HL.out]; exact c5)
  have HLI := Lib.hid (show (Oc.ins xs i a (Tr.cut xs i fN) (Tr.cut xs i (fN + zN))).length ≤ 1048576 by rw [Oc.ins_len hFT (by omega), HL.out]; omega)
  rw [Int.toNat_natCast, Int.toNat_natCast] at HID2
  have d6 : decide (K < fN) = false := decide_eq_false (by omega)
  by_cases c6 : 12 < Oc.deep xs i (Tr.cut xs i fN) (Tr.cut xs i (fN + zN) - Tr.cut xs i fN)
  · have HD := Lib.hid (show Tr.ok (Oc.ins xs i a (Tr.cut xs i fN) (Tr.cut xs i (fN + zN))) = false by rw [hdp]; exact decide_eq_false (by simpa using c6))
    have HID3 := Lib.hid (show Oc.icode xs i (fN : Int) (zN : Int) = 7 by rw [HID2.out, if_pos c6])
    clear hdp c6 hb1 hb2 t2 e2 hFT hr
    have _u := d2
    go_enter Try.func132, Try.ntmps132
    go_wp2_with fail
    rw [← HW.out, ← HS.out]
    refine (implKidsOf_any _ _ _ xs _ _ Hz.out hn hnc).mono ?_
    rintro e w1 ⟨A1, c1, rfl, ho1, hb1⟩
    rw [← HKI.out]
    obtain ⟨x0, x1, x2, x3, x4, xb⟩ := c5_keep HX.out hb1
    have H1 := Lib.hid (Hz.out.to_below hb1)
    have HB := Lib.hid (HBz.out.trans (hb1.mono HBz.out.size))
    have HX := Lib.hid (show w1.cell? ⟨s, 0, none⟩ = some (.int .i64 k) ∧ w1.cell? ⟨s, 1, none⟩ = some (.slice P m q) ∧ w1.cell? ⟨s, 2, none⟩ = some (.int .i64 a) ∧ w1.cell? ⟨s, 3, none⟩ = some (.int .i64 (fN : Int)) ∧ w1.cell? ⟨s, 4, none⟩ = some (.int .i64 (zN : Int)) ∧ BelA wz w1 from ⟨x0, x1, x2, x3, x4, xb⟩)
    clear ho1 hb1 xb
    go_wp2_with (go_loud (go_at_call 78; refine (implInsert_any ad n c xs i k a P m q fN zN w1 H1.out hn hnc hok hi HR.out).mono ?_; rintro e w2 ⟨A2, c2, rfl, ho2, hb2⟩))
    have H2 := Lib.hid (NdIn.of_own ho2)
    have hc2 := own_cap ho2
    have HB := Lib.hid (HB.out.trans (hb2.mono HB.out.size))
    clear ho2 hb2
    go_wp2_with fail
    refine (implTreeOk_any _ _ _ _ _ H2.out HLI.out hc2).mono ?_
    rintro e w3 ⟨rfl, hb3⟩
    have HB := Lib.hid (HB.out.trans (hb3.mono HB.out.size))
    clear hb3
    rw [HD.out]
    go_wp2
    go_ret
    exact ⟨Kit.ret_int (by rw [HID3.out]), HB.out⟩
  · have HD := Lib.hid (show Tr.ok (Oc.ins xs i a (Tr.cut xs i fN) (Tr.cut xs i (fN + zN))) = true by rw [hdp]; exact decide_eq_true (by simpa using c6))
    have HID3 := Lib.hid (show Oc.icode xs i (fN : Int) (zN : Int) = 0 by rw [HID2.out, if_neg c6])
    clear hdp c6 hb1 hb2 t2 e2 hFT hr
    have _u := d2
    go_enter Try.func132, Try.ntmps132
    go_wp2_with fail
    rw [← HW.out, ← HS.out]
    refine (implKidsOf_any _ _ _ xs _ _ Hz.out hn hnc).mono ?_
    rintro e w1 ⟨A1, c1, rfl, ho1, hb1⟩
    rw [← HKI.out]
    obtain ⟨x0, x1, x2, x3, x4, xb⟩ := c5_keep HX.out hb1
    have H1 := Lib.hid (Hz.out.to_below hb1)
    have HB := Lib.hid (HBz.out.trans (hb1.mono HBz.out.size))
    have HX := Lib.hid (show w1.cell? ⟨s, 0, none⟩ = some (.int .i64 k) ∧ w1.cell? ⟨s, 1, none⟩ = some (.slice P m q) ∧ w1.cell? ⟨s, 2, none⟩ = some (.int .i64 a) ∧ w1.cell? ⟨s, 3, none⟩ = some (.int .i64 (fN : Int)) ∧ w1.cell? ⟨s, 4, none⟩ = some (.int .i64 (zN : Int)) ∧ BelA wz w1 from ⟨x0, x1, x2, x3, x4, xb⟩)
    clear ho1 hb1 xb
    go_wp2_with (go_loud (go_at_call 78; refine (implInsert_any ad n c xs i k a P m q fN zN w1 H1.out hn hnc hok hi HR.out).mono ?_; rintro e w2 ⟨A2, c2, rfl, ho2, hb2⟩))
    have H2 := Lib.hid (NdIn.of_own ho2)
    have hc2 := own_cap ho2
    have HB := Lib.hid (HB.out.trans (hb2.mono HB.out.size))
    clear ho2 hb2
    go_wp2_with fail
    refine (implTreeOk_any _ _ _ _ _ H2.out HLI.out hc2).mono ?_
    rintro e w3 ⟨rfl, hb3⟩
    have HB := Lib.hid (HB.out.trans (hb3.mono HB.out.size))
    clear hb3
    rw [HD.out]
    go_wp2
    go_ret
    exact ⟨Kit.ret_int (by rw [HID3.out]), HB.out⟩

end Go.Proofs.Ytgkkeejhfofcaaa

/- Contracts (OcoI). -/
namespace Go.Proofs.Ytgkkeejhfofcaaa
open Go.RowKit
set_option linter.unusedVariables false

set_option maxHeartbeats 6400000 in
set_option maxRecDepth 100000 in
theorem implOpCode_any (ad : Addr) (n c : Nat) (xs : Tr) (x k a f z : Int) (p : List Int) (P : Option Addr) (m q : Nat) (w : World) (h : NdIn w w.heap.size (some ad) n xs) (hn : n ≤ 1048576) (hnc : n ≤ c) (hok : Tr.ok xs = true) (hx : x = -1 ∨ ∃ i : Nat, x = i ∧ i < n) :
    Calls Try.prog 74 #[.slice (some ad) n c, .int .i64 x, .agg #[.int .i64 k, .slice P m q, .int .i64 a, .int .i64 f, .int .i64 z]] w fun e w' => e = .returned (.int .i64 (Oc.code xs ⟨k, p, a, f, z⟩ x)) ∧ Below w.heap.size w w' := by
  have H := Lib.hid h
  clear h
  by_cases c0 : 1 ≤ k ∧ k ≤ 3
  rotate_left
  · have k1 : (k == 1) = false := by simp; omega
    have k2 : (k == 2) = false := by simp; omega
    have k3 : (k == 3) = false := by simp; omega
    have m1 : (k != 1) = true := by simp; omega
    have m2 : (k != 2) = true := by simp; omega
    have m3 : (k != 3) = true := by simp; omega
    have n1 : ¬ k = 1 := by omega
    have n2 : ¬ k = 2 := by omega
    have n3 : ¬ k = 3 := by omega
    have HF := Lib.hid (Oc.code1 (xs := xs) (o := ⟨k, p, a, f, z⟩) (x := x) c0)
    have hla : Lab.ok a = Lab.ok a := rfl
    clear c0
    go_enter Try.func74, Try.ntmps74
    go_wp2_with (go_at_call 130; refine (implLabelOk_any _ _).mono ?_; rintro e w' ⟨rfl, rfl⟩; rw [hla])
    go_ret
    exact ⟨Kit.ret_int (by rw [HF.out]), (Below.refl _ _).alloc (Nat.le_refl _) _⟩
  by_cases cx : x < 0
  · have HF := Lib.hid (Oc.code2 (xs := xs) (o := ⟨k, p, a, f, z⟩) (x := x) c0 cx)
    have dx : decide (x < 0) = true := decide_eq_true cx
    have hla : Lab.ok a = Lab.ok a := rfl
    rcases (show k = 1 ∨ k = 2 ∨ k = 3 by omega) with rfl | rfl | rfl
    · clear c0
      go_enter Try.func74, Try.ntmps74
      go_wp2_with (go_at_call 130; refine (implLabelOk_any _ _).mono ?_; rintro e w' ⟨rfl, rfl⟩; rw [hla])
      go_ret
      exact ⟨Kit.ret_int (by rw [HF.out]), (Below.refl _ _).alloc (Nat.le_refl _) _⟩
    · clear c0
      go_enter Try.func74, Try.ntmps74
      go_wp2_with (go_at_call 130; refine (implLabelOk_any _ _).mono ?_; rintro e w' ⟨rfl, rfl⟩; rw [hla])
      go_ret
      exact ⟨Kit.ret_int (by rw [HF.out]), (Below.refl _ _).alloc (Nat.le_refl _) _⟩
    · clear c0
      go_enter Try.func74, Try.ntmps74
      go_wp2_with (go_at_call 130; refine (implLabelOk_any _ _).mono ?_; rintro e w' ⟨rfl, rfl⟩; rw [hla])
      go_ret
      exact ⟨Kit.ret_int (by rw [HF.out]), (Below.refl _ _).alloc (Nat.le_refl _) _⟩
  obtain ⟨i, rfl, hi⟩ := hx.resolve_left (by omega)
  have dx : decide ((i : Int) < 0) = false := decide_eq_false cx
  rcases (show k = 1 ∨ k = 2 ∨ k = 3 by omega) with rfl | rfl | rfl
  · rcases hla : Lab.ok a with _ | _
    · have HF := Lib.hid (Oc.code3 (xs := xs) (o := ⟨1, p, a, f, z⟩) (x := i) c0 cx (show (1 : Int) ≠ 2 by decide) hla)
      clear c0 cx
      go_enter Try.func74, Try.ntmps74
      go_wp2_with (go_at_call 130; refine (implLabelOk_any _ _).mono ?_; rintro e w' ⟨rfl, rfl⟩; rw [hla])
      go_ret
      exact ⟨Kit.ret_int (by rw [HF.out]), (Below.refl _ _).alloc (Nat.le_refl _) _⟩
    · have HF := Lib.hid (Oc.code_rel (xs := xs) (o := ⟨1, p, a, f, z⟩) (x := i) rfl cx hla)
      clear c0 cx
      go_enter Try.func74, Try.ntmps74
      go_wp2_with (go_at_call 130; refine (implLabelOk_any _ _).mono ?_; rintro e w' ⟨rfl, rfl⟩; rw [hla])
      go_ret
      exact ⟨Kit.ret_int (by rw [HF.out]), (Below.refl _ _).alloc (Nat.le_refl _) _⟩
  · have HF := Lib.hid (Oc.code_del (xs := xs) (o := ⟨2, p, a, f, z⟩) (x := i) rfl cx)
    have hla : Lab.ok a = Lab.ok a := rfl
    rcases Nat.eq_zero_or_pos i with rfl | h0
    · have HF2 := Lib.hid (show Oc.code xs ⟨2, p, a, f, z⟩ (0 : Int) = 4 by rw [Oc.code_del rfl (by decide), if_pos rfl])
      clear c0 cx
      go_enter Try.func74, Try.ntmps74
      go_wp2_with (go_at_call 130; refine (implLabelOk_any _ _).mono ?_; rintro e w' ⟨rfl, rfl⟩; rw [hla])
      go_ret
      exact ⟨Kit.ret_int (by first | rw [HF2.out] | (rw [show ((0 : Nat) : Int) = 0 from rfl, HF2.out])), (Below.refl _ _).alloc (Nat.le_refl _) _⟩
    · have q0 : ((i : Int) == 0) = false := by simp; omega
      have q1 : (i == 0) = false := by simp; omega
      have HF2 := Lib.hid (show Oc.code xs ⟨2, p, a, f, z⟩ (i : Int) = 0 by rw [HF.out, if_neg (by omega)])
      clear c0 cx
      go_enter Try.func74, Try.ntmps74
      go_wp2_with (go_at_call 130; refine (implLabelOk_any _ _).mono ?_; rintro e w' ⟨rfl, rfl⟩; rw [hla])
      go_ret
      exact ⟨Kit.ret_int (by rw [HF2.out]), (Below.refl _ _).alloc (Nat.le_refl _) _⟩
  · rcases hla : Lab.ok a with _ | _
    · have HF := Lib.hid (Oc.code3 (xs := xs) (o := ⟨3, p, a, f, z⟩) (x := i) c0 cx (show (3 : Int) ≠ 2 by decide) hla)
      clear c0 cx
      go_enter Try.func74, Try.ntmps74
      go_wp2_with (go_at_call 130; refine (implLabelOk_any _ _).mono ?_; rintro e w' ⟨rfl, rfl⟩; rw [hla])
      go_ret
      exact ⟨Kit.ret_int (by rw [HF.out]), (Below.refl _ _).alloc (Nat.le_refl _) _⟩
    · have HF := Lib.hid (Oc.code_ins (xs := xs) (o := ⟨3, p, a, f, z⟩) (i := i) rfl hla)
      have HLA := Lib.hid hla
      obtain ⟨wz, hwz⟩ : ∃ wz, wz = w.alloc (.cells #[.int .i64 3, .slice P m q, .int .i64 a, .int .i64 f, .int .i64 z] 39) := ⟨_, rfl⟩
      obtain ⟨s, hs⟩ : ∃ s, s = w.heap.size := ⟨_, rfl⟩
      have HBz := Lib.hid (show Below w.heap.size w wz by rw [hwz]; exact (Below.refl _ _).alloc (Nat.le_refl _) _)
      have HX := Lib.hid (show wz.cell? ⟨s, 0, none⟩ = some (.int .i64 3) ∧ wz.cell? ⟨s, 1, none⟩ = some (.slice P m q) ∧ wz.cell? ⟨s, 2, none⟩ = some (.int .i64 a) ∧ wz.cell? ⟨s, 3, none⟩ = some (.int .i64 f) ∧ wz.cell? ⟨s, 4, none⟩ = some (.int .i64 z) ∧ BelA wz wz by rw [hwz, hs]; exact ⟨by simp, by simp, by simp, by simp, by simp, Below.refl _ _⟩)
      have HW := Lib.hid hwz
      have HS := Lib.hid hs
      have Hz := Lib.hid (H.out.to_below HBz.out)
      clear hwz hs
      clear c0 cx
      go_enter Try.func74, Try.ntmps74
      go_wp2_with (go_at_call 130; refine (implLabelOk_any _ _).mono ?_; rintro e w' ⟨rfl, rfl⟩; rw [hla])
      rw [← HW.out]
      refine (implInsertCode_any ad n c xs i 3 a f z P m q _ Hz.out hn hnc hok hi HLA.out).mono ?_
      rintro e w1 ⟨rfl, hb1⟩
      have HB := Lib.hid (HBz.out.trans (hb1.mono HBz.out.size))
      clear hb1
      go_wp2
      go_ret
      exact ⟨Kit.ret_int (by rw [HF.out]), HB.out⟩

end Go.Proofs.Ytgkkeejhfofcaaa

/- Contracts (NatI). -/
namespace Go.Proofs.Ytgkkeejhfofcaaa
open Go.RowKit
set_option linter.unusedVariables false

set_option maxHeartbeats 800000 in
set_option maxRecDepth 100000 in
theorem implNodeAt_any (A A' : Option Addr) (n c n' c' : Nat) (xs : Tr) (p : List Int) (w : World) (h : NdIn w w.heap.size A n xs) (h' : IntIn w w.heap.size A' n' p) (hn : n ≤ 1048576) (hn' : n' ≤ 1048576) (hnc : n ≤ c) :
    Calls Try.prog 73 #[.slice A n c, .slice A' n' c'] w fun e w' => e = .returned (.int .i64 (Tr.nodeAt xs p)) ∧ Below w.heap.size w w' := by
  have H := Lib.hid h
  have I := Lib.hid h'
  clear h h'
  have HL := Lib.hid H.out.1
  have IL := Lib.hid I.out.1
  rcases hok : Tr.ok xs with _ | _
  · have Hf := Lib.hid (show Tr.nodeAt xs p = -1 by unfold Tr.nodeAt; rw [hok]; rfl)
    have Hok := Lib.hid hok
    clear hok
    go_enter Try.func73, Try.ntmps73
    go_wp2_with fail
    refine (implTreeOk_any _ _ _ xs _ H.out hn hnc).mono ?_
    rintro e w1 ⟨rfl, hd1⟩
    have HB := Lib.hid (show Below w.heap.size w w1 from hd1)
    clear hd1
    rw [Hok.out]
    go_wp2
    go_ret
    exact ⟨Kit.ret_int Hf.out.symm, HB.out⟩
  · have Hf := Lib.hid (show Tr.nodeAt xs p = Tr.walk xs 0 p by unfold Tr.nodeAt; rw [if_pos hok])
    have HS := Lib.hid (fun (i k : Nat) (hi : i < xs.length) (hk : k < p.length) => Tr.walk_step (p := p) hok hi hk)
    have n1 := Tr.len24 hok
    have HK := Lib.hid (fun i : Int => Tr.kidsI_len xs i)
    have Hok := Lib.hid hok
    clear hok
    go_enter Try.func73, Try.ntmps73
    go_wp2_with fail
    refine (implTreeOk_any _ _ _ xs _ H.out hn hnc).mono ?_
    rintro e w1 ⟨rfl, hd1⟩
    have HB := Lib.hid (show Below w.heap.size w w1 from hd1)
    clear hd1
    rw [Hok.out]
    go_wp2
    go_loopw [5, 14] (fun iv kv wr => ∃ i k : Nat, i < xs.length ∧ k ≤ n' ∧ iv = .int .i64 i ∧ kv = .int .i64 k ∧ Tr.walk xs 0 p = Tr.walk xs i (p.drop k) ∧ Below w.heap.size w wr) (fun _ k _ => n' - (intOf k).toNat)
    case atStart => exact ⟨0, 0, by omega, by omega, by go_num, by go_num, rfl, HB.out⟩
    case round =>
      obtain ⟨i, k, hi, hk, rfl, rfl, hwalk, hB⟩ := hrel
      have HW := Lib.hid hwalk
      have HB := Lib.hid hB
      have Hz := Lib.hid (H.out.to_below hB)
      have Iz := Lib.hid (I.out.to_below hB)
      clear hwalk hB
      by_cases hlt : k < n'
      · have hs := HS.out i k hi (by rw [IL.out]; exact hlt)
        obtain ⟨ad, rfl, _, c1⟩ := Iz.out.at_ hlt
        have k0 : (0 : Int) ≤ (k : Int) := by omega
        have k1 : (k : Int) < (n' : Int) := by omega
        have hkl := HK.out (i : Int)
        obtain ⟨x, hx⟩ : ∃ x, x = Zs.at p k := ⟨_, rfl⟩
        rw [← hx] at c1 hs
        have Hs := Lib.hid hs
        clear hs hx
        go_wp2_with fail
        refine (implKidsOf_any _ _ _ xs _ _ Hz.out hn hnc).mono ?_
        rintro e w2 ⟨A2, c2, rfl, ho2, hb2⟩
        have HB2 := Lib.hid (HB.out.trans (hb2.mono HB.out.size))
        have c1 := (hb2.cell (World.block_lt_of_cell? _ _ c1)).trans c1
        obtain ⟨m, hm⟩ : ∃ m, m = (Tr.kidsI xs (i : Int)).length := ⟨_, rfl⟩
        rw [← hm] at ho2 hkl ⊢
        have I2 := Lib.hid (IntIn.of_own ho2)
        have Hm := Lib.hid hm
        clear ho2 hb2 hm
        by_cases h0 : x < 0
        · have hs := Hs.out
          rw [← Hm.out, if_neg (by omega)] at hs
          have HW2 := Lib.hid (HW.out.trans hs)
          have q : decide (x < 0) = true := decide_eq_true h0
          clear hs h0
          go_wp2
          go_ret
          exact ⟨Kit.ret_int (by rw [Hf.out, HW2.out]), HB2.out⟩
        · have q : decide (x < 0) = false := decide_eq_false h0
          obtain ⟨y, rfl⟩ := Int.eq_ofNat_of_zero_le (show 0 ≤ x by omega)
          clear h0
          by_cases hy : y < m
          · have hs := Hs.out
            rw [← Hm.out, if_pos (by omega)] at hs
            obtain ⟨j, hj, hat, hw2⟩ := hs
            obtain ⟨ad2, rfl, _, c2⟩ := I2.out.at_ hy
            rw [show ((y : Int)).toNat = y by omega] at hat
            rw [hat] at c2
            have y0 : (0 : Int) ≤ (y : Int) := by omega
            have y1 : (y : Int) < (m : Int) := by omega
            have y2 : decide ((m : Int) ≤ (y : Int)) = false := by simp; omega
            have y3 : decide (m ≤ y) = false := by simp; omega
            have HW2 := Lib.hid (HW.out.trans hw2)
            clear hat hw2
            go_wp2
            go_roundw
            case rel => exact ⟨j, k + 1, hj, by omega, by go_num, by go_num, HW2.out, HB2.out⟩
            case measure => simp [intOf]; omega
          · have hs := Hs.out
            rw [← Hm.out, if_neg (by omega)] at hs
            have y2 : decide ((m : Int) ≤ (y : Int)) = true := by simp; omega
            have y3 : decide (m ≤ y) = true := by simp; omega
            have HW2 := Lib.hid (HW.out.trans hs)
            clear hs
            go_wp2
            go_ret
            exact ⟨Kit.ret_int (by rw [Hf.out, HW2.out]), HB2.out⟩
      · obtain rfl : k = n' := by omega
        have HW2 := Lib.hid (show Tr.walk xs 0 p = (i : Int) by rw [HW.out, List.drop_eq_nil_of_le (by rw [IL.out]; exact Nat.le_refl _)]; rfl)
        go_wp2
        go_ret
        exact ⟨Kit.ret_int (by rw [Hf.out, HW2.out]), HB.out⟩

end Go.Proofs.Ytgkkeejhfofcaaa

/- Contracts (ResC). -/
namespace Go.Proofs.Ytgkkeejhfofcaaa
open Go.RowKit
set_option linter.unusedVariables false

/-- the answer is a row of nodes of the call's own and a code -/
def OwnNdC (E : TypeId) (r : Tr × Int) (w : World) (e : Ending) (w' : World) : Prop :=
  ∃ A c, e = .returned (.tuple #[.slice A r.1.length c, .int .i64 r.2]) ∧ w'.ownsRow w.heap.size E 2 (.slice A r.1.length c) r.1.length (Tr.cells r.1) ∧ Below w.heap.size w w'

end Go.Proofs.Ytgkkeejhfofcaaa
