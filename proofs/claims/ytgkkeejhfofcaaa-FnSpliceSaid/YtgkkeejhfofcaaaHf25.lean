/- Texts of one claim laid into one file, in build order: AplI, OcF. -/
import Derived.Test.YtgkkeejhfofcaaaHf20
import Derived.Test.YtgkkeejhfofcaaaHf24
/- Contracts (AplI). -/
namespace Go.Proofs.Ytgkkeejhfofcaaa
open Go.RowKit
set_option linter.unusedVariables false

set_option maxHeartbeats 6400000 in
set_option maxRecDepth 100000 in
theorem implApplyOp_any (A : Option Addr) (n c : Nat) (xs : Tr) (k a f z : Int) (p : List Int) (P : Option Addr) (m q : Nat) (w : World) (h : NdIn w w.heap.size A n xs) (h' : IntIn w w.heap.size P m p) (hn : n ≤ 1048576) (hm : m ≤ 1048576) (hnc : n ≤ c) :
    Calls Try.prog 21 #[.slice A n c, .agg #[.int .i64 k, .slice P m q, .int .i64 a, .int .i64 f, .int .i64 z]] w (OwnNdC 47 (Oc.apply xs ⟨k, p, a, f, z⟩) w) := by
  have H := Lib.hid h
  have I := Lib.hid h'
  clear h h'
  have HL := Lib.hid H.out.1
  rcases hok : Tr.ok xs with _ | _
  · have HR := Lib.hid (Oc.apply_no (o := ⟨k, p, a, f, z⟩) hok)
    have Hok := Lib.hid hok
    clear hok
    obtain ⟨wz, hwz⟩ : ∃ wz, wz = w.alloc (.cells #[.int .i64 k, .slice P m q, .int .i64 a, .int .i64 f, .int .i64 z] 39) := ⟨_, rfl⟩
    obtain ⟨s, hs⟩ : ∃ s, s = w.heap.size := ⟨_, rfl⟩
    have HBz := Lib.hid (show Below w.heap.size w wz by rw [hwz]; exact (Below.refl _ _).alloc (Nat.le_refl _) _)
    have HX := Lib.hid (show wz.cell? ⟨s, 0, none⟩ = some (.int .i64 k) ∧ wz.cell? ⟨s, 1, none⟩ = some (.slice P m q) ∧ wz.cell? ⟨s, 2, none⟩ = some (.int .i64 a) ∧ wz.cell? ⟨s, 3, none⟩ = some (.int .i64 f) ∧ wz.cell? ⟨s, 4, none⟩ = some (.int .i64 z) ∧ BelA wz wz by rw [hwz, hs]; exact ⟨by simp, by simp, by simp, by simp, by simp, Below.refl _ _⟩)
    have HW := Lib.hid hwz
    have HS := Lib.hid hs
    have Hz := Lib.hid (H.out.to_below HBz.out)
    clear hwz hs
    go_enter Try.func21, Try.ntmps21
    go_wp2_with fail
    rw [← HW.out]
    refine (implTreeOk_any _ _ _ xs _ Hz.out hn hnc).mono ?_
    rintro e w1 ⟨rfl, hb1⟩
    have HB1 := Lib.hid (HBz.out.trans (hb1.mono HBz.out.size))
    clear hb1
    rw [Hok.out]
    go_wp2
    go_ret2
    exact ⟨none, 0, by rw [HR.out]; rfl, by rw [HR.out]; exact own_nil, HB1.out⟩
  have n24 := Tr.len24 hok
  rw [HL.out] at n24
  obtain ⟨ad, rfl, _⟩ := H.out.2.1 (by omega)
  obtain ⟨X, hX⟩ : ∃ X, X = Tr.nodeAt xs p := ⟨_, rfl⟩
  have HXX := Lib.hid (show X = -1 ∨ ∃ i : Nat, X = i ∧ i < n from by
    rw [hX]
    unfold Tr.nodeAt
    rw [if_pos hok]
    rcases Tr.walk_range hok p 0 (by rw [HL.out]; omega) with e | ⟨r, e, _, hr⟩
    · exact .inl e
    · exact .inr ⟨r, e, by rw [HL.out] at hr; exact hr⟩)
  have HXE := Lib.hid hX.symm
  obtain ⟨cc, hcc⟩ : ∃ cc, cc = Oc.code xs ⟨k, p, a, f, z⟩ X := ⟨_, rfl⟩
  have HCC := Lib.hid hcc.symm
  have Hok := Lib.hid hok
  by_cases c0 : cc = 0
  rotate_left
  · have q0 : (cc == 0) = false := by simpa using c0
    have q1 : ¬ cc = 0 := c0
    have q2 : (cc != 0) = true := by simpa using c0
    have HR := Lib.hid (show Oc.apply xs ⟨k, p, a, f, z⟩ = (xs, cc) by rw [hcc, hX]; exact Oc.apply_fail hok (by rw [← hX, ← hcc]; exact c0))
    clear hcc hX hok c0
    obtain ⟨wz, hwz⟩ : ∃ wz, wz = w.alloc (.cells #[.int .i64 k, .slice P m q, .int .i64 a, .int .i64 f, .int .i64 z] 39) := ⟨_, rfl⟩
    obtain ⟨s, hs⟩ : ∃ s, s = w.heap.size := ⟨_, rfl⟩
    have HBz := Lib.hid (show Below w.heap.size w wz by rw [hwz]; exact (Below.refl _ _).alloc (Nat.le_refl _) _)
    have HX := Lib.hid (show wz.cell? ⟨s, 0, none⟩ = some (.int .i64 k) ∧ wz.cell? ⟨s, 1, none⟩ = some (.slice P m q) ∧ wz.cell? ⟨s, 2, none⟩ = some (.int .i64 a) ∧ wz.cell? ⟨s, 3, none⟩ = some (.int .i64 f) ∧ wz.cell? ⟨s, 4, none⟩ = some (.int .i64 z) ∧ BelA wz wz by rw [hwz, hs]; exact ⟨by simp, by simp, by simp, by simp, by simp, Below.refl _ _⟩)
    have HW := Lib.hid hwz
    have HS := Lib.hid hs
    have Hz := Lib.hid (H.out.to_below HBz.out)
    clear hwz hs
    have Iz := Lib.hid (I.out.to_below HBz.out)
    go_enter Try.func21, Try.ntmps21
    go_wp2_with fail
    rw [← HW.out]
    refine (implTreeOk_any _ _ _ xs _ Hz.out hn hnc).mono ?_
    rintro e w1 ⟨rfl, hb1⟩
    have HX1 := Lib.hid (c5_keep HX.out hb1)
    have H1 := Lib.hid (Hz.out.to_below hb1)
    have I1 := Lib.hid (Iz.out.to_below hb1)
    have HB1 := Lib.hid (HBz.out.trans (hb1.mono HBz.out.size))
    clear hb1
    rw [Hok.out, ← HS.out]
    obtain ⟨x0, x1, x2, x3, x4, -⟩ := HX1.out
    go_wp2_with fail
    refine (implNodeAt_any (some ad) P n c m q xs p _ H1.out I1.out hn hm hnc).mono ?_
    rintro e w2 ⟨rfl, hb2⟩
    clear x0 x1 x2 x3 x4
    have HX2 := Lib.hid (c5_keep HX1.out hb2)
    have H2 := Lib.hid (H1.out.to_below hb2)
    have HB2 := Lib.hid (HB1.out.trans (hb2.mono HB1.out.size))
    clear hb2
    obtain ⟨x0, x1, x2, x3, x4, -⟩ := HX2.out
    have OC := Lib.hid (implOpCode_any ad n c xs X k a f z p P m q w2 H2.out hn hnc Hok.out HXX.out)
    rw [HXE.out]
    go_wp2_with fail
    refine OC.out.mono ?_
    rintro e w3 ⟨rfl, hb3⟩
    rw [HCC.out]
    clear x0 x1 x2 x3 x4 OC
    have HX3 := Lib.hid (c5_keep HX2.out hb3)
    have H3 := Lib.hid (H2.out.to_below hb3)
    have HB3 := Lib.hid (HB2.out.trans (hb3.mono HB2.out.size))
    have hs3 := HB3.out.size
    clear hb3
    go_wp2_with (go_loud (go_at_call 75; refine (cloneNode_any _ _ _ xs _ H3.out hn).mono ?_; rintro e w4 ⟨A4, c4, rfl, ho4, hb4⟩))
    have HB4 := Lib.hid (HB3.out.trans (hb4.mono hs3))
    have HO4 := Lib.hid (own_base ho4 hs3)
    clear hb4 ho4
    go_wp2
    go_ret2
    exact ⟨A4, c4, by rw [HR.out]; rfl, by rw [HR.out]; exact HO4.out, HB4.out⟩
  have hc0 : Oc.code xs ⟨k, p, a, f, z⟩ (Tr.nodeAt xs p) = 0 := by rw [← hX, ← hcc]; exact c0
  have HR0 := Lib.hid (Oc.apply_done hok hc0)
  obtain ⟨i, hix, hip, hk⟩ := Oc.right hok hc0
  have hi : i < n := by rw [← HL.out]; exact hix
  have HCC := Lib.hid (show Oc.code xs ⟨k, p, a, f, z⟩ X = 0 by rw [HCC.out]; exact c0)
  have HXE := Lib.hid (show Tr.nodeAt xs p = (i : Int) from hip)
  have HXX := Lib.hid (show (i : Int) = -1 ∨ ∃ j : Nat, (i : Int) = j ∧ j < n from .inr ⟨i, rfl, hi⟩)
  have HCC := Lib.hid (show Oc.code xs ⟨k, p, a, f, z⟩ (i : Int) = 0 by have := HCC.out; rw [hX, hip] at this; exact this)
  clear hcc hX hok c0 hip hc0
  rcases hk with ⟨e, ha⟩ | ⟨e, h0⟩ | ⟨e, ha, hf, hz, hr, hrest⟩
  · dsimp only at e
    subst e
    have HR := Lib.hid (show Oc.apply xs ⟨1, p, a, f, z⟩ = (Oc.rel xs i a, 0) by rw [HR0.out]; unfold Oc.new; dsimp only; rw [if_pos rfl]; show (Oc.rel xs (Tr.nodeAt xs p).toNat a, (0 : Int)) = _; rw [HXE.out, Int.toNat_natCast])
    clear HR0 ha
    obtain ⟨wz, hwz⟩ : ∃ wz, wz = w.alloc (.cells #[.int .i64 1, .slice P m q, .int .i64 a, .int .i64 f, .int .i64 z] 39) := ⟨_, rfl⟩
    obtain ⟨s, hs⟩ : ∃ s, s = w.heap.size := ⟨_, rfl⟩
    have HBz := Lib.hid (show Below w.heap.size w wz by rw [hwz]; exact (Below.refl _ _).alloc (Nat.le_refl _) _)
    have HX := Lib.hid (show wz.cell? ⟨s, 0, none⟩ = some (.int .i64 1) ∧ wz.cell? ⟨s, 1, none⟩ = some (.slice P m q) ∧ wz.cell? ⟨s, 2, none⟩ = some (.int .i64 a) ∧ wz.cell? ⟨s, 3, none⟩ = some (.int .i64 f) ∧ wz.cell? ⟨s, 4, none⟩ = some (.int .i64 z) ∧ BelA wz wz by rw [hwz, hs]; exact ⟨by simp, by simp, by simp, by simp, by simp, Below.refl _ _⟩)
    have HW := Lib.hid hwz
    have HS := Lib.hid hs
    have Hz := Lib.hid (H.out.to_below HBz.out)
    clear hwz hs
    have Iz := Lib.hid (I.out.to_below HBz.out)
    go_enter Try.func21, Try.ntmps21
    go_wp2_with fail
    rw [← HW.out]
    refine (implTreeOk_any _ _ _ xs _ Hz.out hn hnc).mono ?_
    rintro e w1 ⟨rfl, hb1⟩
    have HX1 := Lib.hid (c5_keep HX.out hb1)
    have H1 := Lib.hid (Hz.out.to_below hb1)
    have I1 := Lib.hid (Iz.out.to_below hb1)
    have HB1 := Lib.hid (HBz.out.trans (hb1.mono HBz.out.size))
    clear hb1
    rw [Hok.out, ← HS.out]
    obtain ⟨x0, x1, x2, x3, x4, -⟩ := HX1.out
    go_wp2_with fail
    refine (implNodeAt_any (some ad) P n c m q xs p _ H1.out I1.out hn hm hnc).mono ?_
    rintro e w2 ⟨rfl, hb2⟩
    clear x0 x1 x2 x3 x4
    have HX2 := Lib.hid (c5_keep HX1.out hb2)
    have H2 := Lib.hid (H1.out.to_below hb2)
    have HB2 := Lib.hid (HB1.out.trans (hb2.mono HB1.out.size))
    clear hb2
    obtain ⟨x0, x1, x2, x3, x4, -⟩ := HX2.out
    have OC := Lib.hid (implOpCode_any ad n c xs (i : Int) 1 a f z p P m q w2 H2.out hn hnc Hok.out HXX.out)
    rw [HXE.out]
    go_wp2_with fail
    refine OC.out.mono ?_
    rintro e w3 ⟨rfl, hb3⟩
    rw [HCC.out]
    clear x0 x1 x2 x3 x4 OC
    have HX3 := Lib.hid (c5_keep HX2.out hb3)
    have H3 := Lib.hid (H2.out.to_below hb3)
    have HB3 := Lib.hid (HB2.out.trans (hb3.mono HB2.out.size))
    have hs3 := HB3.out.size
    clear hb3
    obtain ⟨x0, x1, x2, x3, x4, -⟩ := HX3.out
    go_wp2_with (go_loud (go_at_call 76; refine (implRelabel_any ad n c xs i a _ H3.out hn hi).mono ?_; rintro e w4 ⟨A4, c4, rfl, ho4, hb4⟩))
    have HB4 := Lib.hid (HB3.out.trans (hb4.mono hs3))
    have HO4 := Lib.hid (own_base ho4 hs3)
    clear hb4 ho4 x0 x1 x2 x3 x4
    go_wp2
    go_ret2
    exact ⟨A4, c4, by rw [HR.out]; rfl, by rw [HR.out]; exact HO4.out, HB4.out⟩
  · dsimp only at e
    subst e
    have HR := Lib.hid (show Oc.apply xs ⟨2, p, a, f, z⟩ = (Oc.del xs i, 0) by rw [HR0.out]; unfold Oc.new; dsimp only; rw [if_neg (by decide), if_pos rfl]; show (Oc.del xs (Tr.nodeAt xs p).toNat, (0 : Int)) = _; rw [HXE.out, Int.toNat_natCast])
    clear HR0
    obtain ⟨wz, hwz⟩ : ∃ wz, wz = w.alloc (.cells #[.int .i64 2, .slice P m q, .int .i64 a, .int .i64 f, .int .i64 z] 39) := ⟨_, rfl⟩
    obtain ⟨s, hs⟩ : ∃ s, s = w.heap.size := ⟨_, rfl⟩
    have HBz := Lib.hid (show Below w.heap.size w wz by rw [hwz]; exact (Below.refl _ _).alloc (Nat.le_refl _) _)
    have HX := Lib.hid (show wz.cell? ⟨s, 0, none⟩ = some (.int .i64 2) ∧ wz.cell? ⟨s, 1, none⟩ = some (.slice P m q) ∧ wz.cell? ⟨s, 2, none⟩ = some (.int .i64 a) ∧ wz.cell? ⟨s, 3, none⟩ = some (.int .i64 f) ∧ wz.cell? ⟨s, 4, none⟩ = some (.int .i64 z) ∧ BelA wz wz by rw [hwz, hs]; exact ⟨by simp, by simp, by simp, by simp, by simp, Below.refl _ _⟩)
    have HW := Lib.hid hwz
    have HS := Lib.hid hs
    have Hz := Lib.hid (H.out.to_below HBz.out)
    clear hwz hs
    have Iz := Lib.hid (I.out.to_below HBz.out)
    go_enter Try.func21, Try.ntmps21
    go_wp2_with fail
    rw [← HW.out]
    refine (implTreeOk_any _ _ _ xs _ Hz.out hn hnc).mono ?_
    rintro e w1 ⟨rfl, hb1⟩
    have HX1 := Lib.hid (c5_keep HX.out hb1)
    have H1 := Lib.hid (Hz.out.to_below hb1)
    have I1 := Lib.hid (Iz.out.to_below hb1)
    have HB1 := Lib.hid (HBz.out.trans (hb1.mono HBz.out.size))
    clear hb1
    rw [Hok.out, ← HS.out]
    obtain ⟨x0, x1, x2, x3, x4, -⟩ := HX1.out
    go_wp2_with fail
    refine (implNodeAt_any (some ad) P n c m q xs p _ H1.out I1.out hn hm hnc).mono ?_
    rintro e w2 ⟨rfl, hb2⟩
    clear x0 x1 x2 x3 x4
    have HX2 := Lib.hid (c5_keep HX1.out hb2)
    have H2 := Lib.hid (H1.out.to_below hb2)
    have HB2 := Lib.hid (HB1.out.trans (hb2.mono HB1.out.size))
    clear hb2
    obtain ⟨x0, x1, x2, x3, x4, -⟩ := HX2.out
    have OC := Lib.hid (implOpCode_any ad n c xs (i : Int) 2 a f z p P m q w2 H2.out hn hnc Hok.out HXX.out)
    rw [HXE.out]
    go_wp2_with fail
    refine OC.out.mono ?_
    rintro e w3 ⟨rfl, hb3⟩
    rw [HCC.out]
    clear x0 x1 x2 x3 x4 OC
    have HX3 := Lib.hid (c5_keep HX2.out hb3)
    have H3 := Lib.hid (H2.out.to_below hb3)
    have HB3 := Lib.hid (HB2.out.trans (hb3.mono HB2.out.size))
    have hs3 := HB3.out.size
    clear hb3
    obtain ⟨x0, x1, x2, x3, x4, -⟩ := HX3.out
    go_wp2_with (go_loud (go_at_call 77; refine (implRemove_any ad n c xs i _ H3.out hn hnc Hok.out hi h0).mono ?_; rintro e w4 ⟨A4, c4, rfl, ho4, hb4⟩))
    have HB4 := Lib.hid (HB3.out.trans (hb4.mono hs3))
    have HO4 := Lib.hid (own_base ho4 hs3)
    clear hb4 ho4 x0 x1 x2 x3 x4
    go_wp2
    go_ret2
    exact ⟨A4, c4, by rw [HR.out]; rfl, by rw [HR.out]; exact HO4.out, HB4.out⟩
  · dsimp only at e hf hz hr
    subst e
    obtain ⟨fN, rfl⟩ := Int.eq_ofNat_of_zero_le hf
    obtain ⟨zN, rfl⟩ := Int.eq_ofNat_of_zero_le hz
    rw [Int.toNat_natCast, Int.toNat_natCast] at hr
    have HR := Lib.hid (show Oc.apply xs ⟨3, p, a, (fN : Int), (zN : Int)⟩ = (Oc.ins xs i a (Tr.cut xs i fN) (Tr.cut xs i (fN + zN)), 0) by rw [HR0.out]; unfold Oc.new; dsimp only; rw [if_neg (by decide), if_neg (by decide)]; rw [HXE.out, Int.toNat_natCast, Int.toNat_natCast, Int.toNat_natCast])
    have HRR := Lib.hid hr
    clear HR0 ha hf hz hr hrest
    obtain ⟨wz, hwz⟩ : ∃ wz, wz = w.alloc (.cells #[.int .i64 3, .slice P m q, .int .i64 a, .int .i64 (fN : Int), .int .i64 (zN : Int)] 39) := ⟨_, rfl⟩
    obtain ⟨s, hs⟩ : ∃ s, s = w.heap.size := ⟨_, rfl⟩
    have HBz := Lib.hid (show Below w.heap.size w wz by rw [hwz]; exact (Below.refl _ _).alloc (Nat.le_refl _) _)
    have HX := Lib.hid (show wz.cell? ⟨s, 0, none⟩ = some (.int .i64 3) ∧ wz.cell? ⟨s, 1, none⟩ = some (.slice P m q) ∧ wz.cell? ⟨s, 2, none⟩ = some (.int .i64 a) ∧ wz.cell? ⟨s, 3, none⟩ = some (.int .i64 (fN : Int)) ∧ wz.cell? ⟨s, 4, none⟩ = some (.int .i64 (zN : Int)) ∧ BelA wz wz by rw [hwz, hs]; exact ⟨by simp, by simp, by simp, by simp, by simp, Below.refl _ _⟩)
    have HW := Lib.hid hwz
    have HS := Lib.hid hs
    have Hz := Lib.hid (H.out.to_below HBz.out)
    clear hwz hs
    have Iz := Lib.hid (I.out.to_below HBz.out)
    go_enter Try.func21, Try.ntmps21
    go_wp2_with fail
    rw [← HW.out]
    refine (implTreeOk_any _ _ _ xs _ Hz.out hn hnc).mono ?_
    rintro e w1 ⟨rfl, hb1⟩
    have HX1 := Lib.hid (c5_keep HX.out hb1)
    have H1 := Lib.hid (Hz.out.to_below hb1)
    have I1 := Lib.hid (Iz.out.to_below hb1)
    have HB1 := Lib.hid (HBz.out.trans (hb1.mono HBz.out.size))
    clear hb1
    rw [Hok.out, ← HS.out]
    obtain ⟨x0, x1, x2, x3, x4, -⟩ := HX1.out
    go_wp2_with fail
    refine (implNodeAt_any (some ad) P n c m q xs p _ H1.out I1.out hn hm hnc).mono ?_
    rintro e w2 ⟨rfl, hb2⟩
    clear x0 x1 x2 x3 x4
    have HX2 := Lib.hid (c5_keep HX1.out hb2)
    have H2 := Lib.hid (H1.out.to_below hb2)
    have HB2 := Lib.hid (HB1.out.trans (hb2.mono HB1.out.size))
    clear hb2
    obtain ⟨x0, x1, x2, x3, x4, -⟩ := HX2.out
    have OC := Lib.hid (implOpCode_any ad n c xs (i : Int) 3 a (fN : Int) (zN : Int) p P m q w2 H2.out hn hnc Hok.out HXX.out)
    rw [HXE.out]
    go_wp2_with fail
    refine OC.out.mono ?_
    rintro e w3 ⟨rfl, hb3⟩
    rw [HCC.out]
    clear x0 x1 x2 x3 x4 OC
    have HX3 := Lib.hid (c5_keep HX2.out hb3)
    have H3 := Lib.hid (H2.out.to_below hb3)
    have HB3 := Lib.hid (HB2.out.trans (hb3.mono HB2.out.size))
    have hs3 := HB3.out.size
    clear hb3
    obtain ⟨x0, x1, x2, x3, x4, -⟩ := HX3.out
    go_wp2_with (go_loud (go_at_call 78; refine (implInsert_any ad n c xs i 3 a P m q fN zN _ H3.out hn hnc Hok.out hi HRR.out).mono ?_; rintro e w4 ⟨A4, c4, rfl, ho4, hb4⟩))
    have HB4 := Lib.hid (HB3.out.trans (hb4.mono hs3))
    have HO4 := Lib.hid (own_base ho4 hs3)
    clear hb4 ho4 x0 x1 x2 x3 x4
    go_wp2
    go_ret2
    exact ⟨A4, c4, by rw [HR.out]; rfl, by rw [HR.out]; exact HO4.out, HB4.out⟩

end Go.Proofs.Ytgkkeejhfofcaaa

/- Contracts (OcF). -/
namespace Go.Proofs.Ytgkkeejhfofcaaa
open Go.RowKit
set_option linter.unusedVariables false

/-- from which node an insertion adopts, and up to which; 0 where nothing is put in -/
def Oc.fromN (xs : Tr) (o : Opr) (x : Int) : Int := if Oc.code xs o x = 0 ∧ o.k = 3 then ((Tr.cut xs x.toNat o.f.toNat : Nat) : Int) else 0
def Oc.toN (xs : Tr) (o : Opr) (x : Int) : Int := if Oc.code xs o x = 0 ∧ o.k = 3 then ((Tr.cut xs x.toNat (o.f.toNat + o.c.toNat) : Nat) : Int) else 0
theorem Oc.ft_code {xs : Tr} {o : Opr} {x : Int} (h : Oc.code xs o x ≠ 0) : Oc.fromN xs o x = 0 ∧ Oc.toN xs o x = 0 := by unfold Oc.fromN Oc.toN; rw [if_neg (fun e => h e.1), if_neg (fun e => h e.1)]; exact ⟨rfl, rfl⟩
theorem Oc.ft_kind {xs : Tr} {o : Opr} {x : Int} (h : o.k ≠ 3) : Oc.fromN xs o x = 0 ∧ Oc.toN xs o x = 0 := by unfold Oc.fromN Oc.toN; rw [if_neg (fun e => h e.2), if_neg (fun e => h e.2)]; exact ⟨rfl, rfl⟩
theorem Oc.ft_ins {xs : Tr} {o : Opr} {i : Nat} (h : Oc.code xs o (i : Int) = 0) (h3 : o.k = 3) : Oc.fromN xs o (i : Int) = ((Tr.cut xs i o.f.toNat : Nat) : Int) ∧ Oc.toN xs o (i : Int) = ((Tr.cut xs i (o.f.toNat + o.c.toNat) : Nat) : Int) := by unfold Oc.fromN Oc.toN; rw [if_pos ⟨h, h3⟩, if_pos ⟨h, h3⟩, Int.toNat_natCast]; exact ⟨rfl, rfl⟩

end Go.Proofs.Ytgkkeejhfofcaaa
