/- Texts of one claim laid into one file, in build order: AplI, ToIS, SzC, IntE, IntH. -/
import Derived.Test.YtofpcedpmbecgaaHe1
import Derived.Test.YtofpcedpmbecgaaHe19
import Derived.Test.YtofpcedpmbecgaaHe21
import Derived.Test.YtofpcedpmbecgaaHe3
import Derived.Test.YtofpcedpmbecgaaHe8
import Derived.Below
import Derived.Outline
import Derived.Test.YtofpcedpmbecgaaRows
/- Contracts (AplI). -/
namespace Go.Proofs.Ytofpcedpmbecgaa
open Go.RowKit
set_option linter.unusedVariables false

set_option maxHeartbeats 6400000 in
set_option maxRecDepth 100000 in
theorem implApplyOp_any (A : Option Addr) (n c : Nat) (xs : Tr) (k a f z : Int) (p : List Int) (P : Option Addr) (m q : Nat) (w : World) (h : NdIn w w.heap.size A n xs) (h' : IntIn w w.heap.size P m p) (hn : n ≤ 1048576) (hm : m ≤ 1048576) (hnc : n ≤ c) :
    Calls Try.prog 22 #[.slice A n c, .agg #[.int .i64 k, .slice P m q, .int .i64 a, .int .i64 f, .int .i64 z]] w (OwnNdC 40 (Oc.apply xs ⟨k, p, a, f, z⟩) w) := by
  have H := Lib.hid h
  have I := Lib.hid h'
  clear h h'
  have HL := Lib.hid H.out.1
  rcases hok : Tr.ok xs with _ | _
  · have HR := Lib.hid (Oc.apply_no (o := ⟨k, p, a, f, z⟩) hok)
    have Hok := Lib.hid hok
    clear hok
    obtain ⟨wz, hwz⟩ : ∃ wz, wz = w.alloc (.cells #[.int .i64 k, .slice P m q, .int .i64 a, .int .i64 f, .int .i64 z] 33) := ⟨_, rfl⟩
    obtain ⟨s, hs⟩ : ∃ s, s = w.heap.size := ⟨_, rfl⟩
    have HBz := Lib.hid (show Below w.heap.size w wz by rw [hwz]; exact (Below.refl _ _).alloc (Nat.le_refl _) _)
    have HX := Lib.hid (show wz.cell? ⟨s, 0, none⟩ = some (.int .i64 k) ∧ wz.cell? ⟨s, 1, none⟩ = some (.slice P m q) ∧ wz.cell? ⟨s, 2, none⟩ = some (.int .i64 a) ∧ wz.cell? ⟨s, 3, none⟩ = some (.int .i64 f) ∧ wz.cell? ⟨s, 4, none⟩ = some (.int .i64 z) ∧ BelA wz wz by rw [hwz, hs]; exact ⟨by simp, by simp, by simp, by simp, by simp, Below.refl _ _⟩)
    have HW := Lib.hid hwz
    have HS := Lib.hid hs
    have Hz := Lib.hid (H.out.to_below HBz.out)
    clear hwz hs
    go_enter Try.func22, Try.ntmps22
    go_wp2_with fail
    rw [← HW.out]
    refine (implTreeOk_any _ _ _ xs _ Hz.out hn hnc).mono ?_
    rintro e w1 ⟨rfl, hb1⟩
    have HB1 := Lib.hid (HBz.out.trans (hb1.mono HBz.out.size))
    clear hb1
    rw [Hok.out]
    go_wp2
    go_ret2
    exact ⟨none, 0, by rw [HR.out]; rfl, by rw [HR.out]; exact own_nil, HB1.out⟩
  have n24 := Tr.len24 hok
  rw [HL.out] at n24
  obtain ⟨ad, rfl, _⟩ := H.out.2.1 (by omega)
  obtain ⟨X, hX⟩ : ∃ X, X = Tr.nodeAt xs p := ⟨_, rfl⟩
  have HXX := Lib.hid (show X = -1 ∨ ∃ i : Nat, X = i ∧ i < n from by
    rw [hX]
    unfold Tr.nodeAt
    rw [if_pos hok]
    rcases Tr.walk_range hok p 0 (by rw [HL.out]; omega) with e | ⟨r, e, _, hr⟩
    · exact .inl e
    · exact .inr ⟨r, e, by rw [HL.out] at hr; exact hr⟩)
  have HXE := Lib.hid hX.symm
  obtain ⟨cc, hcc⟩ : ∃ cc, cc = Oc.code xs ⟨k, p, a, f, z⟩ X := ⟨_, rfl⟩
  have HCC := Lib.hid hcc.symm
  have Hok := Lib.hid hok
  by_cases c0 : cc = 0
  rotate_left
  · have q0 : (cc == 0) = false := by simpa using c0
    have q1 : ¬ cc = 0 := c0
    have q2 : (cc != 0) = true := by simpa using c0
    have HR := Lib.hid (show Oc.apply xs ⟨k, p, a, f, z⟩ = (xs, cc) by rw [hcc, hX]; exact Oc.apply_fail hok (by rw [← hX, ← hcc]; exact c0))
    clear hcc hX hok c0
    obtain ⟨wz, hwz⟩ : ∃ wz, wz = w.alloc (.cells #[.int .i64 k, .slice P m q, .int .i64 a, .int .i64 f, .int .i64 z] 33) := ⟨_, rfl⟩
    obtain ⟨s, hs⟩ : ∃ s, s = w.heap.size := ⟨_, rfl⟩
    have HBz := Lib.hid (show Below w.heap.size w wz by rw [hwz]; exact (Below.refl _ _).alloc (Nat.le_refl _) _)
    have HX := Lib.hid (show wz.cell? ⟨s, 0, none⟩ = some (.int .i64 k) ∧ wz.cell? ⟨s, 1, none⟩ = some (.slice P m q) ∧ wz.cell? ⟨s, 2, none⟩ = some (.int .i64 a) ∧ wz.cell? ⟨s, 3, none⟩ = some (.int .i64 f) ∧ wz.cell? ⟨s, 4, none⟩ = some (.int .i64 z) ∧ BelA wz wz by rw [hwz, hs]; exact ⟨by simp, by simp, by simp, by simp, by simp, Below.refl _ _⟩)
    have HW := Lib.hid hwz
    have HS := Lib.hid hs
    have Hz := Lib.hid (H.out.to_below HBz.out)
    clear hwz hs
    have Iz := Lib.hid (I.out.to_below HBz.out)
    go_enter Try.func22, Try.ntmps22
    go_wp2_with fail
    rw [← HW.out]
    refine (implTreeOk_any _ _ _ xs _ Hz.out hn hnc).mono ?_
    rintro e w1 ⟨rfl, hb1⟩
    have HX1 := Lib.hid (c5_keep HX.out hb1)
    have H1 := Lib.hid (Hz.out.to_below hb1)
    have I1 := Lib.hid (Iz.out.to_below hb1)
    have HB1 := Lib.hid (HBz.out.trans (hb1.mono HBz.out.size))
    clear hb1
    rw [Hok.out, ← HS.out]
    obtain ⟨x0, x1, x2, x3, x4, -⟩ := HX1.out
    go_wp2_with fail
    refine (implNodeAt_any (some ad) P n c m q xs p _ H1.out I1.out hn hm hnc).mono ?_
    rintro e w2 ⟨rfl, hb2⟩
    clear x0 x1 x2 x3 x4
    have HX2 := Lib.hid (c5_keep HX1.out hb2)
    have H2 := Lib.hid (H1.out.to_below hb2)
    have HB2 := Lib.hid (HB1.out.trans (hb2.mono HB1.out.size))
    clear hb2
    obtain ⟨x0, x1, x2, x3, x4, -⟩ := HX2.out
    have OC := Lib.hid (implOpCode_any ad n c xs X k a f z p P m q w2 H2.out hn hnc Hok.out HXX.out)
    rw [HXE.out]
    go_wp2_with fail
    refine OC.out.mono ?_
    rintro e w3 ⟨rfl, hb3⟩
    rw [HCC.out]
    clear x0 x1 x2 x3 x4 OC
    have HX3 := Lib.hid (c5_keep HX2.out hb3)
    have H3 := Lib.hid (H2.out.to_below hb3)
    have HB3 := Lib.hid (HB2.out.trans (hb3.mono HB2.out.size))
    have hs3 := HB3.out.size
    clear hb3
    go_wp2_with (go_loud (go_at_call 64; refine (cloneNode_any _ _ _ xs _ H3.out hn).mono ?_; rintro e w4 ⟨A4, c4, rfl, ho4, hb4⟩))
    have HB4 := Lib.hid (HB3.out.trans (hb4.mono hs3))
    have HO4 := Lib.hid (own_base ho4 hs3)
    clear hb4 ho4
    go_wp2
    go_ret2
    exact ⟨A4, c4, by rw [HR.out]; rfl, by rw [HR.out]; exact HO4.out, HB4.out⟩
  have hc0 : Oc.code xs ⟨k, p, a, f, z⟩ (Tr.nodeAt xs p) = 0 := by rw [← hX, ← hcc]; exact c0
  have HR0 := Lib.hid (Oc.apply_done hok hc0)
  obtain ⟨i, hix, hip, hk⟩ := Oc.right hok hc0
  have hi : i < n := by rw [← HL.out]; exact hix
  have HCC := Lib.hid (show Oc.code xs ⟨k, p, a, f, z⟩ X = 0 by rw [HCC.out]; exact c0)
  have HXE := Lib.hid (show Tr.nodeAt xs p = (i : Int) from hip)
  have HXX := Lib.hid (show (i : Int) = -1 ∨ ∃ j : Nat, (i : Int) = j ∧ j < n from .inr ⟨i, rfl, hi⟩)
  have HCC := Lib.hid (show Oc.code xs ⟨k, p, a, f, z⟩ (i : Int) = 0 by have := HCC.out; rw [hX, hip] at this; exact this)
  clear hcc hX hok c0 hip hc0
  rcases hk with ⟨e, ha⟩ | ⟨e, h0⟩ | ⟨e, ha, hf, hz, hr, hrest⟩
  · dsimp only at e
    subst e
    have HR := Lib.hid (show Oc.apply xs ⟨1, p, a, f, z⟩ = (Oc.rel xs i a, 0) by rw [HR0.out]; unfold Oc.new; dsimp only; rw [if_pos rfl]; show (Oc.rel xs (Tr.nodeAt xs p).toNat a, (0 : Int)) = _; rw [HXE.out, Int.toNat_natCast])
    clear HR0 ha
    obtain ⟨wz, hwz⟩ : ∃ wz, wz = w.alloc (.cells #[.int .i64 1, .slice P m q, .int .i64 a, .int .i64 f, .int .i64 z] 33) := ⟨_, rfl⟩
    obtain ⟨s, hs⟩ : ∃ s, s = w.heap.size := ⟨_, rfl⟩
    have HBz := Lib.hid (show Below w.heap.size w wz by rw [hwz]; exact (Below.refl _ _).alloc (Nat.le_refl _) _)
    have HX := Lib.hid (show wz.cell? ⟨s, 0, none⟩ = some (.int .i64 1) ∧ wz.cell? ⟨s, 1, none⟩ = some (.slice P m q) ∧ wz.cell? ⟨s, 2, none⟩ = some (.int .i64 a) ∧ wz.cell? ⟨s, 3, none⟩ = some (.int .i64 f) ∧ wz.cell? ⟨s, 4, none⟩ = some (.int .i64 z) ∧ BelA wz wz by rw [hwz, hs]; exact ⟨by simp, by simp, by simp, by simp, by simp, Below.refl _ _⟩)
    have HW := Lib.hid hwz
    have HS := Lib.hid hs
    have Hz := Lib.hid (H.out.to_below HBz.out)
    clear hwz hs
    have Iz := Lib.hid (I.out.to_below HBz.out)
    go_enter Try.func22, Try.ntmps22
    go_wp2_with fail
    rw [← HW.out]
    refine (implTreeOk_any _ _ _ xs _ Hz.out hn hnc).mono ?_
    rintro e w1 ⟨rfl, hb1⟩
    have HX1 := Lib.hid (c5_keep HX.out hb1)
    have H1 := Lib.hid (Hz.out.to_below hb1)
    have I1 := Lib.hid (Iz.out.to_below hb1)
    have HB1 := Lib.hid (HBz.out.trans (hb1.mono HBz.out.size))
    clear hb1
    rw [Hok.out, ← HS.out]
    obtain ⟨x0, x1, x2, x3, x4, -⟩ := HX1.out
    go_wp2_with fail
    refine (implNodeAt_any (some ad) P n c m q xs p _ H1.out I1.out hn hm hnc).mono ?_
    rintro e w2 ⟨rfl, hb2⟩
    clear x0 x1 x2 x3 x4
    have HX2 := Lib.hid (c5_keep HX1.out hb2)
    have H2 := Lib.hid (H1.out.to_below hb2)
    have HB2 := Lib.hid (HB1.out.trans (hb2.mono HB1.out.size))
    clear hb2
    obtain ⟨x0, x1, x2, x3, x4, -⟩ := HX2.out
    have OC := Lib.hid (implOpCode_any ad n c xs (i : Int) 1 a f z p P m q w2 H2.out hn hnc Hok.out HXX.out)
    rw [HXE.out]
    go_wp2_with fail
    refine OC.out.mono ?_
    rintro e w3 ⟨rfl, hb3⟩
    rw [HCC.out]
    clear x0 x1 x2 x3 x4 OC
    have HX3 := Lib.hid (c5_keep HX2.out hb3)
    have H3 := Lib.hid (H2.out.to_below hb3)
    have HB3 := Lib.hid (HB2.out.trans (hb3.mono HB2.out.size))
    have hs3 := HB3.out.size
    clear hb3
    obtain ⟨x0, x1, x2, x3, x4, -⟩ := HX3.out
    go_wp2_with (go_loud (go_at_call 65; refine (implRelabel_any ad n c xs i a _ H3.out hn hi).mono ?_; rintro e w4 ⟨A4, c4, rfl, ho4, hb4⟩))
    have HB4 := Lib.hid (HB3.out.trans (hb4.mono hs3))
    have HO4 := Lib.hid (own_base ho4 hs3)
    clear hb4 ho4 x0 x1 x2 x3 x4
    go_wp2
    go_ret2
    exact ⟨A4, c4, by rw [HR.out]; rfl, by rw [HR.out]; exact HO4.out, HB4.out⟩
  · dsimp only at e
    subst e
    have HR := Lib.hid (show Oc.apply xs ⟨2, p, a, f, z⟩ = (Oc.del xs i, 0) by rw [HR0.out]; unfold Oc.new; dsimp only; rw [if_neg (by decide), if_pos rfl]; show (Oc.del xs (Tr.nodeAt xs p).toNat, (0 : Int)) = _; rw [HXE.out, Int.toNat_natCast])
    clear HR0
    obtain ⟨wz, hwz⟩ : ∃ wz, wz = w.alloc (.cells #[.int .i64 2, .slice P m q, .int .i64 a, .int .i64 f, .int .i64 z] 33) := ⟨_, rfl⟩
    obtain ⟨s, hs⟩ : ∃ s, s = w.heap.size := ⟨_, rfl⟩
    have HBz := Lib.hid (show Below w.heap.size w wz by rw [hwz]; exact (Below.refl _ _).alloc (Nat.le_refl _) _)
    have HX := Lib.hid (show wz.cell? ⟨s, 0, none⟩ = some (.int .i64 2) ∧ wz.cell? ⟨s, 1, none⟩ = some (.slice P m q) ∧ wz.cell? ⟨s, 2, none⟩ = some (.int .i64 a) ∧ wz.cell? ⟨s, 3, none⟩ = some (.int .i64 f) ∧ wz.cell? ⟨s, 4, none⟩ = some (.int .i64 z) ∧ BelA wz wz by rw [hwz, hs]; exact ⟨by simp, by simp, by simp, by simp, by simp, Below.refl _ _⟩)
    have HW := Lib.hid hwz
    have HS := Lib.hid hs
    have Hz := Lib.hid (H.out.to_below HBz.out)
    clear hwz hs
    have Iz := Lib.hid (I.out.to_below HBz.out)
    go_enter Try.func22, Try.ntmps22
    go_wp2_with fail
    rw [← HW.out]
    refine (implTreeOk_any _ _ _ xs _ Hz.out hn hnc).mono ?_
    rintro e w1 ⟨rfl, hb1⟩
    have HX1 := Lib.hid (c5_keep HX.out hb1)
    have H1 := Lib.hid (Hz.out.to_below hb1)
    have I1 := Lib.hid (Iz.out.to_below hb1)
    have HB1 := Lib.hid (HBz.out.trans (hb1.mono HBz.out.size))
    clear hb1
    rw [Hok.out, ← HS.out]
    obtain ⟨x0, x1, x2, x3, x4, -⟩ := HX1.out
    go_wp2_with fail
    refine (implNodeAt_any (some ad) P n c m q xs p _ H1.out I1.out hn hm hnc).mono ?_
    rintro e w2 ⟨rfl, hb2⟩
    clear x0 x1 x2 x3 x4
    have HX2 := Lib.hid (c5_keep HX1.out hb2)
    have H2 := Lib.hid (H1.out.to_below hb2)
    have HB2 := Lib.hid (HB1.out.trans (hb2.mono HB1.out.size))
    clear hb2
    obtain ⟨x0, x1, x2, x3, x4, -⟩ := HX2.out
    have OC := Lib.hid (implOpCode_any ad n c xs (i : Int) 2 a f z p P m q w2 H2.out hn hnc Hok.out HXX.out)
    rw [HXE.out]
    go_wp2_with fail
    refine OC.out.mono ?_
    rintro e w3 ⟨rfl, hb3⟩
    rw [HCC.out]
    clear x0 x1 x2 x3 x4 OC
    have HX3 := Lib.hid (c5_keep HX2.out hb3)
    have H3 := Lib.hid (H2.out.to_below hb3)
    have HB3 := Lib.hid (HB2.out.trans (hb3.mono HB2.out.size))
    have hs3 := HB3.out.size
    clear hb3
    obtain ⟨x0, x1, x2, x3, x4, -⟩ := HX3.out
    go_wp2_with (go_loud (go_at_call 66; refine (implRemove_any ad n c xs i _ H3.out hn hnc Hok.out hi h0).mono ?_; rintro e w4 ⟨A4, c4, rfl, ho4, hb4⟩))
    have HB4 := Lib.hid (HB3.out.trans (hb4.mono hs3))
    have HO4 := Lib.hid (own_base ho4 hs3)
    clear hb4 ho4 x0 x1 x2 x3 x4
    go_wp2
    go_ret2
    exact ⟨A4, c4, by rw [HR.out]; rfl, by rw [HR.out]; exact HO4.out, HB4.out⟩
  · dsimp only at e hf hz hr
    subst e
    obtain ⟨fN, rfl⟩ := Int.eq_ofNat_of_zero_le hf
    obtain ⟨zN, rfl⟩ := Int.eq_ofNat_of_zero_le hz
    rw [Int.toNat_natCast, Int.toNat_natCast] at hr
    have HR := Lib.hid (show Oc.apply xs ⟨3, p, a, (fN : Int), (zN : Int)⟩ = (Oc.ins xs i a (Tr.cut xs i fN) (Tr.cut xs i (fN + zN)), 0) by rw [HR0.out]; unfold Oc.new; dsimp only; rw [if_neg (by decide), if_neg (by decide)]; rw [HXE.out, Int.toNat_natCast, Int.toNat_natCast, Int.toNat_natCast])
    have HRR := Lib.hid hr
    clear HR0 ha hf hz hr hrest
    obtain ⟨wz, hwz⟩ : ∃ wz, wz = w.alloc (.cells #[.int .i64 3, .slice P m q, .int .i64 a, .int .i64 (fN : Int), .int .i64 (zN : Int)] 33) := ⟨_, rfl⟩
    obtain ⟨s, hs⟩ : ∃ s, s = w.heap.size := ⟨_, rfl⟩
    have HBz := Lib.hid (show Below w.heap.size w wz by rw [hwz]; exact (Below.refl _ _).alloc (Nat.le_refl _) _)
    have HX := Lib.hid (show wz.cell? ⟨s, 0, none⟩ = some (.int .i64 3) ∧ wz.cell? ⟨s, 1, none⟩ = some (.slice P m q) ∧ wz.cell? ⟨s, 2, none⟩ = some (.int .i64 a) ∧ wz.cell? ⟨s, 3, none⟩ = some (.int .i64 (fN : Int)) ∧ wz.cell? ⟨s, 4, none⟩ = some (.int .i64 (zN : Int)) ∧ BelA wz wz by rw [hwz, hs]; exact ⟨by simp, by simp, by simp, by simp, by simp, Below.refl _ _⟩)
    have HW := Lib.hid hwz
    have HS := Lib.hid hs
    have Hz := Lib.hid (H.out.to_below HBz.out)
    clear hwz hs
    have Iz := Lib.hid (I.out.to_below HBz.out)
    go_enter Try.func22, Try.ntmps22
    go_wp2_with fail
    rw [← HW.out]
    refine (implTreeOk_any _ _ _ xs _ Hz.out hn hnc).mono ?_
    rintro e w1 ⟨rfl, hb1⟩
    have HX1 := Lib.hid (c5_keep HX.out hb1)
    have H1 := Lib.hid (Hz.out.to_below hb1)
    have I1 := Lib.hid (Iz.out.to_below hb1)
    have HB1 := Lib.hid (HBz.out.trans (hb1.mono HBz.out.size))
    clear hb1
    rw [Hok.out, ← HS.out]
    obtain ⟨x0, x1, x2, x3, x4, -⟩ := HX1.out
    go_wp2_with fail
    refine (implNodeAt_any (some ad) P n c m q xs p _ H1.out I1.out hn hm hnc).mono ?_
    rintro e w2 ⟨rfl, hb2⟩
    clear x0 x1 x2 x3 x4
    have HX2 := Lib.hid (c5_keep HX1.out hb2)
    have H2 := Lib.hid (H1.out.to_below hb2)
    have HB2 := Lib.hid (HB1.out.trans (hb2.mono HB1.out.size))
    clear hb2
    obtain ⟨x0, x1, x2, x3, x4, -⟩ := HX2.out
    have OC := Lib.hid (implOpCode_any ad n c xs (i : Int) 3 a (fN : Int) (zN : Int) p P m q w2 H2.out hn hnc Hok.out HXX.out)
    rw [HXE.out]
    go_wp2_with fail
    refine OC.out.mono ?_
    rintro e w3 ⟨rfl, hb3⟩
    rw [HCC.out]
    clear x0 x1 x2 x3 x4 OC
    have HX3 := Lib.hid (c5_keep HX2.out hb3)
    have H3 := Lib.hid (H2.out.to_below hb3)
    have HB3 := Lib.hid (HB2.out.trans (hb3.mono HB2.out.size))
    have hs3 := HB3.out.size
    clear hb3
    obtain ⟨x0, x1, x2, x3, x4, -⟩ := HX3.out
    go_wp2_with (go_loud (go_at_call 67; refine (implInsert_any ad n c xs i 3 a P m q fN zN _ H3.out hn hnc Hok.out hi HRR.out).mono ?_; rintro e w4 ⟨A4, c4, rfl, ho4, hb4⟩))
    have HB4 := Lib.hid (HB3.out.trans (hb4.mono hs3))
    have HO4 := Lib.hid (own_base ho4 hs3)
    clear hb4 ho4 x0 x1 x2 x3 x4
    go_wp2
    go_ret2
    exact ⟨A4, c4, by rw [HR.out]; rfl, by rw [HR.out]; exact HO4.out, HB4.out⟩

end Go.Proofs.Ytofpcedpmbecgaa

/- Contracts (ToIS). -/
namespace Go.Proofs.Ytofpcedpmbecgaa
open Go.RowKit
set_option linter.unusedVariables false

set_option maxHeartbeats 1600000 in
set_option maxRecDepth 100000 in
theorem toIntS_any (A : Option Addr) (n c : Nat) (zs : List Int) (w : World) (h : IntIn w w.heap.size A n zs) (hn : n ≤ 1048576) :
    Calls Try.prog 42 #[.slice A n c] w fun e w' => e = .returned (.slice (some ⟨w.heap.size, 0, none⟩) n n) ∧ w'.ownsRow w.heap.size 3 1 (.slice (some ⟨w.heap.size, 0, none⟩) n n) n (ints zs) ∧ Below w.heap.size w w' := by
  have H := Lib.hid h
  have HL := Lib.hid h.1
  clear h
  obtain ⟨i0, hi, hz0, hz1, hz2⟩ := info_parts info_intZ
  have Hi := Lib.hid hi
  clear hi
  have HZ0 := Lib.hid (show List.replicate n (0 : Int) = Zs.part zs 0 by rw [Zs.part_zero, HL.out])
  go_enter Try.func42, Try.ntmps42
  go_wp2_with (at_make; go_loud (refine wpList_make_full _ rfl _ _ 27 rfl w.heap.size 3 i0 (.int .i64 0) 1 Try.underlying27 Hi.out hz0 hz1 _ _ _ _ n rfl rfl rfl rfl (by rw [hz2]; omega) (by unfold maxLen; omega) (Nat.le_refl _) ?_); intro w2 hown2 hgrow2)
  have hb2 : Below w.heap.size w w2 := (Below.refl _ w).grown hgrow2 (Nat.le_refl _) (fun _ h => by cases h)
  rw [made_zeros 0 n, HZ0.out] at hown2
  have HO2 := Lib.hid hown2
  have HB2 := Lib.hid hb2
  clear hown2 hgrow2 hb2
  go_wp2
  go_loopw [4] (fun iv wr => ∃ k : Nat, k ≤ n ∧ iv = .int .i64 k ∧ wr.ownsRow w.heap.size 3 1 (.slice (some ⟨w.heap.size, 0, none⟩) n n) n (ints (Zs.part zs k)) ∧ Below w.heap.size w wr) (fun i _ => n - (intOf i).toNat)
  case atStart => exact ⟨0, Nat.zero_le _, rfl, HO2.out, HB2.out⟩
  case round =>
    clear HO2 HB2
    obtain ⟨k, hk, rfl, hown, hB⟩ := hrel
    have Ho := Lib.hid hown
    have HB := Lib.hid hB
    clear hown hB
    by_cases hlt : k < n
    · obtain ⟨ad, rfl, _, c1⟩ := (H.out.below HB.out).at_ hlt
      have c0 := own_int Ho.out (k := k) (by rw [Zs.part_length zs k (by rw [HL.out]; exact hk), HL.out]; exact hlt)
      have f0 := Ho.out.frozenAt k
      have b2 : (0 : Int) ≤ (k : Int) := by omega
      have b3 : (k : Int) < (n : Int) := by omega
      go_wp2
      go_roundw
      case rel =>
        refine ⟨k + 1, by omega, by go_num, ?_, HB.out.setCell (Nat.le_refl _) _⟩
        have := (Ho.out.stored k (.int .i64 (Zs.at zs k))).1
        rw [ints_set, Zs.part_set zs k (by rw [HL.out]; exact hlt)] at this
        exact this
      case measure => simp [intOf]; omega
    · obtain rfl : k = n := by omega
      rw [show Zs.part zs k = zs by rw [← HL.out]; exact Zs.part_all zs] at Ho
      go_wp2
      go_ret
      exact ⟨rfl, Ho.out, HB.out⟩
end Go.Proofs.Ytofpcedpmbecgaa

/- Contracts (SzC). -/
namespace Go.Proofs.Ytofpcedpmbecgaa
open Go.RowKit
set_option linter.unusedVariables false

set_option maxHeartbeats 400000 in
theorem szIntS_any (A : Option Addr) (n c : Nat) (left : Int) (w : World) (hn : n ≤ 9223372036854775807) (h0 : 0 ≤ left) (h1 : left ≤ 1048576) :
    Calls Try.prog 79 #[.slice A n c, .int .i64 left] w fun e w' => e = .returned (.int .i64 (if (n : Int) ≤ left then left - n else -1)) ∧ w = w' := by
  by_cases h : (n : Int) ≤ left
  · rw [if_pos h]
    go_enter Try.func79, Try.ntmps79
    go_wp2
    go_ret
    exact ⟨rfl, rfl⟩
  · rw [if_neg h]
    go_enter Try.func79, Try.ntmps79
    go_wp2
    go_ret
    exact ⟨rfl, rfl⟩
end Go.Proofs.Ytofpcedpmbecgaa

/- Contracts (IntE). -/
namespace Go.Proofs.Ytofpcedpmbecgaa
open Go.RowKit
set_option linter.unusedVariables false

set_option maxHeartbeats 800000 in
set_option maxRecDepth 100000 in
theorem eqIntS_any (A A' : Option Addr) (n c n' c' : Nat) (xs ys : List Int) (w : World) (h : IntIn w w.heap.size A n xs) (h' : IntIn w w.heap.size A' n' ys) (hn : n ≤ 1048576) (hn' : n' ≤ 1048576) :
    Calls Try.prog 39 #[.slice A n c, .slice A' n' c'] w fun e w' => e = .returned (.bool (decide (xs = ys))) ∧ Below w.heap.size w w' := by
  have H := Lib.hid h
  have H' := Lib.hid h'
  clear h h'
  have HL := Lib.hid H.out.1
  have HL' := Lib.hid H'.out.1
  by_cases hnn : n = n'
  · go_enter Try.func39, Try.ntmps39
    have Hnn := Lib.hid hnn
    have hne : ((n : Int) != (n' : Int)) = false := by simp [hnn]
    clear hnn
    go_wp2
    go_loopw [5] (fun iv wr => ∃ k : Nat, k ≤ n ∧ iv = .int .i64 k ∧ (∀ j, j < k → Zs.at xs j = Zs.at ys j) ∧ Drawn w wr) (fun i _ => n - (intOf i).toNat)
    case atStart => exact ⟨0, by omega, rfl, fun j hj => absurd hj (by omega), Drawn.refl _⟩
    case round =>
      obtain ⟨k, hk, rfl, hsm, hD⟩ := hrel
      have Hsm := Lib.hid hsm
      clear hsm
      by_cases hlt : k < n
      · obtain ⟨ad, rfl, hb, hl⟩ := (H.out.drawn hD).at_ hlt
        obtain ⟨ad', rfl, hb', hl'⟩ := (H'.out.drawn hD).at_ (k := k) (by rw [← Hnn.out]; exact hlt)
        have hlt' : (k : Int) < (n' : Int) := by rw [← Hnn.out]; omega
        have hk0 : (0 : Int) ≤ (k : Int) := by omega
        by_cases hq1 : Zs.at xs k = Zs.at ys k
        · have Hq := Lib.hid hq1
          have q1 : (Zs.at xs k != Zs.at ys k) = false := by simpa using hq1
          clear hq1
          go_wp2
          go_quiet (fail)
          go_wp2
          go_roundw
          case rel => exact ⟨k + 1, by omega, by go_num, fun j hj => by
            rcases Nat.lt_succ_iff_lt_or_eq.1 hj with h' | rfl
            · exact Hsm.out j h'
            · exact Hq.out, hD.drewN _⟩
          case measure => simp [intOf]; omega
        · have Hq := Lib.hid hq1
          have q1 : (Zs.at xs k != Zs.at ys k) = true := by simpa using hq1
          clear hq1
          go_wp2
          go_quiet (fail)
          go_wp2
          go_ret
          refine ⟨Kit.ret_bool ?_, (hD.drewN _).toBelow⟩
          symm
          rw [decide_eq_false_iff_not]
          rintro rfl
          exact Hq.out rfl
      · obtain rfl : k = n := by omega
        go_wp2
        go_ret
        refine ⟨Kit.ret_bool ?_, hD.toBelow⟩
        symm
        rw [decide_eq_true_eq]
        exact Zs.ext (by rw [HL.out, HL'.out]; exact Hnn.out) (fun j hj => Hsm.out j (by rw [← HL.out]; exact hj))
  · have hne : ((n : Int) != (n' : Int)) = true := by simp; omega
    have Hq := Lib.hid (show decide (xs = ys) = false by
      rw [decide_eq_false_iff_not]; rintro rfl; exact hnn (HL.out.symm.trans HL'.out))
    clear hnn
    go_enter Try.func39, Try.ntmps39
    go_wp2
    go_ret
    exact ⟨Kit.ret_bool Hq.out.symm, Below.refl _ _⟩


end Go.Proofs.Ytofpcedpmbecgaa

/- Contracts (IntH). -/
namespace Go.Proofs.Ytofpcedpmbecgaa
open Go.RowKit
set_option linter.unusedVariables false

set_option maxHeartbeats 800000 in
set_option maxRecDepth 100000 in
theorem markIntS_any (A : Option Addr) (n c base : Nat) (e0 : TypeId) (k0 : Int) (zs : List Int) (w : World) (h : w.ownsRow base e0 1 (.slice A n c) n (ints zs)) (hn : n ≤ 1048576) (h0 : 0 ≤ k0) (h1 : k0 ≤ 1073741824) :
    Calls Try.prog 40 #[.slice A n c, .int .i64 k0] w fun e w' => e = .returned (.int .i64 (k0 + n)) ∧ w'.ownsRow base e0 1 (.slice A n c) n (ints (Zs.marks k0 n)) ∧ w.grownBy w' (Value.ownBlock (.slice A n c)) := by
  have H := Lib.hid h
  have HL := Lib.hid (show zs.length = n by have := h.1; rw [ints_length] at this; omega)
  clear h
  go_enter Try.func40, Try.ntmps40
  go_wp2
  go_loopw [5, 1] (fun iv kv wr => ∃ j : Nat, j ≤ n ∧ iv = .int .i64 j ∧ kv = .int .i64 (k0 + j) ∧ wr.ownsRow base e0 1 (.slice A n c) n (ints (Zs.marked k0 zs j)) ∧ w.grownBy wr (Value.ownBlock (.slice A n c))) (fun i _ _ => n - (intOf i).toNat)
  case atStart => exact ⟨0, by omega, rfl, by simp, by simpa [Zs.marked, Zs.marks] using H.out, World.grownBy.refl _ _⟩
  case round =>
    obtain ⟨j, hj, rfl, rfl, hown, hgr⟩ := hrel
    by_cases hlt : j < n
    · obtain ⟨g, rfl, hg⟩ := own_form hown (by omega)
      have Ho := Lib.hid hown
      have Hg := Lib.hid hgr
      have c0 := own_int hown (k := j) (by rw [Zs.marked_length _ _ _ (by rw [HL.out]; omega), HL.out]; exact hlt)
      have f0 := hown.frozenAt j
      clear hown hgr hg
      go_wp2
      go_roundw
      case rel =>
        refine ⟨j + 1, by omega, by go_num, by go_num, ?_, grown_tr Hg.out (Ho.out.stored _ _).2⟩
        have := (Ho.out.stored j (.int .i64 (k0 + (j : Nat)))).1
        rw [ints_set, Zs.marked_set _ _ _ (by rw [HL.out]; exact hlt)] at this
        exact this
      case measure => simp [intOf]; omega
    · obtain rfl : j = n := by omega
      have Ho := Lib.hid hown
      have Hg := Lib.hid hgr
      clear hown hgr
      go_wp2
      go_ret
      refine ⟨rfl, ?_, Hg.out⟩
      have := Ho.out
      rw [← HL.out, Zs.marked_all, HL.out] at this
      exact this

end Go.Proofs.Ytofpcedpmbecgaa
