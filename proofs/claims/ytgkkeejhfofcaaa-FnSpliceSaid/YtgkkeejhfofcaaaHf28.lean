/- Texts of one claim laid into one file, in build order: AplS. -/
import Derived.Test.YtgkkeejhfofcaaaHf17
import Derived.Test.YtgkkeejhfofcaaaHf18
import Derived.Test.YtgkkeejhfofcaaaHf24
import Derived.Test.YtgkkeejhfofcaaaHf26
import Derived.Test.YtgkkeejhfofcaaaHf27
import Derived.Test.YtgkkeejhfofcaaaHf8
/- Contracts (AplS). -/
namespace Go.Proofs.Ytgkkeejhfofcaaa
open Go.RowKit
set_option linter.unusedVariables false

theorem c2_grown {wa wx wy : World} {p0 p1 : Addr} {v0 v1 : Value} {row : Option Nat} (h0 : wa.cell? p0 = some v0 ∧ wa.cell? p1 = some v1) (h : wx.cell? p0 = some v0 ∧ wx.cell? p1 = some v1 ∧ BelA wa wx) (hg : wx.grownBy wy row) (hr : ∀ b, row = some b → wa.heap.size ≤ b) : wy.cell? p0 = some v0 ∧ wy.cell? p1 = some v1 ∧ BelA wa wy := by
  have l0 := World.block_lt_of_cell? _ _ h0.1
  have l1 := World.block_lt_of_cell? _ _ h0.2
  have hb : Below wa.heap.size wa wy := Below.grown h.2.2 hg (Below.size h.2.2) hr
  exact ⟨(hb.cell l0).trans h0.1, (hb.cell l1).trans h0.2, hb⟩
set_option maxHeartbeats 6400000 in
set_option maxRecDepth 100000 in
theorem specApplyOp_any (A : Option Addr) (n c : Nat) (xs : Tr) (k a f z : Int) (p : List Int) (P : Option Addr) (m q : Nat) (w : World) (h : NdIn w w.heap.size A n xs) (h' : IntIn w w.heap.size P m p) (hn : n ≤ 1048576) (hm : m ≤ 1048576) :
    Calls Try.prog 22 #[.slice A n c, .agg #[.int .i64 k, .slice P m q, .int .i64 a, .int .i64 f, .int .i64 z]] w (OwnNdC 47 (Oc.apply xs ⟨k, p, a, f, z⟩) w) := by
  have H := Lib.hid h
  have I := Lib.hid h'
  clear h h'
  have HL := Lib.hid H.out.1
  obtain ⟨i0, hi0, hz0, hz1, hz2⟩ := info_parts info_ndS
  rcases hok : Tr.ok xs with _ | _
  · have HR := Lib.hid (Oc.apply_no (o := ⟨k, p, a, f, z⟩) hok)
    have Hok := Lib.hid hok
    clear hok
    obtain ⟨wz, hwz⟩ : ∃ wz, wz = w.alloc (.cells #[.int .i64 k, .slice P m q, .int .i64 a, .int .i64 f, .int .i64 z] 39) := ⟨_, rfl⟩
    obtain ⟨s, hs⟩ : ∃ s, s = w.heap.size := ⟨_, rfl⟩
    have HBz := Lib.hid (show Below w.heap.size w wz by rw [hwz]; exact (Below.refl _ _).alloc (Nat.le_refl _) _)
    have HX := Lib.hid (show wz.cell? ⟨s, 0, none⟩ = some (.int .i64 k) ∧ wz.cell? ⟨s, 1, none⟩ = some (.slice P m q) ∧ wz.cell? ⟨s, 2, none⟩ = some (.int .i64 a) ∧ wz.cell? ⟨s, 3, none⟩ = some (.int .i64 f) ∧ wz.cell? ⟨s, 4, none⟩ = some (.int .i64 z) ∧ BelA wz wz by rw [hwz, hs]; exact ⟨by simp, by simp, by simp, by simp, by simp, Below.refl _ _⟩)
    have HW := Lib.hid hwz
    have HS := Lib.hid hs
    have Hz := Lib.hid (H.out.to_below HBz.out)
    clear hwz hs
    go_enter Try.func22, Try.ntmps22
    go_wp2_with fail
    rw [← HW.out]
    refine (specTreeOk_any _ _ _ xs _ Hz.out hn).mono ?_
    rintro e w1 ⟨rfl, hd1⟩
    have HB1 := Lib.hid (HBz.out.trans (hd1.toBelow (B := w.heap.size)))
    have hs1 := HB1.out.size
    clear hd1
    rw [Hok.out]
    go_wp2
    go_ret2
    exact ⟨_, _, by rw [HR.out]; rfl, by rw [HR.out]; exact World.ownsRow_lit w1 #[] 0 hs1 (Nat.zero_le _) rfl, HB1.out.alloc hs1 _⟩
  have n24 := Tr.len24 hok
  rw [HL.out] at n24
  obtain ⟨ad, rfl, _⟩ := H.out.2.1 (by omega)
  obtain ⟨X, hX⟩ : ∃ X, X = Tr.nodeAt xs p := ⟨_, rfl⟩
  have HXX := Lib.hid (show X = -1 ∨ ∃ i : Nat, X = i ∧ i < n from by
    rw [hX]
    unfold Tr.nodeAt
    rw [if_pos hok]
    rcases Tr.walk_range hok p 0 (by rw [HL.out]; omega) with e | ⟨r, e, _, hr⟩
    · exact .inl e
    · exact .inr ⟨r, e, by rw [HL.out] at hr; exact hr⟩)
  have HXE := Lib.hid hX.symm
  obtain ⟨cc, hcc⟩ : ∃ cc, cc = Oc.code xs ⟨k, p, a, f, z⟩ X := ⟨_, rfl⟩
  have Hok := Lib.hid hok
  by_cases c0 : cc = 0
  rotate_left
  · have q0 : (cc == 0) = false := by simpa using c0
    have q1 : ¬ cc = 0 := c0
    have q2 : (cc != 0) = true := by simpa using c0
    have FT := Oc.ft_code (xs := xs) (o := ⟨k, p, a, f, z⟩) (x := X) (by rw [← hcc]; exact c0)
    have HCC := Lib.hid (show (Value.tuple #[.int .i64 (Oc.code xs ⟨k, p, a, f, z⟩ X), .int .i64 (Oc.fromN xs ⟨k, p, a, f, z⟩ X), .int .i64 (Oc.toN xs ⟨k, p, a, f, z⟩ X)]) = .tuple #[.int .i64 cc, .int .i64 0, .int .i64 0] by rw [← hcc, FT.1, FT.2])
    have HR := Lib.hid (show Oc.apply xs ⟨k, p, a, f, z⟩ = (xs, cc) by rw [hcc, hX]; exact Oc.apply_fail hok (by rw [← hX, ← hcc]; exact c0))
    clear hcc hX hok c0 FT
    obtain ⟨wz, hwz⟩ : ∃ wz, wz = w.alloc (.cells #[.int .i64 k, .slice P m q, .int .i64 a, .int .i64 f, .int .i64 z] 39) := ⟨_, rfl⟩
    obtain ⟨s, hs⟩ : ∃ s, s = w.heap.size := ⟨_, rfl⟩
    have HBz := Lib.hid (show Below w.heap.size w wz by rw [hwz]; exact (Below.refl _ _).alloc (Nat.le_refl _) _)
    have HX := Lib.hid (show wz.cell? ⟨s, 0, none⟩ = some (.int .i64 k) ∧ wz.cell? ⟨s, 1, none⟩ = some (.slice P m q) ∧ wz.cell? ⟨s, 2, none⟩ = some (.int .i64 a) ∧ wz.cell? ⟨s, 3, none⟩ = some (.int .i64 f) ∧ wz.cell? ⟨s, 4, none⟩ = some (.int .i64 z) ∧ BelA wz wz by rw [hwz, hs]; exact ⟨by simp, by simp, by simp, by simp, by simp, Below.refl _ _⟩)
    have HW := Lib.hid hwz
    have HS := Lib.hid hs
    have Hz := Lib.hid (H.out.to_below HBz.out)
    clear hwz hs
    have Iz := Lib.hid (I.out.to_below HBz.out)
    go_enter Try.func22, Try.ntmps22
    go_wp2_with fail
    rw [← HW.out]
    refine (specTreeOk_any _ _ _ xs _ Hz.out hn).mono ?_
    rintro e w1 ⟨rfl, hd1⟩
    have hb1 := hd1.toBelow (B := wz.heap.size)
    have HX1 := Lib.hid (c5_keep HX.out hb1)
    have H1 := Lib.hid (Hz.out.to_below hb1)
    have I1 := Lib.hid (Iz.out.to_below hb1)
    have HB1 := Lib.hid (HBz.out.trans (hb1.mono HBz.out.size))
    clear hb1 hd1
    rw [Hok.out, ← HS.out]
    obtain ⟨x0, x1, x2, x3, x4, -⟩ := HX1.out
    go_wp2_with fail
    refine (specNodeAt_any (some ad) P n c m q xs p _ H1.out I1.out hn hm).mono ?_
    rintro e w2 ⟨rfl, hb2⟩
    clear x0 x1 x2 x3 x4
    have HX2 := Lib.hid (c5_keep HX1.out hb2)
    have H2 := Lib.hid (H1.out.to_below hb2)
    have HB2 := Lib.hid (HB1.out.trans (hb2.mono HB1.out.size))
    have hs2 := HB2.out.size
    clear hb2
    rw [HXE.out]
    go_wp2_with fail
    refine (l3Copy_ex ad n c xs _ H2.out hn).mono ?_
    rintro e w3 ⟨A3, c3, rfl, ho3, hg3⟩
    have hb3 := (Below.refl w2.heap.size w2).grown hg3 (Nat.le_refl _) (fun _ hk => by cases hk)
    have HX3 := Lib.hid (c5_keep HX2.out hb3)
    have H3 := Lib.hid (H2.out.to_below hb3)
    have HB3 := Lib.hid (HB2.out.trans (hb3.mono hs2))
    have HO3 := Lib.hid (own_base ho3 hs2)
    have hs3 := HB3.out.size
    clear hb3 hg3 ho3
    obtain ⟨x0, x1, x2, x3, x4, -⟩ := HX3.out
    have OC := Lib.hid (l13Code_any ad n c xs X k a f z p P m q w3 H3.out hn Hok.out HXX.out)
    go_wp2_with fail
    refine OC.out.mono ?_
    rintro e w4 ⟨rfl, hb4⟩
    rw [HCC.out]
    clear x0 x1 x2 x3 x4 OC
    have HX4 := Lib.hid (c5_keep HX3.out hb4)
    have H4 := Lib.hid (H3.out.to_below hb4)
    have HB4 := Lib.hid (HB3.out.trans (hb4.mono hs3))
    have HO4 := Lib.hid (own_below HO3.out hb4)
    have hs4 := HB4.out.size
    clear hb4
    go_wp2
    go_ret2
    exact ⟨A3, c3, by rw [HR.out]; show _ = Ending.returned (.tuple #[.slice _ xs.length _, _]); rw [HL.out]; rfl, by rw [HR.out]; show World.ownsRow _ _ _ _ (.slice _ xs.length _) xs.length _; rw [HL.out]; exact HO4.out, HB4.out⟩
  have hc0 : Oc.code xs ⟨k, p, a, f, z⟩ (Tr.nodeAt xs p) = 0 := by rw [← hX, ← hcc]; exact c0
  have HR0 := Lib.hid (Oc.apply_done hok hc0)
  obtain ⟨i, hix, hip, hk⟩ := Oc.right hok hc0
  have hi : i < n := by rw [← HL.out]; exact hix
  have HXE := Lib.hid (show Tr.nodeAt xs p = (i : Int) from hip)
  have HXX := Lib.hid (show (i : Int) = -1 ∨ ∃ j : Nat, (i : Int) = j ∧ j < n from .inr ⟨i, rfl, hi⟩)
  have hcode : Oc.code xs ⟨k, p, a, f, z⟩ (i : Int) = 0 := by rw [hip] at hc0; exact hc0
  clear hcc hX c0 hip hc0
  rcases hk with ⟨e, ha⟩ | ⟨e, h0⟩ | ⟨e, ha, hf, hz, hr, hrest⟩
  · dsimp only at e
    subst e
    have FT := Oc.ft_kind (xs := xs) (o := ⟨1, p, a, f, z⟩) (x := (i : Int)) (show (1 : Int) ≠ 3 by decide)
    have HCC := Lib.hid (show (Value.tuple #[.int .i64 (Oc.code xs ⟨1, p, a, f, z⟩ (i : Int)), .int .i64 (Oc.fromN xs ⟨1, p, a, f, z⟩ (i : Int)), .int .i64 (Oc.toN xs ⟨1, p, a, f, z⟩ (i : Int))]) = .tuple #[.int .i64 0, .int .i64 0, .int .i64 0] by rw [hcode, FT.1, FT.2])
    have HR := Lib.hid (show Oc.apply xs ⟨1, p, a, f, z⟩ = (Oc.rel xs i a, 0) by rw [HR0.out]; unfold Oc.new; dsimp only; rw [if_pos rfl]; show (Oc.rel xs (Tr.nodeAt xs p).toNat a, (0 : Int)) = _; rw [HXE.out, Int.toNat_natCast])
    clear HR0 ha FT hcode hok
    obtain ⟨wz, hwz⟩ : ∃ wz, wz = w.alloc (.cells #[.int .i64 1, .slice P m q, .int .i64 a, .int .i64 f, .int .i64 z] 39) := ⟨_, rfl⟩
    obtain ⟨s, hs⟩ : ∃ s, s = w.heap.size := ⟨_, rfl⟩
    have HBz := Lib.hid (show Below w.heap.size w wz by rw [hwz]; exact (Below.refl _ _).alloc (Nat.le_refl _) _)
    have HX := Lib.hid (show wz.cell? ⟨s, 0, none⟩ = some (.int .i64 1) ∧ wz.cell? ⟨s, 1, none⟩ = some (.slice P m q) ∧ wz.cell? ⟨s, 2, none⟩ = some (.int .i64 a) ∧ wz.cell? ⟨s, 3, none⟩ = some (.int .i64 f) ∧ wz.cell? ⟨s, 4, none⟩ = some (.int .i64 z) ∧ BelA wz wz by rw [hwz, hs]; exact ⟨by simp, by simp, by simp, by simp, by simp, Below.refl _ _⟩)
    have HW := Lib.hid hwz
    have HS := Lib.hid hs
    have Hz := Lib.hid (H.out.to_below HBz.out)
    clear hwz hs
    have Iz := Lib.hid (I.out.to_below HBz.out)
    go_enter Try.func22, Try.ntmps22
    go_wp2_with fail
    rw [← HW.out]
    refine (specTreeOk_any _ _ _ xs _ Hz.out hn).mono ?_
    rintro e w1 ⟨rfl, hd1⟩
    have hb1 := hd1.toBelow (B := wz.heap.size)
    have HX1 := Lib.hid (c5_keep HX.out hb1)
    have H1 := Lib.hid (Hz.out.to_below hb1)
    have I1 := Lib.hid (Iz.out.to_below hb1)
    have HB1 := Lib.hid (HBz.out.trans (hb1.mono HBz.out.size))
    clear hb1 hd1
    rw [Hok.out, ← HS.out]
    obtain ⟨x0, x1, x2, x3, x4, -⟩ := HX1.out
    go_wp2_with fail
    refine (specNodeAt_any (some ad) P n c m q xs p _ H1.out I1.out hn hm).mono ?_
    rintro e w2 ⟨rfl, hb2⟩
    clear x0 x1 x2 x3 x4
    have HX2 := Lib.hid (c5_keep HX1.out hb2)
    have H2 := Lib.hid (H1.out.to_below hb2)
    have HB2 := Lib.hid (HB1.out.trans (hb2.mono HB1.out.size))
    have hs2 := HB2.out.size
    clear hb2
    rw [HXE.out]
    go_wp2_with fail
    refine (l3Copy_ex ad n c xs _ H2.out hn).mono ?_
    rintro e w3 ⟨A3, c3, rfl, ho3, hg3⟩
    have hb3 := (Below.refl w2.heap.size w2).grown hg3 (Nat.le_refl _) (fun _ hk => by cases hk)
    have HX3 := Lib.hid (c5_keep HX2.out hb3)
    have H3 := Lib.hid (H2.out.to_below hb3)
    have HB3 := Lib.hid (HB2.out.trans (hb3.mono hs2))
    have HO3 := Lib.hid (own_base ho3 hs2)
    have hs3 := HB3.out.size
    clear hb3 hg3 ho3
    obtain ⟨x0, x1, x2, x3, x4, -⟩ := HX3.out
    have OC := Lib.hid (l13Code_any ad n c xs (i : Int) 1 a (f) (z) p P m q w3 H3.out hn Hok.out HXX.out)
    go_wp2_with fail
    refine OC.out.mono ?_
    rintro e w4 ⟨rfl, hb4⟩
    rw [HCC.out]
    clear x0 x1 x2 x3 x4 OC
    have HX4 := Lib.hid (c5_keep HX3.out hb4)
    have H4 := Lib.hid (H3.out.to_below hb4)
    have HB4 := Lib.hid (HB3.out.trans (hb4.mono hs3))
    have HO4 := Lib.hid (own_below HO3.out hb4)
    have hs4 := HB4.out.size
    clear hb4
    obtain ⟨x0, x1, x2, x3, x4, -⟩ := HX4.out
    obtain ⟨g, rfl, hg1, hg2⟩ := own_form HO4.out (by omega)
    have y0 := own_even HO4.out (k := i) (by rw [HL.out]; exact hi)
    have y1 := HO4.out.frozenAt (i * 2)
    have b0 : (0 : Int) ≤ (i : Int) := by omega
    have b1 : (i : Int) < (n : Int) := by omega
    have HO5 := Lib.hid (HO4.out.stored (i * 2) (.int .i64 a)).1
    rw [Tr.cells_set_even] at HO5
    have HB5 := Lib.hid (HB4.out.setCell (p := ⟨g, i * 2, none⟩) (by exact hg1) (.int .i64 a))
    clear hg1 hg2
    go_wp2
    go_ret2
    exact ⟨_, _, by rw [HR.out]; show _ = Ending.returned (.tuple #[.slice _ (Oc.rel xs i a).length _, _]); rw [Oc.rel_len, HL.out]; rfl, by rw [HR.out]; show World.ownsRow _ _ _ _ (.slice _ (Oc.rel xs i a).length _) (Oc.rel xs i a).length _; rw [Oc.rel_len, HL.out]; exact HO5.out, HB5.out⟩
  · dsimp only at e
    subst e
    have FT := Oc.ft_kind (xs := xs) (o := ⟨2, p, a, f, z⟩) (x := (i : Int)) (show (2 : Int) ≠ 3 by decide)
    have HCC := Lib.hid (show (Value.tuple #[.int .i64 (Oc.code xs ⟨2, p, a, f, z⟩ (i : Int)), .int .i64 (Oc.fromN xs ⟨2, p, a, f, z⟩ (i : Int)), .int .i64 (Oc.toN xs ⟨2, p, a, f, z⟩ (i : Int))]) = .tuple #[.int .i64 0, .int .i64 0, .int .i64 0] by rw [hcode, FT.1, FT.2])
    have HR := Lib.hid (show Oc.apply xs ⟨2, p, a, f, z⟩ = (Oc.del xs i, 0) by rw [HR0.out]; unfold Oc.new; dsimp only; rw [if_neg (by decide), if_pos rfl]; show (Oc.del xs (Tr.nodeAt xs p).toNat, (0 : Int)) = _; rw [HXE.out, Int.toNat_natCast])
    have hE := Tr.endN_spec xs i hix
    obtain ⟨E, hEE⟩ : ∃ E, E = Tr.endN xs i := ⟨_, rfl⟩
    have He := Lib.hid (show Tr.endOf xs (i : Int) = (E : Int) by rw [hEE]; exact Tr.endOf_yes (Tr.has_iff.2 ⟨hok, by omega, by omega⟩))
    rw [← hEE, HL.out] at hE
    have hE1 := hE.1
    have hE2 := hE.2.1
    obtain ⟨j, hj⟩ : ∃ j, j = i + 1 := ⟨_, rfl⟩
    have hjE : j ≤ E := by omega
    have HDEL := Lib.hid (show (Tr.sh xs 0 i 0 ++ Tr.sh xs j E (-1)) ++ Tr.sh xs E n 0 = Oc.del xs i by unfold Oc.del; rw [← hEE, hj, HL.out])
    have a5 : IntKind.i64.wrap ((i : Int) + 1) = (j : Int) := by rw [Kit.w64 (by omega) (by omega)]; omega
    clear HR0 FT hcode hok hE hEE hj hix
    obtain ⟨wz, hwz⟩ : ∃ wz, wz = w.alloc (.cells #[.int .i64 2, .slice P m q, .int .i64 a, .int .i64 f, .int .i64 z] 39) := ⟨_, rfl⟩
    obtain ⟨s, hs⟩ : ∃ s, s = w.heap.size := ⟨_, rfl⟩
    have HBz := Lib.hid (show Below w.heap.size w wz by rw [hwz]; exact (Below.refl _ _).alloc (Nat.le_refl _) _)
    have HX := Lib.hid (show wz.cell? ⟨s, 0, none⟩ = some (.int .i64 2) ∧ wz.cell? ⟨s, 1, none⟩ = some (.slice P m q) ∧ wz.cell? ⟨s, 2, none⟩ = some (.int .i64 a) ∧ wz.cell? ⟨s, 3, none⟩ = some (.int .i64 f) ∧ wz.cell? ⟨s, 4, none⟩ = some (.int .i64 z) ∧ BelA wz wz by rw [hwz, hs]; exact ⟨by simp, by simp, by simp, by simp, by simp, Below.refl _ _⟩)
    have HW := Lib.hid hwz
    have HS := Lib.hid hs
    have Hz := Lib.hid (H.out.to_below HBz.out)
    clear hwz hs
    have Iz := Lib.hid (I.out.to_below HBz.out)
    go_enter Try.func22, Try.ntmps22
    go_wp2_with fail
    rw [← HW.out]
    refine (specTreeOk_any _ _ _ xs _ Hz.out hn).mono ?_
    rintro e w1 ⟨rfl, hd1⟩
    have hb1 := hd1.toBelow (B := wz.heap.size)
    have HX1 := Lib.hid (c5_keep HX.out hb1)
    have H1 := Lib.hid (Hz.out.to_below hb1)
    have I1 := Lib.hid (Iz.out.to_below hb1)
    have HB1 := Lib.hid (HBz.out.trans (hb1.mono HBz.out.size))
    clear hb1 hd1
    rw [Hok.out, ← HS.out]
    obtain ⟨x0, x1, x2, x3, x4, -⟩ := HX1.out
    go_wp2_with fail
    refine (specNodeAt_any (some ad) P n c m q xs p _ H1.out I1.out hn hm).mono ?_
    rintro e w2 ⟨rfl, hb2⟩
    clear x0 x1 x2 x3 x4
    have HX2 := Lib.hid (c5_keep HX1.out hb2)
    have H2 := Lib.hid (H1.out.to_below hb2)
    have HB2 := Lib.hid (HB1.out.trans (hb2.mono HB1.out.size))
    have hs2 := HB2.out.size
    clear hb2
    rw [HXE.out]
    go_wp2_with fail
    refine (l3Copy_ex ad n c xs _ H2.out hn).mono ?_
    rintro e w3 ⟨A3, c3, rfl, ho3, hg3⟩
    have hb3 := (Below.refl w2.heap.size w2).grown hg3 (Nat.le_refl _) (fun _ hk => by cases hk)
    have HX3 := Lib.hid (c5_keep HX2.out hb3)
    have H3 := Lib.hid (H2.out.to_below hb3)
    have HB3 := Lib.hid (HB2.out.trans (hb3.mono hs2))
    have HO3 := Lib.hid (own_base ho3 hs2)
    have hs3 := HB3.out.size
    clear hb3 hg3 ho3
    obtain ⟨x0, x1, x2, x3, x4, -⟩ := HX3.out
    have OC := Lib.hid (l13Code_any ad n c xs (i : Int) 2 a (f) (z) p P m q w3 H3.out hn Hok.out HXX.out)
    go_wp2_with fail
    refine OC.out.mono ?_
    rintro e w4 ⟨rfl, hb4⟩
    rw [HCC.out]
    clear x0 x1 x2 x3 x4 OC
    have HX4 := Lib.hid (c5_keep HX3.out hb4)
    have H4 := Lib.hid (H3.out.to_below hb4)
    have HB4 := Lib.hid (HB3.out.trans (hb4.mono hs3))
    have HO4 := Lib.hid (own_below HO3.out hb4)
    have hs4 := HB4.out.size
    clear hb4
    obtain ⟨x0, x1, x2, x3, x4, -⟩ := HX4.out
    go_wp2_with fail
    refine (specEndOf_any _ _ _ xs _ _ H4.out hn).mono ?_
    rintro e w5 ⟨rfl, hd5⟩
    rw [He.out]
    have B5 := Lib.hid (hd5.toBelow (B := w4.heap.size))
    clear hd5 x0 x1 x2 x3 x4
    have z5 := B5.out.size
    go_wp2_with fail
    refine (l13Shift_any _ _ _ xs 0 i 0 _ (H4.out.to_below B5.out) hn Hok.out (by omega) (by omega) (by decide)).mono ?_
    rintro e w6 ⟨A6, c6, rfl, ho6, hb6⟩
    have B6 := Lib.hid (B5.out.trans (hb6.mono z5))
    have O6 := Lib.hid (own_base ho6 z5)
    have z6 := B6.out.size
    clear ho6 hb6
    go_wp2_with fail
    refine (l13Shift_any _ _ _ xs j E (-1) _ (H4.out.to_below B6.out) hn Hok.out (by omega) (by omega) (by decide)).mono ?_
    rintro e w7 ⟨A7, c7, rfl, ho7, hb7⟩
    have B7 := Lib.hid (B6.out.trans (hb7.mono z6))
    have O6 := Lib.hid (own_below O6.out hb7)
    have O7 := Lib.hid (own_base ho7 z6)
    have z7 := B7.out.size
    clear ho7 hb7
    go_wp2_with (at_builtin; go_loud (refine append_own_own w7 rfl _ _ 24 rfl w4.heap.size 47 i0 (.agg #[.int .i64 0, .int .i64 0]) 2 16 Try.underlying24 hi0 hz0 hz1 hz2 rfl (by decide) (.slice A6 (Tr.sh xs 0 i 0).length c6) (Tr.sh xs 0 i 0).length (Tr.cells (Tr.sh xs 0 i 0)) rfl O6.out w4.heap.size 47 (.slice A7 (Tr.sh xs j E (-1)).length c7) (Tr.sh xs j E (-1)).length (Tr.cells (Tr.sh xs j E (-1))) rfl O7.out (Tr.cells_cell _) (by unfold maxLen; simp only [Tr.sh_len]; omega) (by simp only [Tr.sh_len]; omega) (by have := z7; omega) ?_; intro v8 w8 hown hgrow))
    have B8 := Lib.hid (B7.out.grown hgrow z7 (fun g hg => (O6.out.lt g hg).1))
    rw [← List.length_append, ← Tr.cells_append] at hown
    obtain ⟨M, hM⟩ : ∃ M, M = Tr.sh xs 0 i 0 ++ Tr.sh xs j E (-1) := ⟨_, rfl⟩
    rw [← hM] at hown
    have lM : M.length ≤ 1000 := by rw [hM, List.length_append, Tr.sh_len, Tr.sh_len]; omega
    have HDEL := Lib.hid (show M ++ Tr.sh xs E n 0 = Oc.del xs i by rw [hM]; exact HDEL.out)
    have O8 := Lib.hid hown
    have z8 := B8.out.size
    clear hown hgrow hM
    obtain ⟨A8, c8, rfl⟩ := own_slice O8.out
    go_wp2_with fail
    refine (l13Shift_any _ _ _ xs E n 0 _ (H4.out.to_below B8.out) hn Hok.out (by omega) (by omega) (by decide)).mono ?_
    rintro e w9 ⟨A9, c9, rfl, ho9, hb9⟩
    have B9 := Lib.hid (B8.out.trans (hb9.mono z8))
    have O8 := Lib.hid (own_below O8.out hb9)
    have O9 := Lib.hid (own_base ho9 z8)
    have z9 := B9.out.size
    clear ho9 hb9
    go_wp2_with (at_builtin; go_loud (refine append_own_own w9 rfl _ _ 24 rfl w4.heap.size 47 i0 (.agg #[.int .i64 0, .int .i64 0]) 2 16 Try.underlying24 hi0 hz0 hz1 hz2 rfl (by decide) (.slice A8 M.length c8) M.length (Tr.cells M) rfl O8.out w4.heap.size 47 (.slice A9 (Tr.sh xs E n 0).length c9) (Tr.sh xs E n 0).length (Tr.cells (Tr.sh xs E n 0)) rfl O9.out (Tr.cells_cell _) (by unfold maxLen; simp only [Tr.sh_len]; omega) (by simp only [Tr.sh_len]; omega) (by have := z9; omega) ?_; intro v10 w10 hown hgrow))
    have B10 := Lib.hid (B9.out.grown hgrow z9 (fun g hg => (O8.out.lt g hg).1))
    rw [← List.length_append, ← Tr.cells_append, HDEL.out] at hown
    have O10 := Lib.hid (own_base hown hs4)
    have HE := Lib.hid (HB4.out.trans (B10.out.mono hs4))
    clear hown hgrow
    obtain ⟨A10, c10, rfl⟩ := own_slice O10.out
    go_wp2
    go_ret2
    exact ⟨A10, c10, by rw [HR.out]; rfl, by rw [HR.out]; exact O10.out, HE.out⟩
  · dsimp only at e hf hz hr
    subst e
    obtain ⟨fN, rfl⟩ := Int.eq_ofNat_of_zero_le hf
    obtain ⟨zN, rfl⟩ := Int.eq_ofNat_of_zero_le hz
    rw [Int.toNat_natCast, Int.toNat_natCast] at hr
    have FT := Oc.ft_ins (xs := xs) (o := ⟨3, p, a, (fN : Int), (zN : Int)⟩) (i := i) hcode rfl
    dsimp only at FT
    rw [Int.toNat_natCast, Int.toNat_natCast] at FT
    have HCC := Lib.hid (show (Value.tuple #[.int .i64 (Oc.code xs ⟨3, p, a, (fN : Int), (zN : Int)⟩ (i : Int)), .int .i64 (Oc.fromN xs ⟨3, p, a, (fN : Int), (zN : Int)⟩ (i : Int)), .int .i64 (Oc.toN xs ⟨3, p, a, (fN : Int), (zN : Int)⟩ (i : Int))]) = .tuple #[.int .i64 0, .int .i64 ((Tr.cut xs i fN : Nat) : Int), .int .i64 ((Tr.cut xs i (fN + zN) : Nat) : Int)] by rw [hcode, FT.1, FT.2])
    have HR := Lib.hid (show Oc.apply xs ⟨3, p, a, (fN : Int), (zN : Int)⟩ = (Oc.ins xs i a (Tr.cut xs i fN) (Tr.cut xs i (fN + zN)), 0) by rw [HR0.out]; unfold Oc.new; dsimp only; rw [if_neg (by decide), if_neg (by decide)]; rw [HXE.out, Int.toNat_natCast, Int.toNat_natCast, Int.toNat_natCast])
    have hFT := Tr.cut_mono hok hix (q := fN) (r := fN + zN) (by omega) hr
    have hT1 := (Tr.cut_bound hok hix (fN + zN) hr).1.2.1
    have hE2 := (Tr.endN_spec xs i hix).2.1
    obtain ⟨F, hFF⟩ : ∃ F, F = Tr.cut xs i fN := ⟨_, rfl⟩
    obtain ⟨T, hTT⟩ : ∃ T, T = Tr.cut xs i (fN + zN) := ⟨_, rfl⟩
    rw [← hFF, ← hTT] at hFT HR HCC
    have hTn : T ≤ n := by rw [hTT, ← HL.out]; omega
    have bi := (Tr.ok_at hok hix).2.1
    obtain ⟨d, hd⟩ : ∃ d, d = Tr.d xs i + 1 := ⟨_, rfl⟩
    have HINS := Lib.hid (show ((Tr.sh xs 0 F 0 ++ [(a, d)]) ++ Tr.sh xs F T 1) ++ Tr.sh xs T n 0 = Oc.ins xs i a F T by unfold Oc.ins; rw [HL.out, hd])
    have a5 : IntKind.i64.wrap (Tr.d xs i + 1) = d := by rw [hd]; exact Kit.w64 (by omega) (by omega)
    clear HR0 ha hf hz hr hrest FT hcode hok hix hT1 hE2 hFF hTT bi hd
    obtain ⟨wz, hwz⟩ : ∃ wz, wz = w.alloc (.cells #[.int .i64 3, .slice P m q, .int .i64 a, .int .i64 (fN : Int), .int .i64 (zN : Int)] 39) := ⟨_, rfl⟩
    obtain ⟨s, hs⟩ : ∃ s, s = w.heap.size := ⟨_, rfl⟩
    have HBz := Lib.hid (show Below w.heap.size w wz by rw [hwz]; exact (Below.refl _ _).alloc (Nat.le_refl _) _)
    have HX := Lib.hid (show wz.cell? ⟨s, 0, none⟩ = some (.int .i64 3) ∧ wz.cell? ⟨s, 1, none⟩ = some (.slice P m q) ∧ wz.cell? ⟨s, 2, none⟩ = some (.int .i64 a) ∧ wz.cell? ⟨s, 3, none⟩ = some (.int .i64 (fN : Int)) ∧ wz.cell? ⟨s, 4, none⟩ = some (.int .i64 (zN : Int)) ∧ BelA wz wz by rw [hwz, hs]; exact ⟨by simp, by simp, by simp, by simp, by simp, Below.refl _ _⟩)
    have HW := Lib.hid hwz
    have HS := Lib.hid hs
    have Hz := Lib.hid (H.out.to_below HBz.out)
    clear hwz hs
    have Iz := Lib.hid (I.out.to_below HBz.out)
    go_enter Try.func22, Try.ntmps22
    go_wp2_with fail
    rw [← HW.out]
    refine (specTreeOk_any _ _ _ xs _ Hz.out hn).mono ?_
    rintro e w1 ⟨rfl, hd1⟩
    have hb1 := hd1.toBelow (B := wz.heap.size)
    have HX1 := Lib.hid (c5_keep HX.out hb1)
    have H1 := Lib.hid (Hz.out.to_below hb1)
    have I1 := Lib.hid (Iz.out.to_below hb1)
    have HB1 := Lib.hid (HBz.out.trans (hb1.mono HBz.out.size))
    clear hb1 hd1
    rw [Hok.out, ← HS.out]
    obtain ⟨x0, x1, x2, x3, x4, -⟩ := HX1.out
    go_wp2_with fail
    refine (specNodeAt_any (some ad) P n c m q xs p _ H1.out I1.out hn hm).mono ?_
    rintro e w2 ⟨rfl, hb2⟩
    clear x0 x1 x2 x3 x4
    have HX2 := Lib.hid (c5_keep HX1.out hb2)
    have H2 := Lib.hid (H1.out.to_below hb2)
    have HB2 := Lib.hid (HB1.out.trans (hb2.mono HB1.out.size))
    have hs2 := HB2.out.size
    clear hb2
    rw [HXE.out]
    go_wp2_with fail
    refine (l3Copy_ex ad n c xs _ H2.out hn).mono ?_
    rintro e w3 ⟨A3, c3, rfl, ho3, hg3⟩
    have hb3 := (Below.refl w2.heap.size w2).grown hg3 (Nat.le_refl _) (fun _ hk => by cases hk)
    have HX3 := Lib.hid (c5_keep HX2.out hb3)
    have H3 := Lib.hid (H2.out.to_below hb3)
    have HB3 := Lib.hid (HB2.out.trans (hb3.mono hs2))
    have HO3 := Lib.hid (own_base ho3 hs2)
    have hs3 := HB3.out.size
    clear hb3 hg3 ho3
    obtain ⟨x0, x1, x2, x3, x4, -⟩ := HX3.out
    have OC := Lib.hid (l13Code_any ad n c xs (i : Int) 3 a (fN : Int) (zN : Int) p P m q w3 H3.out hn Hok.out HXX.out)
    go_wp2_with fail
    refine OC.out.mono ?_
    rintro e w4 ⟨rfl, hb4⟩
    rw [HCC.out]
    clear x0 x1 x2 x3 x4 OC
    have HX4 := Lib.hid (c5_keep HX3.out hb4)
    have H4 := Lib.hid (H3.out.to_below hb4)
    have HB4 := Lib.hid (HB3.out.trans (hb4.mono hs3))
    have HO4 := Lib.hid (own_below HO3.out hb4)
    have hs4 := HB4.out.size
    clear hb4
    obtain ⟨x0, x1, x2, x3, x4, -⟩ := HX4.out
    obtain ⟨hl', hd'⟩ := H4.out.here hi
    have b0 : (0 : Int) ≤ (i : Int) := by omega
    have b1 : (i : Int) < (n : Int) := by omega
    have Hi0 := Lib.hid hi0
    have S0 := Lib.hid (show w4.drew.cell? ⟨s, 2, none⟩ = some (.int .i64 a) ∧ w4.drew.cell? ⟨(ad.add (i * 2)).block, (ad.add (i * 2)).off + 1, none⟩ = some (.int .i64 (Tr.d xs i)) ∧ BelA w4 w4.drew from ⟨x2, hd', (Drawn.refl _).drew.toBelow⟩)
    have S00 := Lib.hid (show w4.cell? ⟨s, 2, none⟩ = some (.int .i64 a) ∧ w4.cell? ⟨(ad.add (i * 2)).block, (ad.add (i * 2)).off + 1, none⟩ = some (.int .i64 (Tr.d xs i)) from ⟨x2, hd'⟩)
    have C1 := Lib.hid (fun (wq : World) (hb : Below w4.heap.size w4 wq) => show Calls Try.prog 81 #[.slice (some ad) n c, .int .i64 0, .int .i64 (F : Int), .int .i64 0] wq (fun e w' => ∃ A6 c6, e = .returned (.slice A6 (Tr.sh xs 0 F 0).length c6) ∧ w'.ownsRow w4.heap.size 47 2 (.slice A6 (Tr.sh xs 0 F 0).length c6) (Tr.sh xs 0 F 0).length (Tr.cells (Tr.sh xs 0 F 0)) ∧ Below wq.heap.size wq w') from (l13Shift_any (some ad) n c xs 0 F 0 wq (H4.out.to_below hb) hn Hok.out (by omega) (by omega) (by decide)).mono fun e w' ⟨A6, c6, h1, h2, h3⟩ => ⟨A6, c6, h1, own_base h2 hb.size, h3⟩)
    clear hl' hi0
    go_wp2_with fail
    clear x0 x1 x2 x3 x4 hd'
    go_region_held3 (fun wq => wq.cell? ⟨s, 2, none⟩ = some (.int .i64 a) ∧ wq.cell? ⟨(ad.add (i * 2)).block, (ad.add (i * 2)).off + 1, none⟩ = some (.int .i64 (Tr.d xs i)) ∧ BelA w4 wq) (first | (with_reducible exact SD) | (with_reducible exact SC) | (with_reducible exact S0.out) | (with_reducible exact SA _) | (with_reducible exact c2_keep S0.out ((Below.refl _ _).alloc (Nat.le_refl _) _))) (first | (go_at_call 81; refine (C1.out _ (c2_below (by assumption))).mono ?_; rintro e w6 ⟨A6, c6, rfl, ho6, hb6⟩; have SC := c2_keep (by assumption) hb6; have SA := (fun (o : Obj) => c2_keep SC ((Below.refl w6.heap.size w6).alloc (Nat.le_refl _) o)); have sz6 := (c2_below SC).size; (try (have hlit := (nd_lit (w := w4.drew) (a := a) (d := d) (T := 47)).to_below hb6))) | (refine step_append_nodes _ rfl _ _ 24 rfl w4.heap.size 47 i0 Try.underlying24 Hi0.out hz0 hz1 hz2 (.slice A6 (Tr.sh xs 0 F 0).length c6) (Tr.sh xs 0 F 0).length 1 ((Tr.sh xs 0 F 0).length + 1) (Tr.sh xs 0 F 0) [(a, d)] rfl ho6 ⟨w4.heap.size, 0, none⟩ 1 rfl hlit rfl (by simp only [Tr.sh_len]; omega) sz6 ?_; intro v7 w7 hown7 hgrow7; have SD := c2_grown S00.out SC hgrow7 (fun b e => (ho6.lt b e).1)) | (refine step_append_nodes (World.alloc w6 (.cells #[.int .i64 a, .int .i64 d] 47)) rfl _ _ 24 rfl w4.heap.size 47 i0 Try.underlying24 Hi0.out hz0 hz1 hz2 (.slice A6 (Tr.sh xs 0 F 0).length c6) (Tr.sh xs 0 F 0).length 1 ((Tr.sh xs 0 F 0).length + 1) (Tr.sh xs 0 F 0) [(a, d)] rfl (ho6.alloc _) ⟨w6.heap.size, 0, none⟩ 1 rfl nd_lit rfl (by simp only [Tr.sh_len]; omega) (by simp; omega) ?_; intro v7 w7 hown7 hgrow7; have SD := c2_grown S00.out (SA _) hgrow7 (fun b e => (ho6.lt b e).1)))
    all_goals
      have hi0 := Hi0.out
      obtain ⟨M, hM⟩ : ∃ M, M = Tr.sh xs 0 F 0 ++ [(a, d)] := ⟨_, rfl⟩
      have hMl : (Tr.sh xs 0 F 0).length + 1 = M.length := by rw [hM]; simp
      rw [← hM, hMl] at hown7
      have lM : M.length ≤ 1000 := by rw [← hMl, Tr.sh_len]; omega
      have HINS := Lib.hid (show (M ++ Tr.sh xs F T 1) ++ Tr.sh xs T n 0 = Oc.ins xs i a F T by rw [hM]; exact HINS.out)
      have O7 := Lib.hid hown7
      have B7 := Lib.hid (c2_below SD)
      have z7 := B7.out.size
      clear hown7 hM hMl
      obtain ⟨A7, c7, rfl⟩ := own_slice O7.out
      go_wp2_with fail
      refine (l13Shift_any _ _ _ xs F T 1 _ (H4.out.to_below B7.out) hn Hok.out hFT hTn (by decide)).mono ?_
      rintro e w8 ⟨A8, c8, rfl, ho8, hb8⟩
      have B8 := Lib.hid (B7.out.trans (hb8.mono z7))
      have O7 := Lib.hid (own_below O7.out hb8)
      have O8 := Lib.hid (own_base ho8 z7)
      have z8 := B8.out.size
      clear ho8 hb8
      go_wp2_with (at_builtin; go_loud (refine append_own_own w8 rfl _ _ 24 rfl w4.heap.size 47 i0 (.agg #[.int .i64 0, .int .i64 0]) 2 16 Try.underlying24 hi0 hz0 hz1 hz2 rfl (by decide) (.slice A7 M.length c7) M.length (Tr.cells M) rfl O7.out w4.heap.size 47 (.slice A8 (Tr.sh xs F T 1).length c8) (Tr.sh xs F T 1).length (Tr.cells (Tr.sh xs F T 1)) rfl O8.out (Tr.cells_cell _) (by unfold maxLen; simp only [Tr.sh_len]; omega) (by simp only [Tr.sh_len]; omega) (by have := z8; omega) ?_; intro v9 w9 hown hgrow))
      have B9 := Lib.hid (B8.out.grown hgrow z8 (fun g hg => (O7.out.lt g hg).1))
      rw [← List.length_append, ← Tr.cells_append] at hown
      obtain ⟨L, hL⟩ : ∃ L, L = M ++ Tr.sh xs F T 1 := ⟨_, rfl⟩
      rw [← hL] at hown
      have lL : L.length ≤ 2000 := by rw [hL, List.length_append, Tr.sh_len]; omega
      have HINS := Lib.hid (show L ++ Tr.sh xs T n 0 = Oc.ins xs i a F T by rw [hL]; exact HINS.out)
      have O9 := Lib.hid hown
      have z9 := B9.out.size
      clear hown hgrow hL
      obtain ⟨A9, c9, rfl⟩ := own_slice O9.out
      go_wp2_with fail
      refine (l13Shift_any _ _ _ xs T n 0 _ (H4.out.to_below B9.out) hn Hok.out hTn (Nat.le_refl _) (by decide)).mono ?_
      rintro e w10 ⟨A10, c10, rfl, ho10, hb10⟩
      have B10 := Lib.hid (B9.out.trans (hb10.mono z9))
      have O9 := Lib.hid (own_below O9.out hb10)
      have O10 := Lib.hid (own_base ho10 z9)
      have z10 := B10.out.size
      clear ho10 hb10
      go_wp2_with (at_builtin; go_loud (refine append_own_own w10 rfl _ _ 24 rfl w4.heap.size 47 i0 (.agg #[.int .i64 0, .int .i64 0]) 2 16 Try.underlying24 hi0 hz0 hz1 hz2 rfl (by decide) (.slice A9 L.length c9) L.length (Tr.cells L) rfl O9.out w4.heap.size 47 (.slice A10 (Tr.sh xs T n 0).length c10) (Tr.sh xs T n 0).length (Tr.cells (Tr.sh xs T n 0)) rfl O10.out (Tr.cells_cell _) (by unfold maxLen; simp only [Tr.sh_len]; omega) (by simp only [Tr.sh_len]; omega) (by have := z10; omega) ?_; intro v11 w11 hown hgrow))
      have B11 := Lib.hid (B10.out.grown hgrow z10 (fun g hg => (O9.out.lt g hg).1))
      rw [← List.length_append, ← Tr.cells_append, HINS.out] at hown
      have O11 := Lib.hid (own_base hown hs4)
      have HE := Lib.hid (HB4.out.trans (B11.out.mono hs4))
      clear hown hgrow
      obtain ⟨A11, c11, rfl⟩ := own_slice O11.out
      go_wp2
      go_ret2
      exact ⟨A11, c11, by rw [HR.out]; rfl, by rw [HR.out]; exact O11.out, HE.out⟩

end Go.Proofs.Ytgkkeejhfofcaaa
