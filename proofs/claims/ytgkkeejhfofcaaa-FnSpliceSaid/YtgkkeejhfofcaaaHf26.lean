/- Texts of one claim laid into one file, in build order: CodS13. -/
import Derived.Test.YtgkkeejhfofcaaaHf23
import Derived.Test.YtgkkeejhfofcaaaHf25
import Derived.Test.YtgkkeejhfofcaaaHf7
import Derived.Test.YtgkkeejhfofcaaaHf8
/- Contracts (CodS13). -/
namespace Go.Proofs.Ytgkkeejhfofcaaa
open Go.RowKit
set_option linter.unusedVariables false

set_option maxHeartbeats 6400000 in
set_option maxRecDepth 100000 in
theorem l13Code_any (ad : Addr) (n c : Nat) (xs : Tr) (x k a f z : Int) (p : List Int) (P : Option Addr) (m q : Nat) (w : World) (h : NdIn w w.heap.size (some ad) n xs) (hn : n ≤ 1048576) (hok : Tr.ok xs = true) (hx : x = -1 ∨ ∃ i : Nat, x = i ∧ i < n) :
    Calls Try.prog 79 #[.slice (some ad) n c, .agg #[.int .i64 k, .slice P m q, .int .i64 a, .int .i64 f, .int .i64 z], .int .i64 x] w (fun e w' => e = .returned (.tuple #[.int .i64 (Oc.code xs ⟨k, p, a, f, z⟩ x), .int .i64 (Oc.fromN xs ⟨k, p, a, f, z⟩ x), .int .i64 (Oc.toN xs ⟨k, p, a, f, z⟩ x)]) ∧ Below w.heap.size w w') := by
  have H := Lib.hid h
  clear h
  by_cases c0 : 1 ≤ k ∧ k ≤ 3
  rotate_left
  · have dk : decide (1 ≤ k ∧ k ≤ 3) = false := decide_eq_false c0
    have HF := Lib.hid (Oc.code1 (xs := xs) (o := ⟨k, p, a, f, z⟩) (x := x) c0)
    have HFT := Lib.hid (Oc.ft_code (xs := xs) (o := ⟨k, p, a, f, z⟩) (x := x) (by rw [HF.out]; decide))
    have hla : Lab.ok a = Lab.ok a := rfl
    clear c0
    go_enter Try.func79, Try.ntmps79
    go_wp2_with (first | (go_at_call 56; refine (l1In_any _ _ _ _).mono ?_; rintro e w' ⟨rfl, rfl⟩; first | rw [dk] | rw [df] | rw [dz]) | (go_at_call 55; refine (specLabelOk_any _ _).mono ?_; rintro e w' ⟨rfl, rfl⟩; rw [hla]))
    refine bodyPost_ret (v := .tuple #[.int .i64 1, .int .i64 0, .int .i64 0]) (by simp [results, Try.results79, go_sem]) rfl ?_
    exact ⟨by rw [HF.out, HFT.out.1, HFT.out.2], (Below.refl _ _).alloc (Nat.le_refl _) _⟩
  have dk : decide (1 ≤ k ∧ k ≤ 3) = true := decide_eq_true c0
  by_cases cx : x < 0
  · have HF := Lib.hid (Oc.code2 (xs := xs) (o := ⟨k, p, a, f, z⟩) (x := x) c0 cx)
    have HFT := Lib.hid (Oc.ft_code (xs := xs) (o := ⟨k, p, a, f, z⟩) (x := x) (by rw [HF.out]; decide))
    have dx : decide (x < 0) = true := decide_eq_true cx
    clear c0
    go_enter Try.func79, Try.ntmps79
    go_wp2_with (first | (go_at_call 56; refine (l1In_any _ _ _ _).mono ?_; rintro e w' ⟨rfl, rfl⟩; first | rw [dk] | rw [df] | rw [dz]) | (go_at_call 55; refine (specLabelOk_any _ _).mono ?_; rintro e w' ⟨rfl, rfl⟩; rw [hla]))
    refine bodyPost_ret (v := .tuple #[.int .i64 2, .int .i64 0, .int .i64 0]) (by simp [results, Try.results79, go_sem]) rfl ?_
    exact ⟨by rw [HF.out, HFT.out.1, HFT.out.2], (Below.refl _ _).alloc (Nat.le_refl _) _⟩
  obtain ⟨i, rfl, hi⟩ := hx.resolve_left (by omega)
  have dx : decide ((i : Int) < 0) = false := decide_eq_false cx
  rcases (show k = 1 ∨ k = 2 ∨ k = 3 by omega) with rfl | rfl | rfl
  · rcases hla : Lab.ok a with _ | _
    · have HF := Lib.hid (Oc.code3 (xs := xs) (o := ⟨1, p, a, f, z⟩) (x := i) c0 cx (show (1 : Int) ≠ 2 by decide) hla)
      have HFT := Lib.hid (Oc.ft_code (xs := xs) (o := ⟨1, p, a, f, z⟩) (x := i) (by rw [HF.out]; decide))
      clear c0 cx
      go_enter Try.func79, Try.ntmps79
      go_wp2_with (first | (go_at_call 56; refine (l1In_any _ _ _ _).mono ?_; rintro e w' ⟨rfl, rfl⟩; first | rw [dk] | rw [df] | rw [dz]) | (go_at_call 55; refine (specLabelOk_any _ _).mono ?_; rintro e w' ⟨rfl, rfl⟩; rw [hla]))
      refine bodyPost_ret (v := .tuple #[.int .i64 3, .int .i64 0, .int .i64 0]) (by simp [results, Try.results79, go_sem]) rfl ?_
      exact ⟨by rw [HF.out, HFT.out.1, HFT.out.2], (Below.refl _ _).alloc (Nat.le_refl _) _⟩
    · have HF := Lib.hid (Oc.code_rel (xs := xs) (o := ⟨1, p, a, f, z⟩) (x := i) rfl cx hla)
      have HFT := Lib.hid (Oc.ft_kind (xs := xs) (o := ⟨1, p, a, f, z⟩) (x := i) (show (1 : Int) ≠ 3 by decide))
      clear c0 cx
      go_enter Try.func79, Try.ntmps79
      go_wp2_with (first | (go_at_call 56; refine (l1In_any _ _ _ _).mono ?_; rintro e w' ⟨rfl, rfl⟩; first | rw [dk] | rw [df] | rw [dz]) | (go_at_call 55; refine (specLabelOk_any _ _).mono ?_; rintro e w' ⟨rfl, rfl⟩; rw [hla]))
      refine bodyPost_ret (v := .tuple #[.int .i64 0, .int .i64 0, .int .i64 0]) (by simp [results, Try.results79, go_sem]) rfl ?_
      exact ⟨by rw [HF.out, HFT.out.1, HFT.out.2], (Below.refl _ _).alloc (Nat.le_refl _) _⟩
  · rcases Nat.eq_zero_or_pos i with rfl | h0
    · have HF := Lib.hid (show Oc.code xs ⟨2, p, a, f, z⟩ ((0 : Nat) : Int) = 4 by rw [Oc.code_del rfl (by decide)]; rfl)
      have HFT := Lib.hid (Oc.ft_kind (xs := xs) (o := ⟨2, p, a, f, z⟩) (x := ((0 : Nat) : Int)) (show (2 : Int) ≠ 3 by decide))
      clear c0 cx
      go_enter Try.func79, Try.ntmps79
      go_wp2_with (first | (go_at_call 56; refine (l1In_any _ _ _ _).mono ?_; rintro e w' ⟨rfl, rfl⟩; first | rw [dk] | rw [df] | rw [dz]) | (go_at_call 55; refine (specLabelOk_any _ _).mono ?_; rintro e w' ⟨rfl, rfl⟩; rw [hla]))
      refine bodyPost_ret (v := .tuple #[.int .i64 4, .int .i64 0, .int .i64 0]) (by simp [results, Try.results79, go_sem]) rfl ?_
      exact ⟨by rw [HF.out, HFT.out.1, HFT.out.2], (Below.refl _ _).alloc (Nat.le_refl _) _⟩
    · have HF := Lib.hid (show Oc.code xs ⟨2, p, a, f, z⟩ (i : Int) = 0 by rw [Oc.code_del rfl cx, if_neg (by omega)])
      have HFT := Lib.hid (Oc.ft_kind (xs := xs) (o := ⟨2, p, a, f, z⟩) (x := i) (show (2 : Int) ≠ 3 by decide))
      have q0 : ((i : Int) == 0) = false := by simp; omega
      have q1 : (i == 0) = false := by simp; omega
      clear c0 cx
      go_enter Try.func79, Try.ntmps79
      go_wp2_with (first | (go_at_call 56; refine (l1In_any _ _ _ _).mono ?_; rintro e w' ⟨rfl, rfl⟩; first | rw [dk] | rw [df] | rw [dz]) | (go_at_call 55; refine (specLabelOk_any _ _).mono ?_; rintro e w' ⟨rfl, rfl⟩; rw [hla]))
      refine bodyPost_ret (v := .tuple #[.int .i64 0, .int .i64 0, .int .i64 0]) (by simp [results, Try.results79, go_sem]) rfl ?_
      exact ⟨by rw [HF.out, HFT.out.1, HFT.out.2], (Below.refl _ _).alloc (Nat.le_refl _) _⟩
  · rcases hla : Lab.ok a with _ | _
    · have HF := Lib.hid (Oc.code3 (xs := xs) (o := ⟨3, p, a, f, z⟩) (x := i) c0 cx (show (3 : Int) ≠ 2 by decide) hla)
      have HFT := Lib.hid (Oc.ft_code (xs := xs) (o := ⟨3, p, a, f, z⟩) (x := i) (by rw [HF.out]; decide))
      clear c0 cx
      go_enter Try.func79, Try.ntmps79
      go_wp2_with (first | (go_at_call 56; refine (l1In_any _ _ _ _).mono ?_; rintro e w' ⟨rfl, rfl⟩; first | rw [dk] | rw [df] | rw [dz]) | (go_at_call 55; refine (specLabelOk_any _ _).mono ?_; rintro e w' ⟨rfl, rfl⟩; rw [hla]))
      refine bodyPost_ret (v := .tuple #[.int .i64 3, .int .i64 0, .int .i64 0]) (by simp [results, Try.results79, go_sem]) rfl ?_
      exact ⟨by rw [HF.out, HFT.out.1, HFT.out.2], (Below.refl _ _).alloc (Nat.le_refl _) _⟩
    · have HF0 := Lib.hid (Oc.code_ins (xs := xs) (o := ⟨3, p, a, f, z⟩) (i := i) rfl hla)
      have hla := hla
      have HL := Lib.hid H.out.1
      have hix : i < xs.length := by rw [HL.out]; exact hi
      have hh : Tr.has xs (i : Int) = true := Tr.has_iff.2 ⟨hok, by omega, by omega⟩
      have n24 := Tr.len24 hok
      rw [HL.out] at n24
      have hkl := Tr.kidsI_length hh
      obtain ⟨K, hK⟩ : ∃ K, K = (Tr.kidsI xs (i : Int)).length := ⟨_, rfl⟩
      have hkn : K ≤ n := by rw [hK, ← HL.out]; exact Tr.kidsI_len xs i
      rw [← hK] at hkl
      have HKI := Lib.hid hK
      have HKK := Lib.hid hkl
      have HI5 := Lib.hid (Oc.icode5 (xs := xs) (i := i) (f := f) (z := z))
      have HI6 := Lib.hid (Oc.icode6 (xs := xs) (i := i) (f := f) (z := z))
      have HID := Lib.hid (Oc.icode_deep (xs := xs) (i := i) (f := f) (z := z))
      obtain ⟨wz, hwz⟩ : ∃ wz, wz = w.alloc (.cells #[.int .i64 3, .slice P m q, .int .i64 a, .int .i64 f, .int .i64 z] 39) := ⟨_, rfl⟩
      obtain ⟨s, hs⟩ : ∃ s, s = w.heap.size := ⟨_, rfl⟩
      have HBz := Lib.hid (show Below w.heap.size w wz by rw [hwz]; exact (Below.refl _ _).alloc (Nat.le_refl _) _)
      have HX := Lib.hid (show wz.cell? ⟨s, 0, none⟩ = some (.int .i64 3) ∧ wz.cell? ⟨s, 1, none⟩ = some (.slice P m q) ∧ wz.cell? ⟨s, 2, none⟩ = some (.int .i64 a) ∧ wz.cell? ⟨s, 3, none⟩ = some (.int .i64 f) ∧ wz.cell? ⟨s, 4, none⟩ = some (.int .i64 z) ∧ BelA wz wz by rw [hwz, hs]; exact ⟨by simp, by simp, by simp, by simp, by simp, Below.refl _ _⟩)
      have HW := Lib.hid hwz
      have HS := Lib.hid hs
      have Hz := Lib.hid (H.out.to_below HBz.out)
      clear hwz hs
      clear hkl hK c0 cx
      by_cases c1 : 0 ≤ f ∧ f ≤ (K : Int)
      rotate_left
      · have df : decide (0 ≤ f ∧ f ≤ (K : Int)) = false := decide_eq_false c1
        have HF := Lib.hid (show Oc.code xs ⟨3, p, a, f, z⟩ (i : Int) = 5 by rw [HF0.out]; exact HI5.out (by rw [← HKK.out]; omega))
        have HFT := Lib.hid (Oc.ft_code (xs := xs) (o := ⟨3, p, a, f, z⟩) (x := i) (by rw [HF.out]; decide))
        clear c1
        go_enter Try.func79, Try.ntmps79
        go_wp2_with (first | (go_at_call 56; refine (l1In_any _ _ _ _).mono ?_; rintro e w' ⟨rfl, rfl⟩; first | rw [dk] | rw [df] | rw [dz]) | (go_at_call 55; refine (specLabelOk_any _ _).mono ?_; rintro e w' ⟨rfl, rfl⟩; rw [hla]))
        rw [← HW.out, ← HS.out]
        refine (specKidsOf_any _ _ _ xs _ _ Hz.out hn).mono ?_
        rintro e w1 ⟨A1, c1, rfl, ho1, hb1⟩
        rw [← HKI.out] at ho1 ⊢
        have HX1 := Lib.hid (c5_keep HX.out hb1)
        have H1 := Lib.hid (Hz.out.to_below hb1)
        have HZ1 := Lib.hid hb1
        have HB := Lib.hid (HBz.out.trans (hb1.mono HBz.out.size))
        have HO := Lib.hid ho1
        obtain ⟨x0, x1, x2, x3, x4, -⟩ := HX1.out
        clear ho1 hb1
        go_wp2_with (go_at_call 56; refine (l1In_any _ _ _ _).mono ?_; rintro e w' ⟨rfl, rfl⟩; first | rw [dk] | rw [df] | rw [dz])
        refine bodyPost_ret (v := .tuple #[.int .i64 5, .int .i64 0, .int .i64 0]) (by simp [results, Try.results79, go_sem]) rfl ?_
        exact ⟨by rw [HF.out, HFT.out.1, HFT.out.2], HB.out⟩
      have df : decide (0 ≤ f ∧ f ≤ (K : Int)) = true := decide_eq_true c1
      have a5 : IntKind.i64.wrap ((K : Int) - f) = (K : Int) - f := Kit.w64 (by omega) (by omega)
      by_cases c2 : 0 ≤ z ∧ z ≤ (K : Int) - f
      rotate_left
      · have dz : decide (0 ≤ z ∧ z ≤ (K : Int) - f) = false := decide_eq_false c2
        have HF := Lib.hid (show Oc.code xs ⟨3, p, a, f, z⟩ (i : Int) = 5 by rw [HF0.out]; exact HI5.out (by rw [← HKK.out]; omega))
        have HFT := Lib.hid (Oc.ft_code (xs := xs) (o := ⟨3, p, a, f, z⟩) (x := i) (by rw [HF.out]; decide))
        clear c1 c2
        go_enter Try.func79, Try.ntmps79
        go_wp2_with (first | (go_at_call 56; refine (l1In_any _ _ _ _).mono ?_; rintro e w' ⟨rfl, rfl⟩; first | rw [dk] | rw [df] | rw [dz]) | (go_at_call 55; refine (specLabelOk_any _ _).mono ?_; rintro e w' ⟨rfl, rfl⟩; rw [hla]))
        rw [← HW.out, ← HS.out]
        refine (specKidsOf_any _ _ _ xs _ _ Hz.out hn).mono ?_
        rintro e w1 ⟨A1, c1, rfl, ho1, hb1⟩
        rw [← HKI.out] at ho1 ⊢
        have HX1 := Lib.hid (c5_keep HX.out hb1)
        have H1 := Lib.hid (Hz.out.to_below hb1)
        have HZ1 := Lib.hid hb1
        have HB := Lib.hid (HBz.out.trans (hb1.mono HBz.out.size))
        have HO := Lib.hid ho1
        obtain ⟨x0, x1, x2, x3, x4, -⟩ := HX1.out
        clear ho1 hb1
        go_wp2_with (go_at_call 56; refine (l1In_any _ _ _ _).mono ?_; rintro e w' ⟨rfl, rfl⟩; first | rw [dk] | rw [df] | rw [dz])
        refine bodyPost_ret (v := .tuple #[.int .i64 5, .int .i64 0, .int .i64 0]) (by simp [results, Try.results79, go_sem]) rfl ?_
        exact ⟨by rw [HF.out, HFT.out.1, HFT.out.2], HB.out⟩
      have dz : decide (0 ≤ z ∧ z ≤ (K : Int) - f) = true := decide_eq_true c2
      obtain ⟨fN, rfl⟩ := Int.eq_ofNat_of_zero_le c1.1
      obtain ⟨zN, rfl⟩ := Int.eq_ofNat_of_zero_le c2.1
      have hrk : fN + zN ≤ K := by omega
      have hr : fN + zN ≤ (Tr.kidsTo xs i (Tr.endN xs i)).length := by rw [← HKK.out]; exact hrk
      have hFT := Tr.cut_mono hok hix (q := fN) (r := fN + zN) (by omega) hr
      have hT1 := (Tr.cut_bound hok hix (fN + zN) hr).1.2.1
      have hE2 := (Tr.endN_spec xs i hix).2.1
      have hbd := Lib.hid fun k => Tr.ok_at (xs := xs) hok (k := k)
      have HC0 := Lib.hid (Tr.cut_at hh (q := fN) (by omega))
      have HC1 := Lib.hid (Tr.cut_at hh (q := fN + zN) hr)
      have HID2 := Lib.hid (fun hn24 => HID.out (by rw [← HKK.out]; omega) hn24)
      have HFI := Lib.hid (fun (h0 : Oc.code xs ⟨3, p, a, (fN : Int), (zN : Int)⟩ (i : Int) = 0) => Oc.ft_ins (xs := xs) (o := ⟨3, p, a, (fN : Int), (zN : Int)⟩) (i := i) h0 rfl)
      have He := Lib.hid (show Tr.endOf xs (i : Int) = (Tr.endN xs i : Int) from Tr.endOf_yes hh)
      have HI6 := Lib.hid (HI6.out (by rw [← HKK.out]; omega))
      rw [Int.toNat_natCast, Int.toNat_natCast] at HID2
      dsimp only at HFI
      rw [Int.toNat_natCast, Int.toNat_natCast] at HFI
      obtain ⟨F, hFF⟩ : ∃ F, F = Tr.cut xs i fN := ⟨_, rfl⟩
      obtain ⟨T, hTT⟩ : ∃ T, T = Tr.cut xs i (fN + zN) := ⟨_, rfl⟩
      rw [← hFF, ← hTT] at hFT HFI HID2
      rw [← hFF] at HC0
      rw [← hTT] at HC1 hT1
      obtain ⟨E, hEE⟩ : ∃ E, E = Tr.endN xs i := ⟨_, rfl⟩
      rw [← hEE] at He HC0 HC1 hT1 hE2
      rw [HL.out] at hE2
      obtain ⟨i0, hi', hz0, hz1, hz2⟩ := info_parts info_intS
      clear hFF hTT hEE hr c1 c2 hh hok hix
      by_cases c5 : n = 24
      · have d5 : ((n : Int) == 24) = true := by simp; omega
        have HF := Lib.hid (show Oc.code xs ⟨3, p, a, (fN : Int), (zN : Int)⟩ (i : Int) = 6 by rw [HF0.out]; exact HI6.out (by rw [HL.out]; exact c5))
        have HFT := Lib.hid (Oc.ft_code (xs := xs) (o := ⟨3, p, a, (fN : Int), (zN : Int)⟩) (x := i) (by rw [HF.out]; decide))
        have Hn := Lib.hid c5
        clear c5
        go_enter Try.func79, Try.ntmps79
        go_wp2_with (first | (go_at_call 56; refine (l1In_any _ _ _ _).mono ?_; rintro e w' ⟨rfl, rfl⟩; first | rw [dk] | rw [df] | rw [dz]) | (go_at_call 55; refine (specLabelOk_any _ _).mono ?_; rintro e w' ⟨rfl, rfl⟩; rw [hla]))
        rw [← HW.out, ← HS.out]
        refine (specKidsOf_any _ _ _ xs _ _ Hz.out hn).mono ?_
        rintro e w1 ⟨A1, c1, rfl, ho1, hb1⟩
        rw [← HKI.out] at ho1 ⊢
        have HX1 := Lib.hid (c5_keep HX.out hb1)
        have H1 := Lib.hid (Hz.out.to_below hb1)
        have HZ1 := Lib.hid hb1
        have HB := Lib.hid (HBz.out.trans (hb1.mono HBz.out.size))
        have HO := Lib.hid ho1
        obtain ⟨x0, x1, x2, x3, x4, -⟩ := HX1.out
        clear ho1 hb1
        have HKZ := Lib.hid hkn
        go_wp2_with (first | (go_at_call 56; refine (l1In_any _ _ _ _).mono ?_; rintro e w' ⟨rfl, rfl⟩; first | rw [dk] | rw [df] | rw [dz]) | fail)
        refine (specEndOf_any _ _ _ xs _ _ H1.out hn).mono ?_
        rintro e w2 ⟨rfl, hd2⟩
        rw [He.out]
        have hb2 := hd2.toBelow (B := w1.heap.size)
        have HX2 := Lib.hid (c5_keep HX1.out hb2)
        have HZ2 := Lib.hid (HZ1.out.trans (hb2.mono HZ1.out.size))
        have HO2 := Lib.hid (own_below HO.out hb2)
        have hs2 := HZ2.out.size
        have HKI2 := Lib.hid (show (Tr.kidsI xs (i : Int)).length = K from HKI.out.symm)
        clear hd2 hb2 x0 x1 x2 x3 x4
        go_wp2_with (at_builtin; go_loud (refine append_int w2 rfl _ _ 29 rfl wz.heap.size 3 i0 Try.underlying29 hi' hz0 hz1 hz2 (.slice A1 K c1) K (Tr.kidsI xs (i : Int)) rfl HO2.out HKI.out (E : Int) rfl (by rw [HKI2.out]; omega) hs2 ?_; intro v3 w3 hown3 hgrow3; have hb3 := Kit.below_own HZ2.out HO2.out hgrow3; rw [List.length_append, HKI2.out, List.length_singleton] at hown3; have HX3 := Lib.hid (c5_keep HX.out hb3); have H3 := Lib.hid (Hz.out.to_below hb3); have HB3 := Lib.hid (HBz.out.trans (hb3.mono HBz.out.size)); obtain ⟨A3, c3, rfl⟩ := own_slice hown3; obtain ⟨g, rfl, hg1, hg2⟩ := own_form hown3 (by simp); have r0 := own_int hown3 (k := fN) (by simp [HKI2.out]; omega); have r1 := own_int hown3 (k := fN + zN) (by simp [HKI2.out]; omega); rw [HC0.out] at r0; rw [HC1.out] at r1; clear hb3 hown3 hgrow3 hg1 hg2; obtain ⟨x0, x1, x2, x3, x4, -⟩ := HX3.out; have b0 : (0 : Int) ≤ (fN : Int) := (by omega); have b1 : (0 : Int) ≤ ((fN + zN : Nat) : Int) := (by omega); have b2 : (fN : Int) < ((K + 1 : Nat) : Int) := (by omega); have b3 : ((fN + zN : Nat) : Int) < ((K + 1 : Nat) : Int) := (by omega); have a6 : IntKind.i64.wrap ((fN : Int) + (zN : Int)) = ((fN + zN : Nat) : Int) := (by rw [Kit.w64 (by omega) (by omega)]; omega); have hdd := H3.out.here hi; have hd' := hdd.2; have b4 : (0 : Int) ≤ (i : Int) := (by omega); have b5 : (i : Int) < (n : Int) := (by omega); have a7 : IntKind.i64.wrap (Tr.d xs i + 1) = Tr.d xs i + 1 := (have bi := (hbd.out i (by rw [HL.out]; exact hi)).2.1; Kit.w64 (by omega) (by omega)); clear hdd))
        refine bodyPost_ret (v := .tuple #[.int .i64 6, .int .i64 0, .int .i64 0]) (by simp [results, Try.results79, go_sem]) rfl ?_
        exact ⟨by rw [HF.out, HFT.out.1, HFT.out.2], HB3.out⟩
      have d5 : ((n : Int) == 24) = false := by simp; omega
      have d5' : (n == 24) = false := by simpa using c5
      have HID3 := Lib.hid (HID2.out (by rw [HL.out]; exact c5))
      clear c5
      by_cases c6 : 12 < Oc.deep xs i F (T - F)
      · have Q12 := Lib.hid (show decide (12 < Oc.deep xs i F (T - F)) = true from decide_eq_true c6)
        have HF := Lib.hid (show Oc.code xs ⟨3, p, a, (fN : Int), (zN : Int)⟩ (i : Int) = 7 by rw [HF0.out]; show Oc.icode xs i (fN : Int) (zN : Int) = 7; rw [HID3.out, if_pos c6])
        have HFT := Lib.hid (Oc.ft_code (xs := xs) (o := ⟨3, p, a, (fN : Int), (zN : Int)⟩) (x := i) (by rw [HF.out]; decide))
        clear c6
        go_enter Try.func79, Try.ntmps79
        go_wp2_with (first | (go_at_call 56; refine (l1In_any _ _ _ _).mono ?_; rintro e w' ⟨rfl, rfl⟩; first | rw [dk] | rw [df] | rw [dz]) | (go_at_call 55; refine (specLabelOk_any _ _).mono ?_; rintro e w' ⟨rfl, rfl⟩; rw [hla]))
        rw [← HW.out, ← HS.out]
        refine (specKidsOf_any _ _ _ xs _ _ Hz.out hn).mono ?_
        rintro e w1 ⟨A1, c1, rfl, ho1, hb1⟩
        rw [← HKI.out] at ho1 ⊢
        have HX1 := Lib.hid (c5_keep HX.out hb1)
        have H1 := Lib.hid (Hz.out.to_below hb1)
        have HZ1 := Lib.hid hb1
        have HB := Lib.hid (HBz.out.trans (hb1.mono HBz.out.size))
        have HO := Lib.hid ho1
        obtain ⟨x0, x1, x2, x3, x4, -⟩ := HX1.out
        clear ho1 hb1
        have HKZ := Lib.hid hkn
        go_wp2_with (first | (go_at_call 56; refine (l1In_any _ _ _ _).mono ?_; rintro e w' ⟨rfl, rfl⟩; first | rw [dk] | rw [df] | rw [dz]) | fail)
        refine (specEndOf_any _ _ _ xs _ _ H1.out hn).mono ?_
        rintro e w2 ⟨rfl, hd2⟩
        rw [He.out]
        have hb2 := hd2.toBelow (B := w1.heap.size)
        have HX2 := Lib.hid (c5_keep HX1.out hb2)
        have HZ2 := Lib.hid (HZ1.out.trans (hb2.mono HZ1.out.size))
        have HO2 := Lib.hid (own_below HO.out hb2)
        have hs2 := HZ2.out.size
        have HKI2 := Lib.hid (show (Tr.kidsI xs (i : Int)).length = K from HKI.out.symm)
        clear hd2 hb2 x0 x1 x2 x3 x4
        go_wp2_with (at_builtin; go_loud (refine append_int w2 rfl _ _ 29 rfl wz.heap.size 3 i0 Try.underlying29 hi' hz0 hz1 hz2 (.slice A1 K c1) K (Tr.kidsI xs (i : Int)) rfl HO2.out HKI.out (E : Int) rfl (by rw [HKI2.out]; omega) hs2 ?_; intro v3 w3 hown3 hgrow3; have hb3 := Kit.below_own HZ2.out HO2.out hgrow3; rw [List.length_append, HKI2.out, List.length_singleton] at hown3; have HX3 := Lib.hid (c5_keep HX.out hb3); have H3 := Lib.hid (Hz.out.to_below hb3); have HB3 := Lib.hid (HBz.out.trans (hb3.mono HBz.out.size)); obtain ⟨A3, c3, rfl⟩ := own_slice hown3; obtain ⟨g, rfl, hg1, hg2⟩ := own_form hown3 (by simp); have r0 := own_int hown3 (k := fN) (by simp [HKI2.out]; omega); have r1 := own_int hown3 (k := fN + zN) (by simp [HKI2.out]; omega); rw [HC0.out] at r0; rw [HC1.out] at r1; clear hb3 hown3 hgrow3 hg1 hg2; obtain ⟨x0, x1, x2, x3, x4, -⟩ := HX3.out; have b0 : (0 : Int) ≤ (fN : Int) := (by omega); have b1 : (0 : Int) ≤ ((fN + zN : Nat) : Int) := (by omega); have b2 : (fN : Int) < ((K + 1 : Nat) : Int) := (by omega); have b3 : ((fN + zN : Nat) : Int) < ((K + 1 : Nat) : Int) := (by omega); have a6 : IntKind.i64.wrap ((fN : Int) + (zN : Int)) = ((fN + zN : Nat) : Int) := (by rw [Kit.w64 (by omega) (by omega)]; omega); have hdd := H3.out.here hi; have hd' := hdd.2; have b4 : (0 : Int) ≤ (i : Int) := (by omega); have b5 : (i : Int) < (n : Int) := (by omega); have a7 : IntKind.i64.wrap (Tr.d xs i + 1) = Tr.d xs i + 1 := (have bi := (hbd.out i (by rw [HL.out]; exact hi)).2.1; Kit.w64 (by omega) (by omega)); clear hdd))
        go_loop [12, 13] (fun dv kv => ∃ y : Nat, F + y ≤ T ∧ dv = .int .i64 (Oc.deep xs i F y) ∧ kv = .int .i64 ((F + y : Nat) : Int)) (fun _ k => T - (intOf k).toNat)
        case atStart => exact ⟨0, by omega, rfl, by go_num⟩
        case round =>
          obtain ⟨y, hy, rfl, rfl⟩ := hrel
          clear hd' x0 x1 x2 x3 x4 r0 r1
          by_cases hlt : F + y < T
          · have hkn : F + y < n := by omega
            obtain ⟨hl', hd'⟩ := H3.out.here hkn
            have bk := (hbd.out (F + y) (by rw [HL.out]; exact hkn)).2.1
            have e0 : (0 : Int) ≤ ((F + y : Nat) : Int) := by omega
            have e1 : ((F + y : Nat) : Int) < (n : Int) := by omega
            have e2 : decide (((F + y : Nat) : Int) < (T : Int)) = true := decide_eq_true (by omega)
            have e3 : decide (F + y < T) = true := decide_eq_true (by omega)
            have a8 : IntKind.i64.wrap (Tr.d xs (F + y) + 1) = Tr.d xs (F + y) + 1 := Kit.w64 (by omega) (by omega)
            have Hdp := Lib.hid (show Oc.deep xs i F (y + 1) = max (Oc.deep xs i F y) (Tr.d xs (F + y) + 1) from rfl)
            clear hl' bk
            go_wp2
            go_round
            case rel => exact ⟨y + 1, by omega, by rw [Hdp.out], by go_num⟩
            case measure => simp [intOf]; omega
          · have hyT : F + y = T := by omega
            have e2 : decide (((F + y : Nat) : Int) < (T : Int)) = false := decide_eq_false (by omega)
            have e3 : decide (F + y < T) = false := decide_eq_false (by omega)
            have q12 : decide (12 < Oc.deep xs i F y) = true := by rw [show y = T - F by omega]; exact Q12.out
            clear hyT
            go_wp2
            refine bodyPost_ret (v := .tuple #[.int .i64 7, .int .i64 0, .int .i64 0]) (by simp [results, Try.results79, go_sem]) rfl ?_
            exact ⟨by rw [HF.out, HFT.out.1, HFT.out.2], HB3.out⟩
      · have Q12 := Lib.hid (show decide (12 < Oc.deep xs i F (T - F)) = false from decide_eq_false c6)
        have HF := Lib.hid (show Oc.code xs ⟨3, p, a, (fN : Int), (zN : Int)⟩ (i : Int) = 0 by rw [HF0.out]; show Oc.icode xs i (fN : Int) (zN : Int) = 0; rw [HID3.out, if_neg c6])
        have HFT := Lib.hid (HFI.out HF.out)
        clear c6
        go_enter Try.func79, Try.ntmps79
        go_wp2_with (first | (go_at_call 56; refine (l1In_any _ _ _ _).mono ?_; rintro e w' ⟨rfl, rfl⟩; first | rw [dk] | rw [df] | rw [dz]) | (go_at_call 55; refine (specLabelOk_any _ _).mono ?_; rintro e w' ⟨rfl, rfl⟩; rw [hla]))
        rw [← HW.out, ← HS.out]
        refine (specKidsOf_any _ _ _ xs _ _ Hz.out hn).mono ?_
        rintro e w1 ⟨A1, c1, rfl, ho1, hb1⟩
        rw [← HKI.out] at ho1 ⊢
        have HX1 := Lib.hid (c5_keep HX.out hb1)
        have H1 := Lib.hid (Hz.out.to_below hb1)
        have HZ1 := Lib.hid hb1
        have HB := Lib.hid (HBz.out.trans (hb1.mono HBz.out.size))
        have HO := Lib.hid ho1
        obtain ⟨x0, x1, x2, x3, x4, -⟩ := HX1.out
        clear ho1 hb1
        have HKZ := Lib.hid hkn
        go_wp2_with (first | (go_at_call 56; refine (l1In_any _ _ _ _).mono ?_; rintro e w' ⟨rfl, rfl⟩; first | rw [dk] | rw [df] | rw [dz]) | fail)
        refine (specEndOf_any _ _ _ xs _ _ H1.out hn).mono ?_
        rintro e w2 ⟨rfl, hd2⟩
        rw [He.out]
        have hb2 := hd2.toBelow (B := w1.heap.size)
        have HX2 := Lib.hid (c5_keep HX1.out hb2)
        have HZ2 := Lib.hid (HZ1.out.trans (hb2.mono HZ1.out.size))
        have HO2 := Lib.hid (own_below HO.out hb2)
        have hs2 := HZ2.out.size
        have HKI2 := Lib.hid (show (Tr.kidsI xs (i : Int)).length = K from HKI.out.symm)
        clear hd2 hb2 x0 x1 x2 x3 x4
        go_wp2_with (at_builtin; go_loud (refine append_int w2 rfl _ _ 29 rfl wz.heap.size 3 i0 Try.underlying29 hi' hz0 hz1 hz2 (.slice A1 K c1) K (Tr.kidsI xs (i : Int)) rfl HO2.out HKI.out (E : Int) rfl (by rw [HKI2.out]; omega) hs2 ?_; intro v3 w3 hown3 hgrow3; have hb3 := Kit.below_own HZ2.out HO2.out hgrow3; rw [List.length_append, HKI2.out, List.length_singleton] at hown3; have HX3 := Lib.hid (c5_keep HX.out hb3); have H3 := Lib.hid (Hz.out.to_below hb3); have HB3 := Lib.hid (HBz.out.trans (hb3.mono HBz.out.size)); obtain ⟨A3, c3, rfl⟩ := own_slice hown3; obtain ⟨g, rfl, hg1, hg2⟩ := own_form hown3 (by simp); have r0 := own_int hown3 (k := fN) (by simp [HKI2.out]; omega); have r1 := own_int hown3 (k := fN + zN) (by simp [HKI2.out]; omega); rw [HC0.out] at r0; rw [HC1.out] at r1; clear hb3 hown3 hgrow3 hg1 hg2; obtain ⟨x0, x1, x2, x3, x4, -⟩ := HX3.out; have b0 : (0 : Int) ≤ (fN : Int) := (by omega); have b1 : (0 : Int) ≤ ((fN + zN : Nat) : Int) := (by omega); have b2 : (fN : Int) < ((K + 1 : Nat) : Int) := (by omega); have b3 : ((fN + zN : Nat) : Int) < ((K + 1 : Nat) : Int) := (by omega); have a6 : IntKind.i64.wrap ((fN : Int) + (zN : Int)) = ((fN + zN : Nat) : Int) := (by rw [Kit.w64 (by omega) (by omega)]; omega); have hdd := H3.out.here hi; have hd' := hdd.2; have b4 : (0 : Int) ≤ (i : Int) := (by omega); have b5 : (i : Int) < (n : Int) := (by omega); have a7 : IntKind.i64.wrap (Tr.d xs i + 1) = Tr.d xs i + 1 := (have bi := (hbd.out i (by rw [HL.out]; exact hi)).2.1; Kit.w64 (by omega) (by omega)); clear hdd))
        go_loop [12, 13] (fun dv kv => ∃ y : Nat, F + y ≤ T ∧ dv = .int .i64 (Oc.deep xs i F y) ∧ kv = .int .i64 ((F + y : Nat) : Int)) (fun _ k => T - (intOf k).toNat)
        case atStart => exact ⟨0, by omega, rfl, by go_num⟩
        case round =>
          obtain ⟨y, hy, rfl, rfl⟩ := hrel
          clear hd' x0 x1 x2 x3 x4 r0 r1
          by_cases hlt : F + y < T
          · have hkn : F + y < n := by omega
            obtain ⟨hl', hd'⟩ := H3.out.here hkn
            have bk := (hbd.out (F + y) (by rw [HL.out]; exact hkn)).2.1
            have e0 : (0 : Int) ≤ ((F + y : Nat) : Int) := by omega
            have e1 : ((F + y : Nat) : Int) < (n : Int) := by omega
            have e2 : decide (((F + y : Nat) : Int) < (T : Int)) = true := decide_eq_true (by omega)
            have e3 : decide (F + y < T) = true := decide_eq_true (by omega)
            have a8 : IntKind.i64.wrap (Tr.d xs (F + y) + 1) = Tr.d xs (F + y) + 1 := Kit.w64 (by omega) (by omega)
            have Hdp := Lib.hid (show Oc.deep xs i F (y + 1) = max (Oc.deep xs i F y) (Tr.d xs (F + y) + 1) from rfl)
            clear hl' bk
            go_wp2
            go_round
            case rel => exact ⟨y + 1, by omega, by rw [Hdp.out], by go_num⟩
            case measure => simp [intOf]; omega
          · have hyT : F + y = T := by omega
            have e2 : decide (((F + y : Nat) : Int) < (T : Int)) = false := decide_eq_false (by omega)
            have e3 : decide (F + y < T) = false := decide_eq_false (by omega)
            have q12 : decide (12 < Oc.deep xs i F y) = false := by rw [show y = T - F by omega]; exact Q12.out
            clear hyT
            go_wp2
            refine bodyPost_ret (v := .tuple #[.int .i64 0, .int .i64 (F : Int), .int .i64 (T : Int)]) (by simp [results, Try.results79, go_sem]) rfl ?_
            exact ⟨by rw [HF.out, HFT.out.1, HFT.out.2], HB3.out⟩

end Go.Proofs.Ytgkkeejhfofcaaa
