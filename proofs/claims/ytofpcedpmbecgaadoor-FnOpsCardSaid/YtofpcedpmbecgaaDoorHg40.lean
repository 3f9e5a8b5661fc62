/- Texts of one claim laid into one file, in build order: OpsW, ExOps. -/
import Derived.Test.YtofpcedpmbecgaaDoorHg18
import Derived.Test.YtofpcedpmbecgaaDoorHg24
import Derived.Test.YtofpcedpmbecgaaDoorHg29
import Derived.Test.YtofpcedpmbecgaaDoorHg30
import Derived.Test.YtofpcedpmbecgaaDoorHg33
import Derived.Test.YtofpcedpmbecgaaDoorHg34
import Derived.Test.YtofpcedpmbecgaaDoorHg35
import Derived.Test.YtofpcedpmbecgaaDoorHg39
import Derived.Test.YtofpcedpmbecgaaDoorHg5
import Derived.Deep.DeepHandedRow
/- Contracts (OpsW). -/
namespace Go.Proofs.YtofpcedpmbecgaaDoor
open Go.RowKit
set_option linter.unusedVariables false

theorem OpCode.nonempty (n : Int) (h : 0 ≤ n ∧ n ≤ 7) : ∃ b : ByteArray, OpCode.name n = b ∧ b.toList.isEmpty = false := by
  obtain ⟨m, rfl⟩ := Int.eq_ofNat_of_zero_le h.1
  have hc : m = 0 ∨ m = 1 ∨ m = 2 ∨ m = 3 ∨ m = 4 ∨ m = 5 ∨ m = 6 ∨ m = 7 := by omega
  rcases hc with rfl | rfl | rfl | rfl | rfl | rfl | rfl | rfl <;> exact ⟨_, rfl, by rw [ByteArray.toList_eq]; rfl⟩
theorem Oc.apply_range (xs : Tr) (o : Opr) : 0 ≤ (Oc.apply xs o).2 ∧ (Oc.apply xs o).2 ≤ 7 := by
  rcases h : Tr.ok xs with _ | _
  · rw [Oc.apply_no h]; decide
  · rw [Oc.apply_code h]; exact Oc.code_range _
set_option maxHeartbeats 6400000 in
set_option maxRecDepth 100000 in
theorem ops_any (k : Code) (w : World) (hcode : CodeIn w w.heap.size k.a k.cs) (hlen : k.cs.length ≤ 1048576) (ht : HasOpCodes w) :
    Calls Tryd.prog 3 #[.slice k.a k.cs.length k.cap] w fun e w' => e = .returned (.bool true) ∧ Below w.heap.size w w' := by
  have HC := Lib.hid hcode
  have HTB := Lib.hid ht
  clear hcode ht
  obtain ⟨K, hK⟩ : ∃ K, K = Co.unit := ⟨_, rfl⟩
  have HKL := Lib.hid (show K.d.length ≤ 1048576 ∧ K.i.length ≤ 1048576 ∧ K.r.length ≤ 1048576 by rw [hK]; exact ⟨by decide, by decide, by decide⟩)
  have HU := Lib.hid (show ∀ w, Calls Tryd.prog 13 #[] w (OwnCo K w) by rw [hK]; exact implUnitCost_any)
  have HK := Lib.hid hK
  clear hK
  go_enter Tryd.func3, Tryd.ntmps3
  go_wp2_with fail
  refine (big_small _ _ _ (by omega) _).mono ?_
  rintro e w0 ⟨rfl, rfl⟩
  go_wp2_with fail
  refine (drawApplyOp_ex w k HC.out hlen).mono ?_
  rintro e w1 ⟨xs, A, n, cp, kd, a, f, z, p, P, m, q, rfl, hN, hcp, hn31, hI, hm, hb⟩
  have H1 := Lib.hid hN
  have I1 := Lib.hid hI
  have HB1 := Lib.hid hb
  have CT1 := Lib.hid (HTB.out.below hb)
  have HL1 := Lib.hid hN.1
  clear hN hI hb
  obtain ⟨R, hRR⟩ : ∃ R, R = Oc.apply xs ⟨kd, p, a, f, z⟩ := ⟨_, rfl⟩
  have hR : R.1.length ≤ 1048576 := by rw [hRR]; exact Nat.le_trans (Oc.apply_len _ _) (by decide)
  obtain ⟨nm, hnm, nm1⟩ := OpCode.nonempty R.2 (by rw [hRR]; exact Oc.apply_range _ _)
  have HNM := Lib.hid hnm
  have CI := Lib.hid (fun (wq : World) (hN : NdIn wq wq.heap.size A n xs) (hI : IntIn wq wq.heap.size P m p) => show Calls Tryd.prog 7 #[.slice A n cp, .agg #[.int .i64 kd, .slice P m q, .int .i64 a, .int .i64 f, .int .i64 z]] wq (OwnNdC 48 R wq) from by rw [hRR]; exact implApplyOp_any A n cp xs kd a f z p P m q wq hN hI (by omega) (by omega) hcp)
  have CS := Lib.hid (fun (wq : World) (hN : NdIn wq wq.heap.size A n xs) (hI : IntIn wq wq.heap.size P m p) => show Calls Tryd.prog 8 #[.slice A n cp, .agg #[.int .i64 kd, .slice P m q, .int .i64 a, .int .i64 f, .int .i64 z]] wq (OwnNdC 48 R wq) from by rw [hRR]; exact specApplyOp_any A n cp xs kd a f z p P m q wq hN hI (by omega) (by omega))
  clear hnm
  rcases hok : Tr.ok xs with _ | _
  · have hr : R = ([], 2) := by rw [hRR]; exact Oc.apply_no hok
    have HRL := Lib.hid (show R.1.length = 0 by rw [hr]; rfl)
    have Hok := Lib.hid hok
    clear hRR hok hr
    obtain ⟨wa, hwa⟩ : ∃ x, x = w1.alloc (.cells #[.int .i64 kd, .slice P m q, .int .i64 a, .int .i64 f, .int .i64 z] 27) := ⟨_, rfl⟩
    obtain ⟨t, ht⟩ : ∃ t, t = w1.heap.size := ⟨_, rfl⟩
    have hba : Below w1.heap.size w1 wa := by rw [hwa]; exact (Below.refl _ _).alloc (Nat.le_refl _) _
    have HX := Lib.hid (show Bx5 wa t (.int .i64 kd) (.slice P m q) (.int .i64 a) (.int .i64 f) (.int .i64 z) by rw [hwa, ht]; exact Bx5.made _ _ _ _ _ _ _)
    have HN := Lib.hid (H1.out.to_below hba)
    have HI := Lib.hid (I1.out.to_below hba)
    have HB := Lib.hid (HB1.out.trans (hba.mono HB1.out.size))
    have CT := Lib.hid (CT1.out.below hba)
    have HW := Lib.hid hwa
    have HT := Lib.hid ht
    clear hwa ht hba
    go_wp2_with fail
    rw [← HW.out]
    refine (CI.out wa HN.out HI.out).mono ?_
    rintro e w2 ⟨A2, c2, rfl, ho2, hb2⟩
    have HX := Lib.hid (HX.out.keep hb2)
    have HN := Lib.hid (HN.out.to_below hb2)
    have HI := Lib.hid (HI.out.to_below hb2)
    have HB := Lib.hid (HB.out.trans (hb2.mono HB.out.size))
    have CT := Lib.hid (CT.out.below hb2)
    have H2 := Lib.hid (NdIn.of_own ho2)
    have hc2 := own_cap ho2
    clear hb2 ho2
    rw [← HT.out]
    obtain ⟨x0, x1, x2, x3, x4⟩ := HX.out
    go_wp2_with fail
    refine (CS.out w2 HN.out HI.out).mono ?_
    rintro e w3 ⟨A3, c3, rfl, ho3, hb3⟩
    clear x0 x1 x2 x3 x4
    have HX := Lib.hid (HX.out.keep hb3)
    have HN := Lib.hid (HN.out.to_below hb3)
    have HB := Lib.hid (HB.out.trans (hb3.mono HB.out.size))
    have CT := Lib.hid (CT.out.below hb3)
    have H2 := Lib.hid (H2.out.to_below hb3)
    have H3 := Lib.hid (NdIn.of_own ho3)
    clear hb3 ho3
    go_wp2_with fail
    refine (specSameTree_any _ _ _ _ _ _ R.1 R.1 _ H2.out hR H3.out hR).mono ?_
    rintro e w4 ⟨rfl, hd4⟩
    rw [show decide (R.1 = R.1) = true from decide_eq_true rfl]
    have hb4 := hd4.toBelow (B := w3.heap.size)
    have HX := Lib.hid (HX.out.keep hb4)
    have HN := Lib.hid (HN.out.to_below hb4)
    have HB := Lib.hid (HB.out.trans (hb4.mono HB.out.size))
    have CT := Lib.hid (CT.out.below hb4)
    have H2 := Lib.hid (H2.out.to_below hb4)
    clear hb4 hd4
    go_wp2_with fail
    refine (implCodeName_any _ _ CT.out).mono ?_
    rintro e w5 ⟨rfl, rfl⟩
    rw [HNM.out]
    go_wp2_with fail
    refine (specTreeOk_any _ _ _ xs _ HN.out (by omega)).mono ?_
    rintro e w6 ⟨rfl, hd6⟩
    rw [Hok.out]
    have hb6 := hd6.toBelow (B := w4.heap.size)
    have HX := Lib.hid (HX.out.keep hb6)
    have HN := Lib.hid (HN.out.to_below hb6)
    have HB := Lib.hid (HB.out.trans (hb6.mono HB.out.size))
    have H2 := Lib.hid (H2.out.to_below hb6)
    clear hb6 hd6
    obtain ⟨x0, x1, x2, x3, x4⟩ := HX.out
    rw [HRL.out]
    go_wp2
    go_ret
    exact ⟨rfl, HB.out⟩
  by_cases hc0 : Oc.code xs ⟨kd, p, a, f, z⟩ (Tr.nodeAt xs p) = 0
  rotate_left
  · have hr : R = (xs, Oc.code xs ⟨kd, p, a, f, z⟩ (Tr.nodeAt xs p)) := by rw [hRR]; exact Oc.apply_fail hok hc0
    have q0 : (R.2 == 0) = false := by rw [hr]; simpa using hc0
    have q1 : ¬ R.2 = 0 := by rw [hr]; exact hc0
    have q2 : (R.2 != 0) = true := by rw [hr]; simpa using hc0
    have SX := Lib.hid (show decide (R.1 = xs) = true by rw [hr]; exact decide_eq_true rfl)
    have Hok := Lib.hid hok
    clear hRR hok hr hc0
    obtain ⟨wa, hwa⟩ : ∃ x, x = w1.alloc (.cells #[.int .i64 kd, .slice P m q, .int .i64 a, .int .i64 f, .int .i64 z] 27) := ⟨_, rfl⟩
    obtain ⟨t, ht⟩ : ∃ t, t = w1.heap.size := ⟨_, rfl⟩
    have hba : Below w1.heap.size w1 wa := by rw [hwa]; exact (Below.refl _ _).alloc (Nat.le_refl _) _
    have HX := Lib.hid (show Bx5 wa t (.int .i64 kd) (.slice P m q) (.int .i64 a) (.int .i64 f) (.int .i64 z) by rw [hwa, ht]; exact Bx5.made _ _ _ _ _ _ _)
    have HN := Lib.hid (H1.out.to_below hba)
    have HI := Lib.hid (I1.out.to_below hba)
    have HB := Lib.hid (HB1.out.trans (hba.mono HB1.out.size))
    have CT := Lib.hid (CT1.out.below hba)
    have HW := Lib.hid hwa
    have HT := Lib.hid ht
    clear hwa ht hba
    go_wp2_with fail
    rw [← HW.out]
    refine (CI.out wa HN.out HI.out).mono ?_
    rintro e w2 ⟨A2, c2, rfl, ho2, hb2⟩
    have HX := Lib.hid (HX.out.keep hb2)
    have HN := Lib.hid (HN.out.to_below hb2)
    have HI := Lib.hid (HI.out.to_below hb2)
    have HB := Lib.hid (HB.out.trans (hb2.mono HB.out.size))
    have CT := Lib.hid (CT.out.below hb2)
    have H2 := Lib.hid (NdIn.of_own ho2)
    have hc2 := own_cap ho2
    clear hb2 ho2
    rw [← HT.out]
    obtain ⟨x0, x1, x2, x3, x4⟩ := HX.out
    go_wp2_with fail
    refine (CS.out w2 HN.out HI.out).mono ?_
    rintro e w3 ⟨A3, c3, rfl, ho3, hb3⟩
    clear x0 x1 x2 x3 x4
    have HX := Lib.hid (HX.out.keep hb3)
    have HN := Lib.hid (HN.out.to_below hb3)
    have HB := Lib.hid (HB.out.trans (hb3.mono HB.out.size))
    have CT := Lib.hid (CT.out.below hb3)
    have H2 := Lib.hid (H2.out.to_below hb3)
    have H3 := Lib.hid (NdIn.of_own ho3)
    clear hb3 ho3
    go_wp2_with fail
    refine (specSameTree_any _ _ _ _ _ _ R.1 R.1 _ H2.out hR H3.out hR).mono ?_
    rintro e w4 ⟨rfl, hd4⟩
    rw [show decide (R.1 = R.1) = true from decide_eq_true rfl]
    have hb4 := hd4.toBelow (B := w3.heap.size)
    have HX := Lib.hid (HX.out.keep hb4)
    have HN := Lib.hid (HN.out.to_below hb4)
    have HB := Lib.hid (HB.out.trans (hb4.mono HB.out.size))
    have CT := Lib.hid (CT.out.below hb4)
    have H2 := Lib.hid (H2.out.to_below hb4)
    clear hb4 hd4
    go_wp2_with fail
    refine (implCodeName_any _ _ CT.out).mono ?_
    rintro e w5 ⟨rfl, rfl⟩
    rw [HNM.out]
    go_wp2_with fail
    refine (specTreeOk_any _ _ _ xs _ HN.out (by omega)).mono ?_
    rintro e w6 ⟨rfl, hd6⟩
    rw [Hok.out]
    have hb6 := hd6.toBelow (B := w4.heap.size)
    have HX := Lib.hid (HX.out.keep hb6)
    have HN := Lib.hid (HN.out.to_below hb6)
    have HB := Lib.hid (HB.out.trans (hb6.mono HB.out.size))
    have H2 := Lib.hid (H2.out.to_below hb6)
    clear hb6 hd6
    obtain ⟨x0, x1, x2, x3, x4⟩ := HX.out
    go_wp2_with fail
    refine (specSameTree_any _ _ _ _ _ _ R.1 xs _ H2.out hR HN.out (by omega)).mono ?_
    rintro e w7 ⟨rfl, hd7⟩
    rw [SX.out]
    have HB := Lib.hid (HB.out.trans (hd7.toBelow (B := w.heap.size)))
    clear hd7
    go_wp2
    go_ret
    exact ⟨rfl, HB.out⟩
  obtain ⟨ho, hl, hd⟩ := Oc.new_ok hok hc0
  have hr : R = (Oc.new xs ⟨kd, p, a, f, z⟩ (Tr.nodeAt xs p).toNat, 0) := by rw [hRR]; exact Oc.apply_done hok hc0
  have hk3 : kd = 1 ∨ kd = 2 ∨ kd = 3 := by
    obtain ⟨i, _, _, h⟩ := Oc.right hok hc0
    rcases h with h | h | h
    · exact .inl h.1
    · exact .inr (.inl h.1)
    · exact .inr (.inr h.1)
  have OKR := Lib.hid (show Tr.ok R.1 = true by rw [hr]; exact ho)
  have hRL : (R.1.length : Int) = xs.length + (if kd = 3 then 1 else if kd = 2 then -1 else 0) := by rw [hr]; exact hl
  have RD1 := Lib.hid (show decide (Tr.rootDist xs R.1 K ≤ 1) = true by rw [hr, HK.out]; exact decide_eq_true hd)
  have hR1 : R.2 = 0 := by rw [hr]
  have q0 : (R.2 == 0) = true := by rw [hR1]; rfl
  have q2 : (R.2 != 0) = false := by rw [hR1]; rfl
  have Hok := Lib.hid hok
  clear hRR hok hr hc0 ho hl hd
  rcases hk3 with e | e | e
  · subst e
    have HLN := Lib.hid (show (R.1.length : Int) = (n : Int) + (0) by rw [hRL, HL1.out]; rfl)
    have hln : ((R.1.length : Int) == (n : Int) + (0)) = true := by simpa using HLN.out
    have hlw : IntKind.i64.wrap ((n : Int) + (0)) = (n : Int) + (0) := Kit.w64 (by omega) (by omega)
    clear hRL hR1
    obtain ⟨wa, hwa⟩ : ∃ x, x = w1.alloc (.cells #[.int .i64 1, .slice P m q, .int .i64 a, .int .i64 f, .int .i64 z] 27) := ⟨_, rfl⟩
    obtain ⟨t, ht⟩ : ∃ t, t = w1.heap.size := ⟨_, rfl⟩
    have hba : Below w1.heap.size w1 wa := by rw [hwa]; exact (Below.refl _ _).alloc (Nat.le_refl _) _
    have HX := Lib.hid (show Bx5 wa t (.int .i64 1) (.slice P m q) (.int .i64 a) (.int .i64 f) (.int .i64 z) by rw [hwa, ht]; exact Bx5.made _ _ _ _ _ _ _)
    have HN := Lib.hid (H1.out.to_below hba)
    have HI := Lib.hid (I1.out.to_below hba)
    have HB := Lib.hid (HB1.out.trans (hba.mono HB1.out.size))
    have CT := Lib.hid (CT1.out.below hba)
    have HW := Lib.hid hwa
    have HT := Lib.hid ht
    clear hwa ht hba
    go_wp2_with fail
    rw [← HW.out]
    refine (CI.out wa HN.out HI.out).mono ?_
    rintro e w2 ⟨A2, c2, rfl, ho2, hb2⟩
    have HX := Lib.hid (HX.out.keep hb2)
    have HN := Lib.hid (HN.out.to_below hb2)
    have HI := Lib.hid (HI.out.to_below hb2)
    have HB := Lib.hid (HB.out.trans (hb2.mono HB.out.size))
    have CT := Lib.hid (CT.out.below hb2)
    have H2 := Lib.hid (NdIn.of_own ho2)
    have hc2 := own_cap ho2
    clear hb2 ho2
    rw [← HT.out]
    obtain ⟨x0, x1, x2, x3, x4⟩ := HX.out
    go_wp2_with fail
    refine (CS.out w2 HN.out HI.out).mono ?_
    rintro e w3 ⟨A3, c3, rfl, ho3, hb3⟩
    clear x0 x1 x2 x3 x4
    have HX := Lib.hid (HX.out.keep hb3)
    have HN := Lib.hid (HN.out.to_below hb3)
    have HB := Lib.hid (HB.out.trans (hb3.mono HB.out.size))
    have CT := Lib.hid (CT.out.below hb3)
    have H2 := Lib.hid (H2.out.to_below hb3)
    have H3 := Lib.hid (NdIn.of_own ho3)
    clear hb3 ho3
    go_wp2_with fail
    refine (specSameTree_any _ _ _ _ _ _ R.1 R.1 _ H2.out hR H3.out hR).mono ?_
    rintro e w4 ⟨rfl, hd4⟩
    rw [show decide (R.1 = R.1) = true from decide_eq_true rfl]
    have hb4 := hd4.toBelow (B := w3.heap.size)
    have HX := Lib.hid (HX.out.keep hb4)
    have HN := Lib.hid (HN.out.to_below hb4)
    have HB := Lib.hid (HB.out.trans (hb4.mono HB.out.size))
    have CT := Lib.hid (CT.out.below hb4)
    have H2 := Lib.hid (H2.out.to_below hb4)
    clear hb4 hd4
    go_wp2_with fail
    refine (implCodeName_any _ _ CT.out).mono ?_
    rintro e w5 ⟨rfl, rfl⟩
    rw [HNM.out]
    go_wp2_with fail
    refine (specTreeOk_any _ _ _ xs _ HN.out (by omega)).mono ?_
    rintro e w6 ⟨rfl, hd6⟩
    rw [Hok.out]
    have hb6 := hd6.toBelow (B := w4.heap.size)
    have HX := Lib.hid (HX.out.keep hb6)
    have HN := Lib.hid (HN.out.to_below hb6)
    have HB := Lib.hid (HB.out.trans (hb6.mono HB.out.size))
    have H2 := Lib.hid (H2.out.to_below hb6)
    clear hb6 hd6
    obtain ⟨x0, x1, x2, x3, x4⟩ := HX.out
    go_wp2_with fail
    refine (specTreeOk_any _ _ _ R.1 _ H2.out hR).mono ?_
    rintro e w7 ⟨rfl, hd7⟩
    rw [OKR.out]
    have hb7 := hd7.toBelow (B := w6.heap.size)
    have HN := Lib.hid (HN.out.to_below hb7)
    have HB := Lib.hid (HB.out.trans (hb7.mono HB.out.size))
    have H2 := Lib.hid (H2.out.to_below hb7)
    clear hb7 hd7 x0 x1 x2 x3 x4
    go_wp2_with fail
    refine (HU.out _).mono ?_
    rintro e w8 ⟨B0, B1, B2, b0, b1, b2, rfl, o0, o1, o2, -, -, -, hb8⟩
    have HN := Lib.hid (HN.out.to_below hb8)
    have HB := Lib.hid (HB.out.trans (hb8.mono HB.out.size))
    have H2 := Lib.hid (H2.out.to_below hb8)
    have RD := Lib.hid (implRootDist_any (c := cp) (c' := c2) (c0 := b0) (c1 := b1) (c2 := b2) (ha := HN.out) (hb := H2.out) (hk := ⟨IntIn.of_own o0, IntIn.of_own o1, IntIn.of_own o2⟩) (hn := by omega) (hn' := hR) (h0 := HKL.out.1) (h1 := HKL.out.2.1) (h2 := HKL.out.2.2) (hc := hcp) (hc' := hc2))
    clear hb8 o0 o1 o2
    go_wp2_with fail
    refine RD.out.mono ?_
    rintro e w9 ⟨rfl, hb9⟩
    have HB := Lib.hid (HB.out.trans (hb9.mono HB.out.size))
    have q1 := RD1.out
    clear hb9 RD
    go_wp2
    go_ret
    exact ⟨rfl, HB.out⟩
  · subst e
    have HLN := Lib.hid (show (R.1.length : Int) = (n : Int) + (-1) by rw [hRL, HL1.out]; rfl)
    have hln : ((R.1.length : Int) == (n : Int) + (-1)) = true := by simpa using HLN.out
    have hlw : IntKind.i64.wrap ((n : Int) + (-1)) = (n : Int) + (-1) := Kit.w64 (by omega) (by omega)
    clear hRL hR1
    obtain ⟨wa, hwa⟩ : ∃ x, x = w1.alloc (.cells #[.int .i64 2, .slice P m q, .int .i64 a, .int .i64 f, .int .i64 z] 27) := ⟨_, rfl⟩
    obtain ⟨t, ht⟩ : ∃ t, t = w1.heap.size := ⟨_, rfl⟩
    have hba : Below w1.heap.size w1 wa := by rw [hwa]; exact (Below.refl _ _).alloc (Nat.le_refl _) _
    have HX := Lib.hid (show Bx5 wa t (.int .i64 2) (.slice P m q) (.int .i64 a) (.int .i64 f) (.int .i64 z) by rw [hwa, ht]; exact Bx5.made _ _ _ _ _ _ _)
    have HN := Lib.hid (H1.out.to_below hba)
    have HI := Lib.hid (I1.out.to_below hba)
    have HB := Lib.hid (HB1.out.trans (hba.mono HB1.out.size))
    have CT := Lib.hid (CT1.out.below hba)
    have HW := Lib.hid hwa
    have HT := Lib.hid ht
    clear hwa ht hba
    go_wp2_with fail
    rw [← HW.out]
    refine (CI.out wa HN.out HI.out).mono ?_
    rintro e w2 ⟨A2, c2, rfl, ho2, hb2⟩
    have HX := Lib.hid (HX.out.keep hb2)
    have HN := Lib.hid (HN.out.to_below hb2)
    have HI := Lib.hid (HI.out.to_below hb2)
    have HB := Lib.hid (HB.out.trans (hb2.mono HB.out.size))
    have CT := Lib.hid (CT.out.below hb2)
    have H2 := Lib.hid (NdIn.of_own ho2)
    have hc2 := own_cap ho2
    clear hb2 ho2
    rw [← HT.out]
    obtain ⟨x0, x1, x2, x3, x4⟩ := HX.out
    go_wp2_with fail
    refine (CS.out w2 HN.out HI.out).mono ?_
    rintro e w3 ⟨A3, c3, rfl, ho3, hb3⟩
    clear x0 x1 x2 x3 x4
    have HX := Lib.hid (HX.out.keep hb3)
    have HN := Lib.hid (HN.out.to_below hb3)
    have HB := Lib.hid (HB.out.trans (hb3.mono HB.out.size))
    have CT := Lib.hid (CT.out.below hb3)
    have H2 := Lib.hid (H2.out.to_below hb3)
    have H3 := Lib.hid (NdIn.of_own ho3)
    clear hb3 ho3
    go_wp2_with fail
    refine (specSameTree_any _ _ _ _ _ _ R.1 R.1 _ H2.out hR H3.out hR).mono ?_
    rintro e w4 ⟨rfl, hd4⟩
    rw [show decide (R.1 = R.1) = true from decide_eq_true rfl]
    have hb4 := hd4.toBelow (B := w3.heap.size)
    have HX := Lib.hid (HX.out.keep hb4)
    have HN := Lib.hid (HN.out.to_below hb4)
    have HB := Lib.hid (HB.out.trans (hb4.mono HB.out.size))
    have CT := Lib.hid (CT.out.below hb4)
    have H2 := Lib.hid (H2.out.to_below hb4)
    clear hb4 hd4
    go_wp2_with fail
    refine (implCodeName_any _ _ CT.out).mono ?_
    rintro e w5 ⟨rfl, rfl⟩
    rw [HNM.out]
    go_wp2_with fail
    refine (specTreeOk_any _ _ _ xs _ HN.out (by omega)).mono ?_
    rintro e w6 ⟨rfl, hd6⟩
    rw [Hok.out]
    have hb6 := hd6.toBelow (B := w4.heap.size)
    have HX := Lib.hid (HX.out.keep hb6)
    have HN := Lib.hid (HN.out.to_below hb6)
    have HB := Lib.hid (HB.out.trans (hb6.mono HB.out.size))
    have H2 := Lib.hid (H2.out.to_below hb6)
    clear hb6 hd6
    obtain ⟨x0, x1, x2, x3, x4⟩ := HX.out
    go_wp2_with fail
    refine (specTreeOk_any _ _ _ R.1 _ H2.out hR).mono ?_
    rintro e w7 ⟨rfl, hd7⟩
    rw [OKR.out]
    have hb7 := hd7.toBelow (B := w6.heap.size)
    have HN := Lib.hid (HN.out.to_below hb7)
    have HB := Lib.hid (HB.out.trans (hb7.mono HB.out.size))
    have H2 := Lib.hid (H2.out.to_below hb7)
    clear hb7 hd7 x0 x1 x2 x3 x4
    go_wp2_with fail
    refine (HU.out _).mono ?_
    rintro e w8 ⟨B0, B1, B2, b0, b1, b2, rfl, o0, o1, o2, -, -, -, hb8⟩
    have HN := Lib.hid (HN.out.to_below hb8)
    have HB := Lib.hid (HB.out.trans (hb8.mono HB.out.size))
    have H2 := Lib.hid (H2.out.to_below hb8)
    have RD := Lib.hid (implRootDist_any (c := cp) (c' := c2) (c0 := b0) (c1 := b1) (c2 := b2) (ha := HN.out) (hb := H2.out) (hk := ⟨IntIn.of_own o0, IntIn.of_own o1, IntIn.of_own o2⟩) (hn := by omega) (hn' := hR) (h0 := HKL.out.1) (h1 := HKL.out.2.1) (h2 := HKL.out.2.2) (hc := hcp) (hc' := hc2))
    clear hb8 o0 o1 o2
    go_wp2_with fail
    refine RD.out.mono ?_
    rintro e w9 ⟨rfl, hb9⟩
    have HB := Lib.hid (HB.out.trans (hb9.mono HB.out.size))
    have q1 := RD1.out
    clear hb9 RD
    go_wp2
    go_ret
    exact ⟨rfl, HB.out⟩
  · subst e
    have HLN := Lib.hid (show (R.1.length : Int) = (n : Int) + (1) by rw [hRL, HL1.out]; rfl)
    have hln : ((R.1.length : Int) == (n : Int) + (1)) = true := by simpa using HLN.out
    have hlw : IntKind.i64.wrap ((n : Int) + (1)) = (n : Int) + (1) := Kit.w64 (by omega) (by omega)
    clear hRL hR1
    obtain ⟨wa, hwa⟩ : ∃ x, x = w1.alloc (.cells #[.int .i64 3, .slice P m q, .int .i64 a, .int .i64 f, .int .i64 z] 27) := ⟨_, rfl⟩
    obtain ⟨t, ht⟩ : ∃ t, t = w1.heap.size := ⟨_, rfl⟩
    have hba : Below w1.heap.size w1 wa := by rw [hwa]; exact (Below.refl _ _).alloc (Nat.le_refl _) _
    have HX := Lib.hid (show Bx5 wa t (.int .i64 3) (.slice P m q) (.int .i64 a) (.int .i64 f) (.int .i64 z) by rw [hwa, ht]; exact Bx5.made _ _ _ _ _ _ _)
    have HN := Lib.hid (H1.out.to_below hba)
    have HI := Lib.hid (I1.out.to_below hba)
    have HB := Lib.hid (HB1.out.trans (hba.mono HB1.out.size))
    have CT := Lib.hid (CT1.out.below hba)
    have HW := Lib.hid hwa
    have HT := Lib.hid ht
    clear hwa ht hba
    go_wp2_with fail
    rw [← HW.out]
    refine (CI.out wa HN.out HI.out).mono ?_
    rintro e w2 ⟨A2, c2, rfl, ho2, hb2⟩
    have HX := Lib.hid (HX.out.keep hb2)
    have HN := Lib.hid (HN.out.to_below hb2)
    have HI := Lib.hid (HI.out.to_below hb2)
    have HB := Lib.hid (HB.out.trans (hb2.mono HB.out.size))
    have CT := Lib.hid (CT.out.below hb2)
    have H2 := Lib.hid (NdIn.of_own ho2)
    have hc2 := own_cap ho2
    clear hb2 ho2
    rw [← HT.out]
    obtain ⟨x0, x1, x2, x3, x4⟩ := HX.out
    go_wp2_with fail
    refine (CS.out w2 HN.out HI.out).mono ?_
    rintro e w3 ⟨A3, c3, rfl, ho3, hb3⟩
    clear x0 x1 x2 x3 x4
    have HX := Lib.hid (HX.out.keep hb3)
    have HN := Lib.hid (HN.out.to_below hb3)
    have HB := Lib.hid (HB.out.trans (hb3.mono HB.out.size))
    have CT := Lib.hid (CT.out.below hb3)
    have H2 := Lib.hid (H2.out.to_below hb3)
    have H3 := Lib.hid (NdIn.of_own ho3)
    clear hb3 ho3
    go_wp2_with fail
    refine (specSameTree_any _ _ _ _ _ _ R.1 R.1 _ H2.out hR H3.out hR).mono ?_
    rintro e w4 ⟨rfl, hd4⟩
    rw [show decide (R.1 = R.1) = true from decide_eq_true rfl]
    have hb4 := hd4.toBelow (B := w3.heap.size)
    have HX := Lib.hid (HX.out.keep hb4)
    have HN := Lib.hid (HN.out.to_below hb4)
    have HB := Lib.hid (HB.out.trans (hb4.mono HB.out.size))
    have CT := Lib.hid (CT.out.below hb4)
    have H2 := Lib.hid (H2.out.to_below hb4)
    clear hb4 hd4
    go_wp2_with fail
    refine (implCodeName_any _ _ CT.out).mono ?_
    rintro e w5 ⟨rfl, rfl⟩
    rw [HNM.out]
    go_wp2_with fail
    refine (specTreeOk_any _ _ _ xs _ HN.out (by omega)).mono ?_
    rintro e w6 ⟨rfl, hd6⟩
    rw [Hok.out]
    have hb6 := hd6.toBelow (B := w4.heap.size)
    have HX := Lib.hid (HX.out.keep hb6)
    have HN := Lib.hid (HN.out.to_below hb6)
    have HB := Lib.hid (HB.out.trans (hb6.mono HB.out.size))
    have H2 := Lib.hid (H2.out.to_below hb6)
    clear hb6 hd6
    obtain ⟨x0, x1, x2, x3, x4⟩ := HX.out
    go_wp2_with fail
    refine (specTreeOk_any _ _ _ R.1 _ H2.out hR).mono ?_
    rintro e w7 ⟨rfl, hd7⟩
    rw [OKR.out]
    have hb7 := hd7.toBelow (B := w6.heap.size)
    have HN := Lib.hid (HN.out.to_below hb7)
    have HB := Lib.hid (HB.out.trans (hb7.mono HB.out.size))
    have H2 := Lib.hid (H2.out.to_below hb7)
    clear hb7 hd7 x0 x1 x2 x3 x4
    go_wp2_with fail
    refine (HU.out _).mono ?_
    rintro e w8 ⟨B0, B1, B2, b0, b1, b2, rfl, o0, o1, o2, -, -, -, hb8⟩
    have HN := Lib.hid (HN.out.to_below hb8)
    have HB := Lib.hid (HB.out.trans (hb8.mono HB.out.size))
    have H2 := Lib.hid (H2.out.to_below hb8)
    have RD := Lib.hid (implRootDist_any (c := cp) (c' := c2) (c0 := b0) (c1 := b1) (c2 := b2) (ha := HN.out) (hb := H2.out) (hk := ⟨IntIn.of_own o0, IntIn.of_own o1, IntIn.of_own o2⟩) (hn := by omega) (hn' := hR) (h0 := HKL.out.1) (h1 := HKL.out.2.1) (h2 := HKL.out.2.2) (hc := hcp) (hc' := hc2))
    clear hb8 o0 o1 o2
    go_wp2_with fail
    refine RD.out.mono ?_
    rintro e w9 ⟨rfl, hb9⟩
    have HB := Lib.hid (HB.out.trans (hb9.mono HB.out.size))
    have q1 := RD1.out
    clear hb9 RD
    go_wp2
    go_ret
    exact ⟨rfl, HB.out⟩

end Go.Proofs.YtofpcedpmbecgaaDoor

/- Contracts (ExOps). -/
namespace Go.Proofs.YtofpcedpmbecgaaDoor
open Go.RowKit
set_option linter.unusedVariables false

set_option maxHeartbeats 400000 in
theorem ops_walk (a : Option Addr) (n cap : Nat) (zs : List Int) (w : World) (hz : Kit.BytesIn w a n cap zs) (hL : laidMetH Tryd.prog Rows.fnOpsRow.laid w) :
    Calls Tryd.prog 3 #[.slice a n cap] w fun e w' => e = .returned (.bool true) ∧ Below w.heap.size w w' := by
  have hL' : laidMet Tryd.prog Rows.fnOpsRow.laid w := hL
  have ht : HasOpCodes w := hasOpCodes hL'
  clear hL hL'
  by_cases hb : (1048576 : Int) < n
  · clear hz ht
    go_enter Tryd.func3, Tryd.ntmps3
    go_wp2_with fail
    refine (big_big _ _ _ hb _).mono ?_
    rintro e w0 ⟨rfl, rfl⟩
    go_wp2
    go_ret
    exact ⟨rfl, Below.refl _ _⟩
  · obtain ⟨hl, hcode⟩ := code_of hz
    have h := ops_any ⟨a, zs.take n, cap⟩ w hcode (by simp only; omega) ht
    simp only [hl] at h
    exact h

end Go.Proofs.YtofpcedpmbecgaaDoor
