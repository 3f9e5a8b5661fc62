/- Contracts (Index). -/
import Derived.Test.YtkpogjfaimpkdaaBig
import Derived.Test.YtkpogjfaimpkdaaDrawTr
import Derived.Test.YtkpogjfaimpkdaaIdxP
import Derived.Test.YtkpogjfaimpkdaaKeyI
import Derived.Test.YtkpogjfaimpkdaaLvsI
import Derived.Test.YtkpogjfaimpkdaaTreeOkS
import Derived.Test.YtkpogjfaimpkdaaEndOfS
import Derived.BigQuiet
namespace Go.Proofs.Ytkpogjfaimpkdaa
open Go.RowKit
set_option linter.unusedVariables false

/-- what a round of the law's first loop reads -/
theorem Tr.idx_round {xs : Tr} (hok : Tr.ok xs = true) {i : Nat} (hi : i < xs.length) : ∃ r f : Nat, r < xs.length ∧ Zs.at (Zs.up (Tr.rks xs)) i = (r : Int) ∧ Zs.at (Zs.up (Tr.post xs)) r = (i : Int) ∧ Zs.at (Zs.up (Tr.lfs xs)) r = (f : Int) ∧ f ≤ i ∧ (r : Int) - f + 1 = Tr.endOf xs (i : Int) - i ∧ Tr.endOf xs (i : Int) ≤ xs.length ∧ 0 ≤ Tr.endOf xs (i : Int) := by
  have hpl := Tr.post_length hok
  have hr := Tr.rk_lt hok hi
  have hp := Tr.post_rk hok hi
  have he := Tr.endN_dn hok hi
  have hd := Tr.dn_le hok hi
  refine ⟨Tr.rk xs i, i - Tr.dn xs i, hr, ?_, ?_, ?_, by omega, ?_, ?_, ?_⟩
  · rw [Zs.up_at _ _ (by rw [Tr.rks_length, hpl]; exact hi)]
    simp [Tr.rks]
  · rw [Zs.up_at _ _ (by rw [hpl]; exact hr)]
    rw [List.getElem?_eq_getElem (by rw [hpl]; exact hr)] at hp
    injection hp with hp
    rw [hp]
  · have := Tr.lf_rk hok hi
    rw [Zs.up_at _ _ (by rw [Tr.lfs_length, hpl]; exact hr)]
    rw [List.getD_eq_getElem?_getD, List.getElem?_eq_getElem (by rw [Tr.lfs_length, hpl]; exact hr)] at this
    simp only [Option.getD_some] at this
    rw [this]
  · rw [Tr.endOf_yes (Tr.has_nat hok hi)]
    unfold Tr.rk
    omega
  · rw [Tr.endOf_yes (Tr.has_nat hok hi)]; omega
  · rw [Tr.endOf_yes (Tr.has_nat hok hi)]; omega
theorem Tr.krs_at {xs : Tr} {a : Nat} (h : a + 1 < (Tr.krs xs).length) : ∃ x y : Nat, Zs.at (Zs.up (Tr.krs xs)) (a + 1) = (x : Int) ∧ Zs.at (Zs.up (Tr.krs xs)) a = (y : Int) ∧ y < x :=
  ⟨_, _, Zs.up_at _ _ h, Zs.up_at _ _ (by omega), Tr.krs_rise (by omega) h⟩
theorem Tr.krs_end {xs : Tr} (hok : Tr.ok xs = true) : ∃ q : Nat, (Tr.krs xs).length = q + 1 ∧ Zs.at (Zs.up (Tr.krs xs)) q = ((xs.length - 1 : Nat) : Int) := by
  obtain ⟨r, hr⟩ := Tr.krs_last hok
  refine ⟨r.length, by rw [hr]; simp, ?_⟩
  rw [Zs.up_at _ _ (by rw [hr]; simp)]
  simp [hr]
set_option maxHeartbeats 3200000 in
set_option maxRecDepth 100000 in
theorem index_any (k : Code) (w : World) (hcode : CodeIn w w.heap.size k.a k.cs) (hlen : k.cs.length ≤ 1048576) :
    Calls Try.prog 5 #[.slice k.a k.cs.length k.cap] w fun e w' => e = .returned (.bool true) ∧ Below w.heap.size w w' := by
  have HC := Lib.hid hcode
  clear hcode
  go_enter Try.func5, Try.ntmps5
  go_wp2_with fail
  refine (big_small _ _ _ (by omega) _).mono ?_
  rintro e w0 ⟨rfl, rfl⟩
  have HW := Lib.hid (Below.refl (World.heap w).size w)
  go_wp2_with fail
  refine (drawTree_ex _ k HC.out hlen).mono ?_
  rintro e w1 ⟨xs, A, n, cp, rfl, hn, hcp, hn31, hb⟩
  have HW := Lib.hid (HW.out.trans (hb.mono HW.out.size))
  have HN := Lib.hid hn
  have HL := Lib.hid hn.1
  have hn20 : n ≤ 1048576 := by omega
  clear hb hn
  cases hok : Tr.ok xs with
  | false =>
    have hp0 : Tr.post xs = [] := Tr.post_none hok
    have H0 := Lib.hid (show Zs.up (Tr.post xs) = [] by rw [hp0]; rfl)
    have H1 := Lib.hid (show Zs.up (Tr.rks xs) = [] by unfold Tr.rks; rw [hp0]; rfl)
    have H2 := Lib.hid (show Zs.up (Tr.lfs xs) = [] by unfold Tr.lfs; rw [hp0]; rfl)
    have H3 := Lib.hid (show Zs.up (Tr.krs xs) = [] by unfold Tr.krs Tr.krTo; rw [Tr.lfs_length, hp0]; rfl)
    have Hok := Lib.hid hok
    clear hok hp0
    go_wp2_with fail
    refine (implPostOrder_any _ _ _ xs _ HN.out hn20 hcp).mono ?_
    rintro e w2 ⟨AP, cAP, rfl, ho, hb⟩
    have HW := Lib.hid (HW.out.trans (hb.mono HW.out.size))
    have HN := Lib.hid (HN.out.to_below hb)
    have HP := Lib.hid (IntIn.of_own ho)
    clear ho hb
    go_wp2_with fail
    refine (implRankOf_any _ _ _ xs _ HN.out hn20 hcp).mono ?_
    rintro e w3 ⟨AR, cAR, rfl, ho, hb⟩
    have HW := Lib.hid (HW.out.trans (hb.mono HW.out.size))
    have HN := Lib.hid (HN.out.to_below hb)
    have HP := Lib.hid (HP.out.to_below hb)
    have HR := Lib.hid (IntIn.of_own ho)
    clear ho hb
    go_wp2_with fail
    refine (implLeftLeaf_any _ _ _ xs _ HN.out hn20 hcp).mono ?_
    rintro e w4 ⟨AF, cAF, rfl, ho, hb⟩
    have HW := Lib.hid (HW.out.trans (hb.mono HW.out.size))
    have HN := Lib.hid (HN.out.to_below hb)
    have HP := Lib.hid (HP.out.to_below hb)
    have HR := Lib.hid (HR.out.to_below hb)
    have HF := Lib.hid (IntIn.of_own ho)
    clear ho hb
    go_wp2_with fail
    refine (implKeyRoots_any _ _ _ xs _ HN.out hn20 hcp).mono ?_
    rintro e w5 ⟨AK, cAK, rfl, ho, hb⟩
    have HW := Lib.hid (HW.out.trans (hb.mono HW.out.size))
    have HN := Lib.hid (HN.out.to_below hb)
    have HP := Lib.hid (HP.out.to_below hb)
    have HR := Lib.hid (HR.out.to_below hb)
    have HF := Lib.hid (HF.out.to_below hb)
    have HK := Lib.hid (IntIn.of_own ho)
    clear ho hb
    go_wp2_with fail
    refine (specTreeOk_any _ _ _ xs _ HN.out hn20).mono ?_
    rintro e w6 ⟨rfl, hd⟩
    have HW := Lib.hid (Drawn.below HW.out hd)
    have HN := Lib.hid (HN.out.to_drawn hd)
    have HP := Lib.hid (HP.out.to_drawn hd)
    have HR := Lib.hid (HR.out.to_drawn hd)
    have HF := Lib.hid (HF.out.to_drawn hd)
    have HK := Lib.hid (HK.out.to_drawn hd)
    clear hd
    rw [Hok.out, H0.out, H1.out, H2.out, H3.out]
    go_wp2
    go_ret
    exact ⟨rfl, HW.out⟩
  | true =>
    have hle := (Tr.ok_iff.1 hok).2
    rw [HL.out] at hle
    have hpl := Tr.post_length hok
    rw [HL.out] at hpl
    obtain ⟨q, hq, hqv⟩ := Tr.krs_end hok
    rw [HL.out] at hqv
    have L0 := Lib.hid (show (Zs.up (Tr.post xs)).length = n by rw [Zs.up_length, hpl])
    have L1 := Lib.hid (show (Zs.up (Tr.rks xs)).length = n by rw [Zs.up_length, Tr.rks_length, hpl])
    have L2 := Lib.hid (show (Zs.up (Tr.lfs xs)).length = n by rw [Zs.up_length, Tr.lfs_length, hpl])
    have L3 := Lib.hid (show (Zs.up (Tr.krs xs)).length = q + 1 by rw [Zs.up_length, hq])
    have hq24 : q + 1 ≤ 24 := by
      have h1 := Tr.krTo_le xs (Tr.lfs xs).length
      have h2 : Tr.krTo xs (Tr.lfs xs).length = Tr.krs xs := rfl
      rw [h2, hq, Tr.lfs_length, hpl] at h1
      omega
    have Hlv := Lib.hid (show Tr.leavesOf xs = ((q + 1 : Nat) : Int) by unfold Tr.leavesOf; rw [hok, if_pos rfl, ← Tr.krs_leaves hok, hq])
    have HRd := Lib.hid (fun i (h : i < n) => Tr.idx_round hok (i := i) (by rw [HL.out]; exact h))
    have HRs := Lib.hid (fun a (h : a + 1 < q + 1) => Tr.krs_at (xs := xs) (a := a) (by rw [hq]; exact h))
    have Hqv := Lib.hid hqv
    have Hok := Lib.hid hok
    clear hok hpl hq hqv
    go_wp2_with fail
    refine (implPostOrder_any _ _ _ xs _ HN.out hn20 hcp).mono ?_
    rintro e w2 ⟨AP, cAP, rfl, ho, hb⟩
    have HW := Lib.hid (HW.out.trans (hb.mono HW.out.size))
    have HN := Lib.hid (HN.out.to_below hb)
    have HP := Lib.hid (IntIn.of_own ho)
    clear ho hb
    go_wp2_with fail
    refine (implRankOf_any _ _ _ xs _ HN.out hn20 hcp).mono ?_
    rintro e w3 ⟨AR, cAR, rfl, ho, hb⟩
    have HW := Lib.hid (HW.out.trans (hb.mono HW.out.size))
    have HN := Lib.hid (HN.out.to_below hb)
    have HP := Lib.hid (HP.out.to_below hb)
    have HR := Lib.hid (IntIn.of_own ho)
    clear ho hb
    go_wp2_with fail
    refine (implLeftLeaf_any _ _ _ xs _ HN.out hn20 hcp).mono ?_
    rintro e w4 ⟨AF, cAF, rfl, ho, hb⟩
    have HW := Lib.hid (HW.out.trans (hb.mono HW.out.size))
    have HN := Lib.hid (HN.out.to_below hb)
    have HP := Lib.hid (HP.out.to_below hb)
    have HR := Lib.hid (HR.out.to_below hb)
    have HF := Lib.hid (IntIn.of_own ho)
    clear ho hb
    go_wp2_with fail
    refine (implKeyRoots_any _ _ _ xs _ HN.out hn20 hcp).mono ?_
    rintro e w5 ⟨AK, cAK, rfl, ho, hb⟩
    have HW := Lib.hid (HW.out.trans (hb.mono HW.out.size))
    have HN := Lib.hid (HN.out.to_below hb)
    have HP := Lib.hid (HP.out.to_below hb)
    have HR := Lib.hid (HR.out.to_below hb)
    have HF := Lib.hid (HF.out.to_below hb)
    have HK := Lib.hid (IntIn.of_own ho)
    clear ho hb
    go_wp2_with fail
    refine (specTreeOk_any _ _ _ xs _ HN.out hn20).mono ?_
    rintro e w6 ⟨rfl, hd⟩
    have HW := Lib.hid (Drawn.below HW.out hd)
    have HN := Lib.hid (HN.out.to_drawn hd)
    have HP := Lib.hid (HP.out.to_drawn hd)
    have HR := Lib.hid (HR.out.to_drawn hd)
    have HF := Lib.hid (HF.out.to_drawn hd)
    have HK := Lib.hid (HK.out.to_drawn hd)
    clear hd
    rw [Hok.out, L0.out, L1.out, L2.out, L3.out]
    rw [L0.out] at HP
    rw [L1.out] at HR
    rw [L2.out] at HF
    rw [L3.out] at HK
    obtain ⟨Q, hQ⟩ : ∃ Q, Q = q + 1 := ⟨_, rfl⟩
    rw [← hQ] at HK Hlv HRs hq24
    rw [← hQ]
    have HQ := Lib.hid hQ
    have hQ1 : 1 ≤ Q := by omega
    clear hQ
    go_wp2_with fail
    refine (implLeavesOf_any _ _ _ xs _ HN.out hn20 hcp).mono ?_
    rintro e w7 ⟨rfl, hb⟩
    have HW := Lib.hid (HW.out.trans (hb.mono HW.out.size))
    have HN := Lib.hid (HN.out.to_below hb)
    have HP := Lib.hid (HP.out.to_below hb)
    have HR := Lib.hid (HR.out.to_below hb)
    have HF := Lib.hid (HF.out.to_below hb)
    have HK := Lib.hid (HK.out.to_below hb)
    clear hb
    rw [Hlv.out]
    obtain ⟨aP, rfl, _⟩ := HP.out.2.1 (by omega)
    obtain ⟨aR, rfl, _⟩ := HR.out.2.1 (by omega)
    obtain ⟨aF, rfl, _⟩ := HF.out.2.1 (by omega)
    obtain ⟨aK, rfl, _⟩ := HK.out.2.1 (by omega)
    go_wp2
    go_loopw [8] (fun iv wr => ∃ i : Nat, i ≤ n ∧ iv = .int .i64 i ∧ Drawn w7 wr) (fun i _ => n - (intOf i).toNat)
    case atStart => exact ⟨0, Nat.zero_le _, rfl, Drawn.refl _⟩
    case round =>
      obtain ⟨i, hi, rfl, hD⟩ := hrel
      have HD := Lib.hid hD
      clear hD
      by_cases hlt : i < n
      · obtain ⟨r, f, r1, r2, r3, r4, r5, r6, r7, r8⟩ := HRd.out i hlt
        rw [HL.out] at r1 r7
        have cR := (HR.out.drawn HD.out).here hlt
        have cP := (HP.out.drawn HD.out).here r1
        have cF := (HF.out.drawn HD.out).here r1
        rw [r2] at cR
        rw [r3] at cP
        rw [r4] at cF
        have a1 : IntKind.i64.wrap ((r : Int) - f) = (r : Int) - f := Kit.w64 (by omega) (by omega)
        have a2 : IntKind.i64.wrap ((r : Int) - f + 1) = (r : Int) - f + 1 := Kit.w64 (by omega) (by omega)
        have a3 : IntKind.i64.wrap (Tr.endOf xs (i : Int) - i) = Tr.endOf xs (i : Int) - i := Kit.w64 (by omega) (by omega)
        have q1 : ((r : Int) - f + 1 != Tr.endOf xs (i : Int) - i) = false := by simp; omega
        have q2 : decide (n ≤ r) = false := by simp; omega
        have q3 : decide ((r : Int) < 0) = false := by simp
        have b0 : (0 : Int) ≤ (i : Int) := by omega
        have b1 : (i : Int) < (n : Int) := by omega
        have b2 : (0 : Int) ≤ (r : Int) := by omega
        have b3 : (r : Int) < (n : Int) := by omega
        have HX := Lib.hid (HN.out.to_drawn HD.out)
        clear r2 r3 r4 r5 r6 r7 r8
        go_wp2
        go_quiet (first | (go_at_call 32; exact quiet_drawn (specEndOf_any _ _ _ xs _ _ (HX.out.drewN _) hn20)))
        clear a1 a2 a3 q1
        go_wp2
        go_roundw
        case rel => exact ⟨i + 1, by omega, by go_num, HD.out.drewN _⟩
        case measure => simp [intOf]; omega
      · obtain rfl : i = n := by omega
        go_wp2
        go_loopw [9] (fun iv wr2 => ∃ j : Nat, 1 ≤ j ∧ j ≤ Q ∧ iv = .int .i64 j ∧ Drawn w7 wr2) (fun j _ => Q - (intOf j).toNat)
        case atStart => exact ⟨1, by omega, by omega, rfl, HD.out⟩
        case round =>
          clear HD
          obtain ⟨j, hj1, hj, rfl, hD⟩ := hrel
          have HD := Lib.hid hD
          clear hD
          obtain ⟨a, ha⟩ : ∃ a, j = a + 1 := ⟨j - 1, by omega⟩
          by_cases hlt2 : j < Q
          · obtain ⟨x, y, x1, x2, x3⟩ := HRs.out a (by omega)
            have cx := (HK.out.drawn HD.out).here hlt2
            have cy := (HK.out.drawn HD.out).here (k := a) (by omega)
            rw [← ha] at x1
            rw [x1] at cx
            rw [x2] at cy
            have a1 : IntKind.i64.wrap ((j : Int) - 1) = (a : Int) := by rw [Kit.w64 (by omega) (by omega)]; omega
            have q1 : decide (x ≤ y) = false := by simp; omega
            have b0 : (0 : Int) ≤ (a : Int) := by omega
            have b1 : (a : Int) < (Q : Int) := by omega
            have b2 : (0 : Int) ≤ (j : Int) := by omega
            have b3 : (j : Int) < (Q : Int) := by omega
            clear x1 x2 x3 ha
            go_wp2
            go_quiet (fail)
            clear a1
            go_wp2
            go_roundw
            case rel => exact ⟨j + 1, by omega, by omega, by go_num, HD.out.drewN _⟩
            case measure => simp [intOf]; omega
          · obtain rfl : Q = j := by omega
            obtain rfl : a = q := by have := HQ.out; omega
            have c0 := (HK.out.drawn HD.out).here (k := a) (by omega)
            rw [Hqv.out] at c0
            obtain ⟨v, hv⟩ : ∃ v, v = i - 1 := ⟨_, rfl⟩
            rw [← hv] at c0
            have q1 : ((v : Int) == (i : Int) - 1) = true := by simp; omega
            have q2 : decide (0 < Q) = true := by simp; omega
            have a1 : IntKind.i64.wrap ((Q : Int) - 1) = (a : Int) := by rw [Kit.w64 (by omega) (by omega)]; omega
            have a2 : IntKind.i64.wrap ((i : Int) - 1) = (i : Int) - 1 := Kit.w64 (by omega) (by omega)
            have HB := Lib.hid (Drawn.below HW.out HD.out)
            have b0 : (Q : Int) - 1 = (a : Int) := by omega
            have b1 : (0 : Int) ≤ (a : Int) := by omega
            have b2 : (a : Int) < (Q : Int) := by omega
            clear ha hv
            go_wp2
            go_ret
            exact ⟨rfl, HB.out⟩

end Go.Proofs.Ytkpogjfaimpkdaa
