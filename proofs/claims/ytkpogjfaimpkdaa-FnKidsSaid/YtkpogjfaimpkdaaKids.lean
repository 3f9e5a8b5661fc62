/- Contracts (Kids). -/
import Derived.Test.YtkpogjfaimpkdaaBig
import Derived.Test.YtkpogjfaimpkdaaDrawTI
import Derived.Test.YtkpogjfaimpkdaaKidsP
import Derived.Test.YtkpogjfaimpkdaaKidRankI
import Derived.Test.YtkpogjfaimpkdaaParI
import Derived.Test.YtkpogjfaimpkdaaSubI
import Derived.Test.YtkpogjfaimpkdaaTreeOkS
namespace Go.Proofs.Ytkpogjfaimpkdaa
open Go.RowKit
set_option linter.unusedVariables false

set_option maxHeartbeats 3200000 in
set_option maxRecDepth 100000 in
theorem kids_any (k : Code) (w : World) (hcode : CodeIn w w.heap.size k.a k.cs) (hlen : k.cs.length ≤ 1048576) :
    Calls Try.prog 4 #[.slice k.a k.cs.length k.cap] w fun e w' => e = .returned (.bool true) ∧ Below w.heap.size w w' := by
  have HC := Lib.hid hcode
  clear hcode
  go_enter Try.func4, Try.ntmps4
  go_wp2_with fail
  refine (big_small _ _ _ (by omega) _).mono ?_
  rintro e w0 ⟨rfl, rfl⟩
  have HW := Lib.hid (Below.refl (World.heap w).size w)
  go_wp2_with fail
  refine (drawKidsOf_ex _ k HC.out hlen).mono ?_
  rintro e w1 ⟨xs, A, n, cp, i, rfl, hn, hcp, hn31, hb⟩
  have HW := Lib.hid (HW.out.trans (hb.mono HW.out.size))
  have HN := Lib.hid hn
  have HL := Lib.hid hn.1
  have hn20 : n ≤ 1048576 := by omega
  clear hb hn
  cases hh : Tr.has xs i with
  | false =>
    have Hk0 := Lib.hid (Tr.kidsI_no hh)
    have Hs0 := Lib.hid (Tr.subTree_no hh)
    have Hen := Lib.hid (Tr.endOf_no hh)
    go_wp2_with fail
    refine (implKidsOf_any _ _ _ xs _ _ HN.out hn20 hcp).mono ?_
    rintro e w2 ⟨Ak, ck, rfl, ho, hb⟩
    have HW := Lib.hid (HW.out.trans (hb.mono HW.out.size))
    have HN := Lib.hid (HN.out.to_below hb)
    have HK := Lib.hid (IntIn.of_own ho)
    clear ho hb
    go_wp2_with fail
    refine (implSubTree_any _ _ _ xs _ _ HN.out hn20 hcp).mono ?_
    rintro e w3 ⟨As, cs, rfl, ho, hb⟩
    have HW := Lib.hid (HW.out.trans (hb.mono HW.out.size))
    have HN := Lib.hid (HN.out.to_below hb)
    have HK := Lib.hid (HK.out.to_below hb)
    have HS := Lib.hid (NdIn.of_own ho)
    have hcs := own_cap ho
    clear ho hb
    go_wp2_with fail
    refine (specTreeOk_any _ _ _ xs _ HN.out hn20).mono ?_
    rintro e w4 ⟨rfl, hd⟩
    have HW := Lib.hid (Drawn.below HW.out hd)
    have HN := Lib.hid (HN.out.to_drawn hd)
    have HK := Lib.hid (HK.out.to_drawn hd)
    have HS := Lib.hid (HS.out.to_drawn hd)
    clear hd
    rw [Hk0.out, Hs0.out]
    cases hok : Tr.ok xs with
    | false =>
      clear hh hok
      go_wp2_with fail
      refine (implEndOf_any _ _ _ xs _ _ HN.out hn20 hcp).mono ?_
      rintro e w5 ⟨rfl, hb⟩
      have HW := Lib.hid (HW.out.trans (hb.mono HW.out.size))
      clear hb
      rw [Hen.out]
      go_wp2
      go_ret
      exact ⟨rfl, HW.out⟩
    | true =>
      by_cases h1 : i < 0
      · have e1 : decide (i < 0) = true := by simpa using h1
        clear hh hok h1
        go_wp2_with fail
        refine (implEndOf_any _ _ _ xs _ _ HN.out hn20 hcp).mono ?_
        rintro e w5 ⟨rfl, hb⟩
        have HW := Lib.hid (HW.out.trans (hb.mono HW.out.size))
        clear hb
        rw [Hen.out]
        go_wp2
        go_ret
        exact ⟨rfl, HW.out⟩
      · have e1 : decide (i < 0) = false := by simpa using h1
        have h3 : (n : Int) ≤ i := by
          refine Classical.byContradiction fun h4 => ?_
          rw [Tr.has_iff.2 ⟨hok, by omega, by rw [HL.out]; omega⟩] at hh
          cases hh
        have e3 : decide ((n : Int) ≤ i) = true := by simpa using h3
        clear hh hok h1 h3
        go_wp2_with fail
        refine (implEndOf_any _ _ _ xs _ _ HN.out hn20 hcp).mono ?_
        rintro e w5 ⟨rfl, hb⟩
        have HW := Lib.hid (HW.out.trans (hb.mono HW.out.size))
        clear hb
        rw [Hen.out]
        go_wp2
        go_ret
        exact ⟨rfl, HW.out⟩
  | true =>
    have hok := (Tr.has_iff.1 hh).1
    have hi := (Tr.has_iff.1 hh).2
    rw [HL.out] at hi
    have hle := (Tr.ok_iff.1 hok).2
    rw [HL.out] at hle
    obtain ⟨i, rfl⟩ := Int.eq_ofNat_of_zero_le hi.1
    have hin : i < n := by omega
    have hix : i < xs.length := by rw [HL.out]; exact hin
    have HR := Lib.hid (fun b j hb hj hlt => Tr.kid_round hok hix (b := b) (j := j) hb hj hlt)
    have HLast := Lib.hid (fun b j hb hj hlt => Tr.kid_last hok hix (b := b) (j := j) hb hj hlt)
    have HB0 := Lib.hid (Tr.bound_start hok hix)
    have HSok := Lib.hid (Tr.sub_ok hok hix)
    have HSl := Lib.hid (show (Tr.subTree xs (i : Int)).length = Tr.endN xs i - i by rw [Tr.subTree_yes hh, Tr.subTo_length])
    have Hen := Lib.hid (Tr.endOf_yes hh)
    have hE := Tr.endN_dn hok hix
    have hE1 := hE.1
    have hE2 := hE.2.1
    rw [HL.out] at hE2
    have HKl := Lib.hid (show (Tr.kidsI xs (i : Int)).length = (Tr.kidsTo xs i (Tr.endN xs i)).length by rw [Tr.kidsI_yes hh]; unfold Tr.kidsZ; rw [List.length_map])
    have hKle := Tr.kidsI_len xs (i : Int)
    rw [HL.out] at hKle
    have Hok := Lib.hid hok
    have e1 : decide ((i : Int) < 0) = false := by simp
    have e3 : decide (n ≤ i) = false := by simp; omega
    clear hh hok hi hix hE
    go_wp2_with fail
    refine (implKidsOf_any _ _ _ xs _ _ HN.out hn20 hcp).mono ?_
    rintro e w2 ⟨Ak, ck, rfl, ho, hb⟩
    have HW := Lib.hid (HW.out.trans (hb.mono HW.out.size))
    have HN := Lib.hid (HN.out.to_below hb)
    have HK := Lib.hid (IntIn.of_own ho)
    clear ho hb
    go_wp2_with fail
    refine (implSubTree_any _ _ _ xs _ _ HN.out hn20 hcp).mono ?_
    rintro e w3 ⟨As, cs, rfl, ho, hb⟩
    have HW := Lib.hid (HW.out.trans (hb.mono HW.out.size))
    have HN := Lib.hid (HN.out.to_below hb)
    have HK := Lib.hid (HK.out.to_below hb)
    have HS := Lib.hid (NdIn.of_own ho)
    have hcs := own_cap ho
    clear ho hb
    go_wp2_with fail
    refine (specTreeOk_any _ _ _ xs _ HN.out hn20).mono ?_
    rintro e w4 ⟨rfl, hd⟩
    have HW := Lib.hid (Drawn.below HW.out hd)
    have HN := Lib.hid (HN.out.to_drawn hd)
    have HK := Lib.hid (HK.out.to_drawn hd)
    have HS := Lib.hid (HS.out.to_drawn hd)
    clear hd
    rw [Hok.out]
    obtain ⟨E, hEE⟩ : ∃ E, E = Tr.endN xs i := ⟨_, rfl⟩
    obtain ⟨m, hm⟩ : ∃ m, m = (Tr.kidsI xs (i : Int)).length := ⟨_, rfl⟩
    rw [← hEE] at HR HLast HSl Hen HKl hE1 hE2
    obtain ⟨D, hD⟩ : ∃ D, D = E - i := ⟨_, rfl⟩
    have HD := Lib.hid (show E = i + D by omega)
    rw [← hD] at HSl
    rw [← hm] at HK HKl hKle
    rw [HSl.out] at HS hcs
    rw [← hm, HSl.out]
    have hDn : D ≤ 1048576 := by omega
    clear hm hEE hD
    go_wp2
    go_loopw [7, 8] (fun nv jv wr => ∃ (j b d : Nat), j ≤ m ∧ jv = .int .i64 j ∧ nv = .int .i64 d ∧ b = i + d ∧ Tr.bound xs i b ∧ (Tr.kidsTo xs i b).length = j ∧ b ≤ E ∧ NdIn wr wr.heap.size A n xs ∧ IntIn wr wr.heap.size Ak m (Tr.kidsI xs i) ∧ NdIn wr wr.heap.size As D (Tr.subTree xs i) ∧ Below w.heap.size w wr) (fun _ j _ => m - (intOf j).toNat)
    case atStart => exact ⟨0, i + 1, 1, Nat.zero_le _, rfl, rfl, rfl, HB0.out, by rw [Tr.kidsTo_start]; rfl, by omega, HN.out, HK.out, HS.out, HW.out⟩
    case round =>
      clear HN HK HS HW HB0
      obtain ⟨j, b, d, hj, rfl, rfl, hbi, hbd, hjl, hbE, hN, hK, hS, hB⟩ := hrel
      have HN := Lib.hid hN
      have HK := Lib.hid hK
      have HS := Lib.hid hS
      have HW := Lib.hid hB
      clear hN hK hS hB
      by_cases hlt : j < m
      · obtain ⟨r1, r2, r3, r4, r5, r6, r7, r8, r9, r10⟩ := HR.out b j hbd hjl (by rw [← HKl.out]; exact hlt)
        obtain ⟨ak, rfl, _, c0⟩ := HK.out.at_ hlt
        rw [r2] at c0
        rw [HL.out] at r1 r9
        have rE := r6.2.1
        obtain ⟨e', he'⟩ : ∃ e', e' = Tr.endN xs b := ⟨_, rfl⟩
        obtain ⟨L, hL⟩ : ∃ L, L = e' - b := ⟨_, rfl⟩
        have q : ((b : Int) != (i : Int) + (d : Int)) = false := by simp; omega
        rw [← he'] at r5 r6 r7 r8 r9
        have rE2 : e' ≤ E := by have := r6.2.1; rw [HD.out]; have := Hen.out; rw [Tr.endOf_yes (Tr.has_nat Hok.out (by rw [HL.out]; exact hin))] at this; have := HD.out; omega
        rw [← hL] at r5
        have R2 := Lib.hid r2
        have R3 := Lib.hid r3
        have R4 := Lib.hid r4
        have R5 := Lib.hid r5
        have R6 := Lib.hid r6
        have R7 := Lib.hid r7
        have RB := Lib.hid (show e' = i + (d + L) by omega)
        have hdL : d + L ≤ 31 := by omega
        have b0 : (0 : Int) ≤ (j : Int) := by omega
        have b1 : (j : Int) < (m : Int) := by omega
        clear r2 r3 r4 r5 r6 r7 r8 r10 rE he' hL hbd hjl hbi
        go_wp2_with fail
        refine (implParentOf_any _ _ _ xs _ _ HN.out hn20 hcp).mono ?_
        rintro e w5 ⟨rfl, hb⟩
        have HW := Lib.hid (HW.out.trans (hb.mono HW.out.size))
        have HN := Lib.hid (HN.out.to_below hb)
        have HK := Lib.hid (HK.out.to_below hb)
        have HS := Lib.hid (HS.out.to_below hb)
        clear hb
        rw [R3.out]
        have c1 := HK.out.here hlt
        rw [R2.out] at c1
        go_wp2_with fail
        refine (implKidRank_any _ _ _ xs _ _ HN.out hn20 hcp).mono ?_
        rintro e w6 ⟨rfl, hb⟩
        have HW := Lib.hid (HW.out.trans (hb.mono HW.out.size))
        have HN := Lib.hid (HN.out.to_below hb)
        have HK := Lib.hid (HK.out.to_below hb)
        have HS := Lib.hid (HS.out.to_below hb)
        clear hb
        rw [R4.out]
        have c2 := HK.out.here hlt
        rw [R2.out] at c2
        go_wp2_with fail
        refine (implSubTree_any _ _ _ xs _ _ HN.out hn20 hcp).mono ?_
        rintro e w7 ⟨A7, c7, rfl, ho, hb⟩
        clear ho
        have HW := Lib.hid (HW.out.trans (hb.mono HW.out.size))
        have HN := Lib.hid (HN.out.to_below hb)
        have HK := Lib.hid (HK.out.to_below hb)
        have HS := Lib.hid (HS.out.to_below hb)
        clear hb
        rw [R5.out]
        clear c0 c1 c2
        go_wp2
        go_roundw
        case rel =>
          exact ⟨j + 1, e', d + L, by omega, by go_num, by go_num, RB.out, R6.out, R7.out, rE2, HN.out, HK.out, HS.out, HW.out⟩
        case measure => simp [intOf]; omega
      · obtain rfl : j = m := by omega
        have hbe := HLast.out b j hbd hjl HKl.out
        obtain rfl : d = D := by have := HD.out; omega
        have q2 : ((E : Int) == (i : Int) + (d : Int)) = true := by have := HD.out; simp; omega
        clear hbe hbd hjl hbi
        go_wp2_with fail
        refine (implEndOf_any _ _ _ xs _ _ HN.out hn20 hcp).mono ?_
        rintro e w5 ⟨rfl, hb⟩
        have HW := Lib.hid (HW.out.trans (hb.mono HW.out.size))
        have HN := Lib.hid (HN.out.to_below hb)
        have HK := Lib.hid (HK.out.to_below hb)
        have HS := Lib.hid (HS.out.to_below hb)
        clear hb
        rw [Hen.out]
        go_wp2_with fail
        refine (specTreeOk_any _ _ _ (Tr.subTree xs i) _ HS.out hDn).mono ?_
        rintro e w6 ⟨rfl, hd⟩
        have HW := Lib.hid (Drawn.below HW.out hd)
        have HS := Lib.hid (HS.out.to_drawn hd)
        clear hd
        rw [HSok.out]
        go_wp2_with fail
        refine (implTreeOk_any _ _ _ (Tr.subTree xs i) _ HS.out hDn hcs).mono ?_
        rintro e w7 ⟨rfl, hb⟩
        have HW := Lib.hid (HW.out.trans (hb.mono HW.out.size))
        clear hb
        rw [HSok.out]
        go_wp2
        go_ret
        exact ⟨rfl, HW.out⟩

end Go.Proofs.Ytkpogjfaimpkdaa
