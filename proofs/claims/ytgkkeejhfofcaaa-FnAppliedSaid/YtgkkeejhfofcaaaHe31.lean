/- Texts of one claim laid into one file, in build order: AllS13, NdSm, SameS, Big, Apl14, ExApd. -/
import Derived.Test.YtgkkeejhfofcaaaHe1
import Derived.Test.YtgkkeejhfofcaaaHe14
import Derived.Test.YtgkkeejhfofcaaaHe19
import Derived.Test.YtgkkeejhfofcaaaHe20
import Derived.Test.YtgkkeejhfofcaaaHe26
import Derived.Test.YtgkkeejhfofcaaaHe29
import Derived.Test.YtgkkeejhfofcaaaHe30
import Derived.Test.YtgkkeejhfofcaaaHe5
import Derived.Outline
import Derived.OwnWalk
import Derived.StillTailTactics
import Derived.Test.YtgkkeejhfofcaaaRows
/- Contracts (AllS13). -/
namespace Go.Proofs.Ytgkkeejhfofcaaa
open Go.RowKit
set_option linter.unusedVariables false

set_option maxHeartbeats 3200000 in
set_option maxRecDepth 100000 in
theorem specApplyAll_any (A B : Option Addr) (n c n' c' : Nat) (xs : Tr) (os : List Opr) (w : World) (h : NdIn w w.heap.size A n xs) (h' : OpsIn w w.heap.size B n' os) (hn : n ≤ 1048576) (hn' : n' ≤ 1048576) (hp : ∀ i, (os.getD i Opr.z).p.length ≤ 1048576) :
    Calls Try.prog 27 #[.slice A n c, .slice B n' c'] w (OwnNd3 47 (Oc.allOf xs os) w) := by
  have H := Lib.hid h
  have O := Lib.hid h'
  clear h h'
  have HL := Lib.hid H.out.1
  have OL := Lib.hid O.out.1
  have HP := Lib.hid hp
  clear hp
  rcases hok : Tr.ok xs with _ | _
  · have HR := Lib.hid (show Oc.allOf xs os = ([], 0, 2) by unfold Oc.allOf; rw [hok]; rfl)
    have Hok := Lib.hid hok
    clear hok
    go_enter Try.func27, Try.ntmps27
    go_wp2_with fail
    refine (specTreeOk_any _ _ _ xs _ H.out hn).mono ?_
    rintro e w1 ⟨rfl, hb1⟩
    have HB1 := Lib.hid (show Below w.heap.size w w1 from hb1.toBelow (B := w.heap.size))
    have hs1 := HB1.out.size
    clear hb1
    rw [Hok.out]
    go_wp2
    go_ret3
    exact ⟨_, _, by rw [HR.out]; rfl, by rw [HR.out]; exact World.ownsRow_lit w1 #[] 0 hs1 (Nat.zero_le _) rfl, HB1.out.alloc hs1 _⟩
  have HR := Lib.hid (show Oc.allOf xs os = Oc.from_ xs os 0 by unfold Oc.allOf; rw [if_pos hok, Oc.from_zero])
  have n24 := Tr.len24 hok
  rw [HL.out] at n24
  obtain ⟨ad, rfl, _⟩ := H.out.2.1 (by omega)
  have HOK := Lib.hid hok
  have HFS := Lib.hid (fun (X : Tr) (i : Nat) (hi : i < os.length) => Oc.from_step X os hi)
  have HFE := Lib.hid (fun (X : Tr) => Oc.from_end X os)
  clear hok
  go_enter Try.func27, Try.ntmps27
  go_wp2_with fail
  refine (specTreeOk_any _ _ _ xs _ H.out hn).mono ?_
  rintro e w1 ⟨rfl, hb1⟩
  have HB1 := Lib.hid (show Below w.heap.size w w1 from hb1.toBelow (B := w.heap.size))
  have hs1 := HB1.out.size
  have H1 := Lib.hid (H.out.to_below HB1.out)
  clear hb1
  rw [HOK.out]
  go_wp2_with fail
  refine (l3Copy_ex ad n c xs _ H1.out hn).mono ?_
  rintro e w2 ⟨A2, c2, rfl, ho2, hg2⟩
  have hb2 := (Below.refl w1.heap.size w1).grown hg2 (Nat.le_refl _) (fun _ hk => by cases hk)
  rw [← HL.out] at ho2 ⊢
  have HB2 := Lib.hid (HB1.out.trans (hb2.mono hs1))
  have HO2 := Lib.hid (own_base ho2 hs1)
  clear hb2 ho2
  go_wp2
  go_loopw [7, 8] (fun ov iv wr => ∃ (i : Nat) (X : Tr) (A7 : Option Addr) (c7 : Nat), i ≤ n' ∧ iv = .int .i64 i ∧ ov = .slice A7 X.length c7 ∧ wr.ownsRow w.heap.size 47 2 (.slice A7 X.length c7) X.length (Tr.cells X) ∧ Tr.ok X = true ∧ Oc.from_ xs os 0 = Oc.from_ X os i ∧ Below w.heap.size w wr) (fun _ i _ => n' - (intOf i).toNat)
  case atStart => exact ⟨0, xs, A2, c2, by omega, by go_num, rfl, HO2.out, HOK.out, rfl, HB2.out⟩
  case round =>
    obtain ⟨i, X, A7, c7, hi, rfl, rfl, hown, hokX, hfrom, hB⟩ := hrel
    have HO7 := Lib.hid hown
    have hc7 := own_cap hown
    have HB := Lib.hid hB
    have HFR := Lib.hid hfrom
    have hX24 := Tr.len24 hokX
    have HKX := Lib.hid hokX
    have HN := Lib.hid (NdIn.of_own hown)
    clear hown hB hfrom hokX
    by_cases hlt : i < n'
    · obtain ⟨ad2, P, q, rfl, y0, y1, y2, y3, y4, hI⟩ := (O.out.to_below HB.out).at_ hlt
      have HI := Lib.hid hI
      have HPL := Lib.hid (HP.out i)
      have HST := Lib.hid (HFS.out X i (by rw [OL.out]; exact hlt))
      obtain ⟨o, ho⟩ : ∃ o, o = os.getD i Opr.z := ⟨_, rfl⟩
      rw [← ho] at y0 y1 y2 y3 y4 HI HPL HST
      obtain ⟨K, p, Ka, Kf, Kz⟩ := o
      dsimp only at y0 y1 y2 y3 y4 HI HPL
      clear ho hI
      have b0 : (0 : Int) ≤ (i : Int) := by omega
      have b1 : (i : Int) < (n' : Int) := by omega
      obtain ⟨R, hR⟩ : ∃ R, R = Oc.apply X ⟨K, p, Ka, Kf, Kz⟩ := ⟨_, rfl⟩
      have CC := Lib.hid (show Calls Try.prog 22 #[.slice A7 X.length c7, .agg #[.int .i64 K, .slice P p.length q, .int .i64 Ka, .int .i64 Kf, .int .i64 Kz]] wr (OwnNdC 47 R wr) from by rw [hR]; exact specApplyOp_any A7 X.length c7 X K Ka Kf Kz p P p.length q _ HN.out HI.out (by omega) HPL.out)
      go_wp2_with fail
      refine CC.out.mono ?_
      rintro e w4 ⟨A4, c4, rfl, ho4, hb4⟩
      have HB4 := Lib.hid (HB.out.trans (hb4.mono HB.out.size))
      have HO4 := Lib.hid (own_base ho4 HB.out.size)
      have HO7 := Lib.hid (own_below HO7.out hb4)
      clear ho4 hb4 y0 y1 y2 y3 y4
      by_cases hc : R.2 = 0
      · have q0 : (R.2 == 0) = true := by simpa using hc
        have q2 : (R.2 != 0) = false := by simpa using hc
        have HOX := Lib.hid (show Tr.ok R.1 = true by rw [hR] at hc ⊢; exact Oc.apply_ok HKX.out hc)
        have HST2 := Lib.hid (show Oc.from_ xs os 0 = Oc.from_ R.1 os (i + 1) by rw [HFR.out, HST.out, ← hR, if_pos hc])
        clear hR hc
        go_wp2
        go_roundw
        case rel => exact ⟨i + 1, R.1, A4, c4, by omega, by go_num, rfl, HO4.out, HOX.out, HST2.out, HB4.out⟩
        case measure => simp [intOf]; omega
      · have q0 : (R.2 == 0) = false := by simpa using hc
        have q1 : ¬ R.2 = 0 := hc
        have q2 : (R.2 != 0) = true := by simpa using hc
        have HKP := Lib.hid (show R.1 = X by rw [hR] at hc ⊢; exact Oc.apply_keep HKX.out hc)
        have HST2 := Lib.hid (show Oc.allOf xs os = (X, i, R.2) by rw [HR.out, HFR.out, HST.out, ← hR, if_neg hc])
        clear hR hc
        go_wp2
        go_ret3
        exact ⟨A7, c7, by rw [HST2.out]; rfl, by rw [HST2.out]; exact HO7.out, HB4.out⟩
    · obtain rfl : i = n' := by omega
      have HST2 := Lib.hid (show Oc.allOf xs os = (X, i, 0) by rw [HR.out, HFR.out]; have := HFE.out X; rw [OL.out] at this; exact this)
      go_wp2
      go_ret3
      exact ⟨A7, c7, by rw [HST2.out]; rfl, by rw [HST2.out]; exact HO7.out, HB.out⟩

end Go.Proofs.Ytgkkeejhfofcaaa

/- Two lists of nodes that agree so far. -/
namespace Go.Proofs.Ytgkkeejhfofcaaa
open Go.RowKit
set_option linter.unusedVariables false

/-- the first k nodes agree -/
def Tr.same (xs ys : Tr) (k : Nat) : Prop := ∀ j, j < k → Tr.l xs j = Tr.l ys j ∧ Tr.d xs j = Tr.d ys j

end Go.Proofs.Ytgkkeejhfofcaaa

/- Contracts (SameS). -/
namespace Go.Proofs.Ytgkkeejhfofcaaa
open Go.RowKit
set_option linter.unusedVariables false

set_option maxHeartbeats 800000 in
set_option maxRecDepth 100000 in
theorem specSameTree_any (A A' : Option Addr) (n c n' c' : Nat) (xs ys : Tr) (w : World) (h : NdIn w w.heap.size A n xs) (hn : n ≤ 1048576) (h' : NdIn w w.heap.size A' n' ys) (hn' : n' ≤ 1048576) :
    Calls Try.prog 18 #[.slice A n c, .slice A' n' c'] w fun e w' => e = .returned (.bool (decide (xs = ys))) ∧ Drawn w w' := by
  have H := Lib.hid h
  have H' := Lib.hid h'
  clear h h'
  have HL := Lib.hid H.out.1
  have HL' := Lib.hid H'.out.1
  by_cases hnn : n = n'
  · go_enter Try.func18, Try.ntmps18
    have Hnn := Lib.hid hnn
    have hne : ((n : Int) != (n' : Int)) = false := by simp [hnn]
    clear hnn
    go_wp2
    go_loopw [5] (fun iv wr => ∃ k : Nat, k ≤ n ∧ iv = .int .i64 k ∧ Tr.same xs ys k ∧ Drawn w wr) (fun i _ => n - (intOf i).toNat)
    case atStart => exact ⟨0, by omega, rfl, fun j hj => absurd hj (by omega), Drawn.refl _⟩
    case round =>
      obtain ⟨k, hk, rfl, hsm, hD⟩ := hrel
      have Hsm := Lib.hid hsm
      clear hsm
      by_cases hlt : k < n
      · obtain ⟨ad, rfl, hb, hl, hd⟩ := (H.out.drawn hD).at_ hlt
        obtain ⟨ad', rfl, hb', hl', hd'⟩ := (H'.out.drawn hD).at_ (k := k) (by rw [← Hnn.out]; exact hlt)
        have hlt' : (k : Int) < (n' : Int) := by rw [← Hnn.out]; omega
        have hk0 : (0 : Int) ≤ (k : Int) := by omega
        by_cases hq1 : Tr.l xs k = Tr.l ys k
        · by_cases hq2 : Tr.d xs k = Tr.d ys k
          · have Hq := Lib.hid (And.intro hq1 hq2)
            have q1 : (Tr.l xs k == Tr.l ys k) = true := by simpa using hq1
            have q2 : (Tr.d xs k == Tr.d ys k) = true := by simpa using hq2
            clear hq1 hq2
            go_wp2
            go_quiet (fail)
            go_wp2
            go_roundw
            case rel => exact ⟨k + 1, by omega, by go_num, fun j hj => by
              rcases Nat.lt_succ_iff_lt_or_eq.1 hj with h' | rfl
              · exact Hsm.out j h'
              · exact Hq.out, hD.drewN _⟩
            case measure => simp [intOf]; omega
          · have Hq := Lib.hid hq2
            have q1 : (Tr.l xs k == Tr.l ys k) = true := by simpa using hq1
            have q2 : (Tr.d xs k == Tr.d ys k) = false := by simpa using hq2
            clear hq1 hq2
            go_wp2
            go_quiet (fail)
            go_wp2
            go_ret
            refine ⟨Kit.ret_bool ?_, hD.drewN _⟩
            symm
            rw [decide_eq_false_iff_not]
            rintro rfl
            exact Hq.out rfl
        · have Hq := Lib.hid hq1
          have q1 : (Tr.l xs k == Tr.l ys k) = false := by simpa using hq1
          clear hq1
          go_wp2
          go_quiet (fail)
          go_wp2
          go_ret
          refine ⟨Kit.ret_bool ?_, hD.drewN _⟩
          symm
          rw [decide_eq_false_iff_not]
          rintro rfl
          exact Hq.out rfl
      · obtain rfl : k = n := by omega
        go_wp2
        go_ret
        refine ⟨Kit.ret_bool ?_, hD⟩
        symm
        rw [decide_eq_true_eq]
        exact Tr.ext (by rw [HL.out, HL'.out]; exact Hnn.out) (fun j hj => Hsm.out j (by rw [← HL.out]; exact hj))
  · have hne : ((n : Int) != (n' : Int)) = true := by simp; omega
    have Hq := Lib.hid (show decide (xs = ys) = false by
      rw [decide_eq_false_iff_not]; rintro rfl; exact hnn (HL.out.symm.trans HL'.out))
    clear hnn
    go_enter Try.func18, Try.ntmps18
    go_wp2
    go_ret
    exact ⟨Kit.ret_bool Hq.out.symm, Drawn.refl _⟩

end Go.Proofs.Ytgkkeejhfofcaaa

/- Laws over a code: codes that are too long; the code as bytes. -/
namespace Go.Proofs.Ytgkkeejhfofcaaa
open Go.RowKit
set_option linter.unusedVariables false

set_option maxHeartbeats 400000 in
theorem big_small (a : Option Addr) (n cap : Nat) (h : (n : Int) ≤ 1048576) (w : World) :
    Calls Try.prog 10 #[.slice a n cap] w fun e w' => e = .returned (.bool false) ∧ w = w' := by
  go_enter Try.func10, Try.ntmps10
  go_wp2
  go_ret
  exact ⟨Kit.ret_bool (by simp; try omega), rfl⟩
set_option maxHeartbeats 400000 in
theorem big_big (a : Option Addr) (n cap : Nat) (h : (1048576 : Int) < n) (w : World) :
    Calls Try.prog 10 #[.slice a n cap] w fun e w' => e = .returned (.bool true) ∧ w = w' := by
  go_enter Try.func10, Try.ntmps10
  go_wp2
  go_ret
  exact ⟨Kit.ret_bool (by simp; try omega), rfl⟩

theorem code_of {w : World} {a : Option Addr} {n cap : Nat} {zs : List Int} (h : Kit.BytesIn w a n cap zs) : (zs.take n).length = n ∧ CodeIn w w.heap.size a (zs.take n) := by
  rcases h with ⟨rfl, rfl, rfl, rfl⟩ | ⟨x, rfl, hl, hm, hz, hcell, hwz⟩
  · exact ⟨rfl, fun j hj => by simp at hj⟩
  · have hlen : (zs.take n).length = n := by simp; omega
    refine ⟨hlen, fun j hj => ?_⟩
    have hj' : j < n := by omega
    have hc := hcell j (by omega)
    obtain ⟨b, off, spot⟩ := x
    have hspot : spot = none := by
      have := World.cell?_spot (hcell 0 (by omega))
      simpa [Addr.add] using this
    subst hspot
    have e : ((⟨b, off, none⟩ : Addr).add j) = ⟨b, off + j, none⟩ := by unfold Addr.add; split <;> simp_all
    rw [e] at hc
    have hg : (zs.take n).getD j 0 = zs.getD j 0 := by simp [List.getD, hj']
    refine ⟨b, off, rfl, ?_, by rw [hg]; exact hc, ?_⟩
    · rcases Nat.lt_or_ge b w.heap.size with h' | h'
      · exact h'
      · simp [World.cell?, Array.getElem?_eq_none h'] at hc
    · rw [hg]
      have hm : zs.getD j 0 ∈ zs := by
        rw [List.getD_eq_getElem?_getD, List.getElem?_eq_getElem (by omega)]
        exact List.getElem_mem _
      have := hwz _ hm
      simp only [List.getD_eq_getElem?_getD] at this ⊢
      simp [Lit.wf, IntKind.min, IntKind.max, IntKind.signed, IntKind.bits] at this
      omega


end Go.Proofs.Ytgkkeejhfofcaaa

/- Contracts (Apl14). -/
namespace Go.Proofs.Ytgkkeejhfofcaaa
open Go.RowKit
set_option linter.unusedVariables false

theorem Oc.all_len14 : ∀ (os : List Opr) (xs : Tr), xs.length ≤ 1048576 → (Oc.all xs os).1.length ≤ 1048576
  | [], xs, h => h
  | o :: os, xs, h => by
    rw [Oc.all]
    split
    · exact Oc.all_len14 os _ (Nat.le_trans (Oc.apply_len _ _) (by decide))
    · exact h
set_option maxHeartbeats 1200000 in
set_option maxRecDepth 100000 in
theorem applied_any (k : Code) (w : World) (hcode : CodeIn w w.heap.size k.a k.cs) (hlen : k.cs.length ≤ 1048576) :
    Calls Try.prog 5 #[.slice k.a k.cs.length k.cap] w fun e w' => e = .returned (.bool true) ∧ Below w.heap.size w w' := by
  have HC := Lib.hid hcode
  clear hcode
  go_enter Try.func5, Try.ntmps5
  go_wp2_with fail
  refine (big_small _ _ _ (by omega) _).mono ?_
  rintro e w0 ⟨rfl, rfl⟩
  go_wp2_with fail
  refine (drawApplyAll_ex w k HC.out hlen).mono ?_
  rintro e w1 ⟨xs, A, n, cp, os, go, co, rfl, ha, hcp, hn, ho, hco, hol, hpl, hbl⟩
  have HN := Lib.hid ha
  have HO := Lib.hid ho
  have HW := Lib.hid hbl
  have HCO := Lib.hid hco
  have HP := Lib.hid (fun i => show (os.getD i Opr.z).p.length ≤ 1048576 from Nat.le_trans (hpl i) (by decide))
  obtain ⟨R, hR⟩ : ∃ R, R = Oc.allOf xs os := ⟨_, rfl⟩
  have HR := Lib.hid hR
  have hRn : R.1.length ≤ 1048576 := by
    rw [hR]; unfold Oc.allOf
    split
    · exact Oc.all_len14 os xs (by have := ha.1; omega)
    · exact Nat.zero_le _
  have hRl : R.2.1 ≤ os.length := by
    rw [hR]; unfold Oc.allOf
    split
    · rename_i h; exact (Oc.all_ok os xs h).2.1
    · exact Nat.zero_le _
  obtain ⟨N, hN⟩ : ∃ N, N = os.length := ⟨_, rfl⟩
  rw [← hN] at HO HCO hol hRl ⊢
  have HNN := Lib.hid hN
  clear ha ho hbl hco hpl hR hN
  go_wp2_with fail
  refine (implApplyAll_any A _ n cp N co xs os w1 HN.out HO.out (by omega) (by omega) hcp HP.out).mono ?_
  rw [← HR.out]
  rintro e w2 ⟨A2, c2, rfl, ho2, hb⟩
  have HN := Lib.hid (HN.out.to_below hb)
  have HO := Lib.hid (HO.out.to_below hb)
  have HW := Lib.hid (HW.out.trans (hb.mono HW.out.size))
  have HX := Lib.hid (NdIn.of_own ho2)
  clear hb ho2
  go_wp2_with fail
  refine (specApplyAll_any A _ n cp N co xs os w2 HN.out HO.out (by omega) (by omega) HP.out).mono ?_
  rw [← HR.out]
  rintro e w3 ⟨A3, c3, rfl, ho3, hb⟩
  have HN := Lib.hid (HN.out.to_below hb)
  have HO := Lib.hid (HO.out.to_below hb)
  have HX := Lib.hid (HX.out.to_below hb)
  have HW := Lib.hid (HW.out.trans (hb.mono HW.out.size))
  have HY := Lib.hid (NdIn.of_own ho3)
  clear hb ho3
  have q1 : ((R.2.1 : Int) != (R.2.1 : Int)) = false := by simp
  have q2 : (R.2.2 != R.2.2) = false := by simp
  go_wp2_with fail
  refine (specSameTree_any A2 A3 R.1.length c2 R.1.length c3 R.1 R.1 w3 HX.out hRn HY.out hRn).mono ?_
  rintro e w4 ⟨rfl, hd⟩
  have hb := hd.toBelow (B := w3.heap.size)
  have HN := Lib.hid (HN.out.to_below hb)
  have HO := Lib.hid (HO.out.to_below hb)
  have HX := Lib.hid (HX.out.to_below hb)
  have HW := Lib.hid (HW.out.trans (hb.mono HW.out.size))
  clear hb hd q1 q2 HY
  have q3 : decide (R.1 = R.1) = true := decide_eq_true rfl
  rw [q3]
  clear q3
  go_wp2_with fail
  refine (specTreeOk_any A n cp xs w4 HN.out (by omega)).mono ?_
  rintro e w5 ⟨rfl, hd⟩
  have hb := hd.toBelow (B := w4.heap.size)
  have HN := Lib.hid (HN.out.to_below hb)
  have HO := Lib.hid (HO.out.to_below hb)
  have HX := Lib.hid (HX.out.to_below hb)
  have HW := Lib.hid (HW.out.trans (hb.mono HW.out.size))
  clear hb hd
  cases hok : Tr.ok xs with
  | false =>
    have HZ := Lib.hid (show R = ([], 0, 2) by rw [HR.out]; unfold Oc.allOf; rw [hok]; rfl)
    have z1 : ((R.1.length : Int) == 0) = true := by rw [HZ.out]; rfl
    have z2 : ((R.2.1 : Int) == 0) = true := by rw [HZ.out]; rfl
    clear hok
    go_wp2
    go_ret
    exact ⟨rfl, HW.out⟩
  | true =>
    have hRe : R = Oc.all xs os := by rw [HR.out]; unfold Oc.allOf; rw [hok]; rfl
    have hfac := Oc.all_ok os xs hok
    rw [← hRe, ← HNN.out] at hfac
    have HE := Lib.hid hRe
    have HOK := Lib.hid hok
    have HFac := Lib.hid hfac
    clear hok hRe hfac
    go_wp2_with fail
    refine (cutAt_any k R.2.1 (by omega) w5 (codeIn_on13 HC.out HW.out HW.out.size) hlen).mono ?_
    rintro e w6 ⟨⟨q, hq, rfl⟩, hb⟩
    have HN := Lib.hid (HN.out.to_below hb)
    have HO := Lib.hid (HO.out.to_below hb)
    have HX := Lib.hid (HX.out.to_below hb)
    have HW := Lib.hid (HW.out.trans (hb.mono HW.out.size))
    have hparts := Oc.all_parts os xs q HOK.out (by rw [← HE.out]; exact hq)
    rw [← HE.out] at hparts
    obtain ⟨Z, hZ⟩ : ∃ Z, Z = Oc.all xs (os.take q) := ⟨_, rfl⟩
    rw [← hZ] at hparts
    have hzok : Tr.ok Z.1 = true := by rw [hZ]; exact (Oc.all_ok (os.take q) xs HOK.out).1
    have HZA := Lib.hid (show Oc.allOf xs (os.take q) = Z by unfold Oc.allOf; rw [HOK.out, hZ]; rfl)
    have HZB := Lib.hid (show Oc.allOf Z.1 (os.drop q) = (R.1, R.2.1 - q, R.2.2) by unfold Oc.allOf; rw [hzok]; exact hparts.2)
    have hz2 : Z.2.1 = q ∧ Z.2.2 = 0 := by rw [hparts.1]; exact ⟨rfl, rfl⟩
    have hzl : Z.1.length ≤ 1048576 := by have := Tr.len24 hzok; omega
    have HQ1 := Lib.hid (HO.out.take (k := q) (by omega))
    have HQ2 := Lib.hid (HO.out.drop (k := q) (by omega))
    have q0 : (0 : Int) ≤ (q : Int) := by omega
    have q1 : (q : Int) ≤ (co : Int) := by have := HCO.out; omega
    have q2 : (q : Int) ≤ (N : Int) := by omega
    have HQN := Lib.hid (show q ≤ N by omega)
    have HTP := Lib.hid (fun i => show ((os.take q).getD i Opr.z).p.length ≤ 1048576 from by
      by_cases c : i < q
      · rw [show (os.take q).getD i Opr.z = os.getD i Opr.z by simp [List.getD_eq_getElem?_getD, c]]; exact HP.out i
      · rw [show (os.take q).getD i Opr.z = Opr.z by rw [List.getD_eq_getElem?_getD, List.getElem?_eq_none (by simp; omega)]; rfl]; exact Nat.zero_le _)
    have HDP := Lib.hid (fun i => show ((os.drop q).getD i Opr.z).p.length ≤ 1048576 from by
      rw [show (os.drop q).getD i Opr.z = os.getD (q + i) Opr.z by simp [List.getD_eq_getElem?_getD]]; exact HP.out _)
    have ea : (⟨go, 0, none⟩ : Addr).add (q * 5) = ⟨go, q * 5, none⟩ := by simp only [Addr.add]; split <;> simp_all
    rw [ea] at HQ2
    clear hb hparts hZ hzok ea
    go_wp2_with fail
    refine (implApplyAll_any A _ n cp q _ xs (os.take q) w6 HN.out HQ1.out (by omega) (by omega) hcp HTP.out).mono ?_
    rw [HZA.out]
    rintro e w7 ⟨A7, c7, rfl, ho7, hb⟩
    have HX := Lib.hid (HX.out.to_below hb)
    have HW := Lib.hid (HW.out.trans (hb.mono HW.out.size))
    have HQ2 := Lib.hid (HQ2.out.to_below hb)
    have HZN := Lib.hid (NdIn.of_own ho7)
    have hc7 := own_cap ho7
    rw [hz2.1, hz2.2]
    clear hb ho7 hz2
    go_wp2_with fail
    · have HQ2 := Lib.hid (show OpsIn w7 w7.heap.size (some ⟨go, 0, none⟩) (N - q) (os.drop q) from ⟨by rw [List.length_drop, ← HNN.out], fun h => absurd h (by have := HCO.out; omega), fun ad e i hi => absurd hi (by have := HCO.out; omega)⟩)
      refine (implApplyAll_any A7 _ Z.1.length c7 (N - q) _ Z.1 (os.drop q) w7 HZN.out HQ2.out hzl (by omega) hc7 HDP.out).mono ?_
      rw [HZB.out]
      rintro e w8 ⟨A8, c8, rfl, ho8, hb⟩
      have HX := Lib.hid (HX.out.to_below hb)
      have HW := Lib.hid (HW.out.trans (hb.mono HW.out.size))
      have HU := Lib.hid (NdIn.of_own ho8)
      clear hb ho8
      dsimp only
      have a1 : IntKind.i64.wrap ((R.2.1 : Int) - (q : Int)) = ((R.2.1 - q : Nat) : Int) := by rw [Kit.w64 (by omega) (by omega)]; omega
      have q3 : (((R.2.1 - q : Nat) : Int) == ((R.2.1 - q : Nat) : Int)) = true := by simp
      have q4 : (R.2.2 == R.2.2) = true := by simp
      go_wp2_with fail
      refine (specSameTree_any A8 A2 R.1.length c8 R.1.length c2 R.1 R.1 w8 HU.out hRn HX.out hRn).mono ?_
      rintro e w9 ⟨rfl, hd⟩
      have hb := hd.toBelow (B := w8.heap.size)
      have HX := Lib.hid (HX.out.to_below hb)
      have HW := Lib.hid (HW.out.trans (hb.mono HW.out.size))
      have q5 : decide (R.1 = R.1) = true := decide_eq_true rfl
      rw [q5]
      obtain ⟨f1, f2, f3, f4, f5⟩ := HFac.out
      have HOR := Lib.hid f1
      clear hb hd q5 f1
      by_cases hz : R.2.2 = 0
      · have q6 : ((R.2.1 : Int) == (N : Int)) = true := by have := f3.2 hz; simp [this]
        have q7 : (R.2.2 == 0) = true := by simp [hz]
        clear hz f2 f3 f4 f5
        go_wp2_with fail
        refine (specTreeOk_any A2 R.1.length c2 R.1 w9 HX.out hRn).mono ?_
        rintro e w10 ⟨rfl, hd⟩
        have HW := Lib.hid (HW.out.trans ((hd.toBelow (B := w9.heap.size)).mono HW.out.size))
        rw [HOR.out]
        clear hd
        go_wp2
        go_ret
        exact ⟨rfl, HW.out⟩
      · have q6 : ((R.2.1 : Int) == (N : Int)) = false := by
          simp only [beq_eq_false_iff_ne]
          exact fun e => hz (f3.1 (by omega))
        have q7 : (R.2.2 == 0) = false := by simp [hz]
        clear hz f2 f3 f4 f5
        go_wp2_with fail
        refine (specTreeOk_any A2 R.1.length c2 R.1 w9 HX.out hRn).mono ?_
        rintro e w10 ⟨rfl, hd⟩
        have HW := Lib.hid (HW.out.trans ((hd.toBelow (B := w9.heap.size)).mono HW.out.size))
        rw [HOR.out]
        clear hd
        go_wp2
        go_ret
        exact ⟨rfl, HW.out⟩
    · skip
      refine (implApplyAll_any A7 _ Z.1.length c7 (N - q) _ Z.1 (os.drop q) w7 HZN.out HQ2.out hzl (by omega) hc7 HDP.out).mono ?_
      rw [HZB.out]
      rintro e w8 ⟨A8, c8, rfl, ho8, hb⟩
      have HX := Lib.hid (HX.out.to_below hb)
      have HW := Lib.hid (HW.out.trans (hb.mono HW.out.size))
      have HU := Lib.hid (NdIn.of_own ho8)
      clear hb ho8
      dsimp only
      have a1 : IntKind.i64.wrap ((R.2.1 : Int) - (q : Int)) = ((R.2.1 - q : Nat) : Int) := by rw [Kit.w64 (by omega) (by omega)]; omega
      have q3 : (((R.2.1 - q : Nat) : Int) == ((R.2.1 - q : Nat) : Int)) = true := by simp
      have q4 : (R.2.2 == R.2.2) = true := by simp
      go_wp2_with fail
      refine (specSameTree_any A8 A2 R.1.length c8 R.1.length c2 R.1 R.1 w8 HU.out hRn HX.out hRn).mono ?_
      rintro e w9 ⟨rfl, hd⟩
      have hb := hd.toBelow (B := w8.heap.size)
      have HX := Lib.hid (HX.out.to_below hb)
      have HW := Lib.hid (HW.out.trans (hb.mono HW.out.size))
      have q5 : decide (R.1 = R.1) = true := decide_eq_true rfl
      rw [q5]
      obtain ⟨f1, f2, f3, f4, f5⟩ := HFac.out
      have HOR := Lib.hid f1
      clear hb hd q5 f1
      by_cases hz : R.2.2 = 0
      · have q6 : ((R.2.1 : Int) == (N : Int)) = true := by have := f3.2 hz; simp [this]
        have q7 : (R.2.2 == 0) = true := by simp [hz]
        clear hz f2 f3 f4 f5
        go_wp2_with fail
        refine (specTreeOk_any A2 R.1.length c2 R.1 w9 HX.out hRn).mono ?_
        rintro e w10 ⟨rfl, hd⟩
        have HW := Lib.hid (HW.out.trans ((hd.toBelow (B := w9.heap.size)).mono HW.out.size))
        rw [HOR.out]
        clear hd
        go_wp2
        go_ret
        exact ⟨rfl, HW.out⟩
      · have q6 : ((R.2.1 : Int) == (N : Int)) = false := by
          simp only [beq_eq_false_iff_ne]
          exact fun e => hz (f3.1 (by omega))
        have q7 : (R.2.2 == 0) = false := by simp [hz]
        clear hz f2 f3 f4 f5
        go_wp2_with fail
        refine (specTreeOk_any A2 R.1.length c2 R.1 w9 HX.out hRn).mono ?_
        rintro e w10 ⟨rfl, hd⟩
        have HW := Lib.hid (HW.out.trans ((hd.toBelow (B := w9.heap.size)).mono HW.out.size))
        rw [HOR.out]
        clear hd
        go_wp2
        go_ret
        exact ⟨rfl, HW.out⟩


end Go.Proofs.Ytgkkeejhfofcaaa

/- Contracts (ExApd). -/
namespace Go.Proofs.Ytgkkeejhfofcaaa
open Go.RowKit
set_option linter.unusedVariables false

set_option maxHeartbeats 400000 in
theorem fnApplied_walk (a : Option Addr) (n cap : Nat) (zs : List Int) (w : World) (hz : Kit.BytesIn w a n cap zs) :
    Calls Try.prog 5 #[.slice a n cap] w fun e w' => e = .returned (.bool true) ∧ Below w.heap.size w w' := by
  by_cases hb : (1048576 : Int) < n
  · clear hz
    go_enter Try.func5, Try.ntmps5
    go_wp2_with fail
    refine (big_big _ _ _ hb _).mono ?_
    rintro e w0 ⟨rfl, rfl⟩
    go_wp2
    go_ret
    exact ⟨rfl, Below.refl _ _⟩
  · obtain ⟨hl, hcode⟩ := code_of hz
    have h := applied_any ⟨a, zs.take n, cap⟩ w hcode (by simp only; omega)
    simp only [hl] at h
    exact h

end Go.Proofs.Ytgkkeejhfofcaaa
