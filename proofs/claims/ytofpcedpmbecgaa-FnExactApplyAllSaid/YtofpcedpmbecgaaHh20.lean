/- Texts of one claim laid into one file, in build order: AllI13, OcF. -/
import Derived.Test.YtofpcedpmbecgaaHh14
import Derived.Test.YtofpcedpmbecgaaHh19
import Derived.OwnWalk
/- Contracts (AllI13). -/
namespace Go.Proofs.Ytofpcedpmbecgaa
open Go.RowKit
set_option linter.unusedVariables false

set_option maxHeartbeats 3200000 in
set_option maxRecDepth 100000 in
theorem implApplyAll_any (A B : Option Addr) (n c n' c' : Nat) (xs : Tr) (os : List Opr) (w : World) (h : NdIn w w.heap.size A n xs) (h' : OpsIn w w.heap.size B n' os) (hn : n ≤ 1048576) (hn' : n' ≤ 1048576) (hnc : n ≤ c) (hp : ∀ i, (os.getD i Opr.z).p.length ≤ 1048576) :
    Calls Try.prog 28 #[.slice A n c, .slice B n' c'] w (OwnNd3 40 (Oc.allOf xs os) w) := by
  have H := Lib.hid h
  have O := Lib.hid h'
  clear h h'
  have HL := Lib.hid H.out.1
  have OL := Lib.hid O.out.1
  have HP := Lib.hid hp
  clear hp
  rcases hok : Tr.ok xs with _ | _
  · have HR := Lib.hid (show Oc.allOf xs os = ([], 0, 2) by unfold Oc.allOf; rw [hok]; rfl)
    have Hok := Lib.hid hok
    clear hok
    go_enter Try.func28, Try.ntmps28
    go_wp2_with fail
    refine (implTreeOk_any _ _ _ xs _ H.out hn hnc).mono ?_
    rintro e w1 ⟨rfl, hb1⟩
    have HB1 := Lib.hid (show Below w.heap.size w w1 from hb1)
    have hs1 := HB1.out.size
    clear hb1
    rw [Hok.out]
    go_wp2
    go_ret3
    exact ⟨none, 0, by rw [HR.out]; rfl, by rw [HR.out]; exact own_nil, HB1.out⟩
  have HR := Lib.hid (show Oc.allOf xs os = Oc.from_ xs os 0 by unfold Oc.allOf; rw [if_pos hok, Oc.from_zero])
  have n24 := Tr.len24 hok
  rw [HL.out] at n24
  obtain ⟨ad, rfl, _⟩ := H.out.2.1 (by omega)
  have HOK := Lib.hid hok
  have HFS := Lib.hid (fun (X : Tr) (i : Nat) (hi : i < os.length) => Oc.from_step X os hi)
  have HFE := Lib.hid (fun (X : Tr) => Oc.from_end X os)
  clear hok
  go_enter Try.func28, Try.ntmps28
  go_wp2_with fail
  refine (implTreeOk_any _ _ _ xs _ H.out hn hnc).mono ?_
  rintro e w1 ⟨rfl, hb1⟩
  have HB1 := Lib.hid (show Below w.heap.size w w1 from hb1)
  have hs1 := HB1.out.size
  have H1 := Lib.hid (H.out.to_below HB1.out)
  clear hb1
  rw [HOK.out]
  go_wp2_with fail
  refine (cloneNode_any _ _ _ xs _ H1.out hn).mono ?_
  rintro e w2 ⟨A2, c2, rfl, ho2, hb2⟩
  have HB2 := Lib.hid (HB1.out.trans (hb2.mono hs1))
  have HO2 := Lib.hid (own_base ho2 hs1)
  clear hb2 ho2
  go_wp2
  go_loopw [7, 18] (fun ov iv wr => ∃ (i : Nat) (X : Tr) (A7 : Option Addr) (c7 : Nat), i ≤ n' ∧ iv = .int .i64 i ∧ ov = .slice A7 X.length c7 ∧ wr.ownsRow w.heap.size 40 2 (.slice A7 X.length c7) X.length (Tr.cells X) ∧ Tr.ok X = true ∧ Oc.from_ xs os 0 = Oc.from_ X os i ∧ Below w.heap.size w wr) (fun _ i _ => n' - (intOf i).toNat)
  case atStart => exact ⟨0, xs, A2, c2, by omega, by go_num, rfl, HO2.out, HOK.out, rfl, HB2.out⟩
  case round =>
    obtain ⟨i, X, A7, c7, hi, rfl, rfl, hown, hokX, hfrom, hB⟩ := hrel
    have HO7 := Lib.hid hown
    have hc7 := own_cap hown
    have HB := Lib.hid hB
    have HFR := Lib.hid hfrom
    have hX24 := Tr.len24 hokX
    have HKX := Lib.hid hokX
    have HN := Lib.hid (NdIn.of_own hown)
    clear hown hB hfrom hokX
    by_cases hlt : i < n'
    · obtain ⟨ad2, P, q, rfl, y0, y1, y2, y3, y4, hI⟩ := (O.out.to_below HB.out).at_ hlt
      have HI := Lib.hid hI
      have HPL := Lib.hid (HP.out i)
      have HST := Lib.hid (HFS.out X i (by rw [OL.out]; exact hlt))
      obtain ⟨o, ho⟩ : ∃ o, o = os.getD i Opr.z := ⟨_, rfl⟩
      rw [← ho] at y0 y1 y2 y3 y4 HI HPL HST
      obtain ⟨K, p, Ka, Kf, Kz⟩ := o
      dsimp only at y0 y1 y2 y3 y4 HI HPL
      clear ho hI
      have b0 : (0 : Int) ≤ (i : Int) := by omega
      have b1 : (i : Int) < (n' : Int) := by omega
      obtain ⟨R, hR⟩ : ∃ R, R = Oc.apply X ⟨K, p, Ka, Kf, Kz⟩ := ⟨_, rfl⟩
      obtain ⟨wa, hwa⟩ : ∃ x, x = wr.alloc (.cells #[.int .i64 K, .slice P p.length q, .int .i64 Ka, .int .i64 Kf, .int .i64 Kz] 33) := ⟨_, rfl⟩
      have hba : Below wr.heap.size wr wa := by rw [hwa]; exact (Below.refl _ _).alloc (Nat.le_refl _) _
      have HO7 := Lib.hid (own_below HO7.out hba)
      have HN := Lib.hid (HN.out.to_below hba)
      have HI := Lib.hid (HI.out.to_below hba)
      have HB := Lib.hid (HB.out.trans (hba.mono HB.out.size))
      have HWA := Lib.hid hwa
      clear hba hwa
      have CC := Lib.hid (show Calls Try.prog 22 #[.slice A7 X.length c7, .agg #[.int .i64 K, .slice P p.length q, .int .i64 Ka, .int .i64 Kf, .int .i64 Kz]] wa (OwnNdC 40 R wa) from by rw [hR]; exact implApplyOp_any A7 X.length c7 X K Ka Kf Kz p P p.length q _ HN.out HI.out (by omega) HPL.out hc7)
      go_wp2_with fail
      rw [← HWA.out]
      refine CC.out.mono ?_
      rintro e w4 ⟨A4, c4, rfl, ho4, hb4⟩
      have HB4 := Lib.hid (HB.out.trans (hb4.mono HB.out.size))
      have HO4 := Lib.hid (own_base ho4 HB.out.size)
      have HO7 := Lib.hid (own_below HO7.out hb4)
      clear ho4 hb4 y0 y1 y2 y3 y4
      by_cases hc : R.2 = 0
      · have q0 : (R.2 == 0) = true := by simpa using hc
        have q2 : (R.2 != 0) = false := by simpa using hc
        have HOX := Lib.hid (show Tr.ok R.1 = true by rw [hR] at hc ⊢; exact Oc.apply_ok HKX.out hc)
        have HST2 := Lib.hid (show Oc.from_ xs os 0 = Oc.from_ R.1 os (i + 1) by rw [HFR.out, HST.out, ← hR, if_pos hc])
        clear hR hc
        go_wp2
        go_roundw
        case rel => exact ⟨i + 1, R.1, A4, c4, by omega, by go_num, rfl, HO4.out, HOX.out, HST2.out, HB4.out⟩
        case measure => simp [intOf]; omega
      · have q0 : (R.2 == 0) = false := by simpa using hc
        have q1 : ¬ R.2 = 0 := hc
        have q2 : (R.2 != 0) = true := by simpa using hc
        have HKP := Lib.hid (show R.1 = X by rw [hR] at hc ⊢; exact Oc.apply_keep HKX.out hc)
        have HST2 := Lib.hid (show Oc.allOf xs os = (X, i, R.2) by rw [HR.out, HFR.out, HST.out, ← hR, if_neg hc])
        clear hR hc
        go_wp2
        go_ret3
        exact ⟨A4, c4, by rw [HST2.out, ← HKP.out]; rfl, by rw [HST2.out, ← HKP.out]; exact HO4.out, HB4.out⟩
    · obtain rfl : i = n' := by omega
      have HST2 := Lib.hid (show Oc.allOf xs os = (X, i, 0) by rw [HR.out, HFR.out]; have := HFE.out X; rw [OL.out] at this; exact this)
      go_wp2
      go_ret3
      exact ⟨A7, c7, by rw [HST2.out]; rfl, by rw [HST2.out]; exact HO7.out, HB.out⟩

end Go.Proofs.Ytofpcedpmbecgaa

/- Contracts (OcF). -/
namespace Go.Proofs.Ytofpcedpmbecgaa
open Go.RowKit
set_option linter.unusedVariables false

/-- from which node an insertion adopts, and up to which; 0 where nothing is put in -/
def Oc.fromN (xs : Tr) (o : Opr) (x : Int) : Int := if Oc.code xs o x = 0 ∧ o.k = 3 then ((Tr.cut xs x.toNat o.f.toNat : Nat) : Int) else 0
def Oc.toN (xs : Tr) (o : Opr) (x : Int) : Int := if Oc.code xs o x = 0 ∧ o.k = 3 then ((Tr.cut xs x.toNat (o.f.toNat + o.c.toNat) : Nat) : Int) else 0
theorem Oc.ft_code {xs : Tr} {o : Opr} {x : Int} (h : Oc.code xs o x ≠ 0) : Oc.fromN xs o x = 0 ∧ Oc.toN xs o x = 0 := by unfold Oc.fromN Oc.toN; rw [if_neg (fun e => h e.1), if_neg (fun e => h e.1)]; exact ⟨rfl, rfl⟩
theorem Oc.ft_kind {xs : Tr} {o : Opr} {x : Int} (h : o.k ≠ 3) : Oc.fromN xs o x = 0 ∧ Oc.toN xs o x = 0 := by unfold Oc.fromN Oc.toN; rw [if_neg (fun e => h e.2), if_neg (fun e => h e.2)]; exact ⟨rfl, rfl⟩
theorem Oc.ft_ins {xs : Tr} {o : Opr} {i : Nat} (h : Oc.code xs o (i : Int) = 0) (h3 : o.k = 3) : Oc.fromN xs o (i : Int) = ((Tr.cut xs i o.f.toNat : Nat) : Int) ∧ Oc.toN xs o (i : Int) = ((Tr.cut xs i (o.f.toNat + o.c.toNat) : Nat) : Int) := by unfold Oc.fromN Oc.toN; rw [if_pos ⟨h, h3⟩, if_pos ⟨h, h3⟩, Int.toNat_natCast]; exact ⟨rfl, rfl⟩

end Go.Proofs.Ytofpcedpmbecgaa
