/- Texts of one claim laid into one file, in build order: ExApplyAll, NdOpen, CoOpen, OpOpen. -/
import Derived.Test.YtofpcedpmbecgaaHh1
import Derived.Test.YtofpcedpmbecgaaHh2
import Derived.Test.YtofpcedpmbecgaaHh20
import Derived.Test.YtofpcedpmbecgaaHh24
import Derived.Test.YtofpcedpmbecgaaHh25
import Derived.Test.YtofpcedpmbecgaaHh26
import Derived.Test.YtofpcedpmbecgaaHh3
import Derived.Test.YtofpcedpmbecgaaHh5
import Derived.ChangeArms
import Derived.ChangeSlices
import Derived.Deep.SlicePairs
import Derived.Lib.SmallJoins
import Derived.WideShapes
/- Contracts (ExApplyAll). -/
namespace Go.Proofs.Ytofpcedpmbecgaa
open Go.RowKit
set_option linter.unusedVariables false

theorem Oc.all_len : ∀ (os : List Opr) (xs : Tr), xs.length ≤ 1048576 → (Oc.all xs os).1.length ≤ 1048576
  | [], xs, h => h
  | o :: os, xs, h => by
    rw [Oc.all]
    split
    · exact Oc.all_len os _ (Nat.le_trans (Oc.apply_len _ _) (by decide))
    · exact h
theorem Oc.allOf_len (xs : Tr) (os : List Opr) (h : xs.length ≤ 1048576) : (Oc.allOf xs os).1.length ≤ 1048576 := by
  unfold Oc.allOf
  split
  · exact Oc.all_len os xs h
  · exact Nat.zero_le _
set_option maxHeartbeats 3200000 in
set_option maxRecDepth 100000 in
theorem exactApplyAll_walk (A0 : Option Addr) (n0 c0 : Nat) (x0 : Tr) (A1 : Option Addr) (n1 c1 : Nat) (os : List Opr) (le0 : n0 ≤ maxLen) (_wf0 : Tr.wf x0) (le1 : n1 ≤ maxLen) (lp : ∀ i, (os.getD i Opr.z).p.length ≤ maxLen) (w : World) (h0 : NdIn w w.heap.size A0 n0 x0) (h1 : OpsIn w w.heap.size A1 n1 os) :
    Calls Try.prog 10 #[.slice A0 n0 c0, .slice A1 n1 c1] w fun e w' => e = .returned (.bool true) ∧ Below w.heap.size w w' := by
  have Ia0 := Lib.hid h0
  have Ia1 := Lib.hid h1
  clear h0 h1
  unfold maxLen at le0 le1 lp
  by_cases hs0 : n0 ≤ 1048576
  rotate_left
  · go_enter Try.func10, Try.ntmps10
    go_wp2_with fail
    refine (szNodeS_any _ _ _ _ _ le0 (by omega) (by omega)).mono ?_
    rintro e w' ⟨rfl, rfl⟩
    rw [if_neg (by omega)]
    go_wp2
    go_ret
    exact ⟨rfl, Below.refl _ _⟩
  by_cases hs1 : n0 + (n1 + Os.tot os n1) ≤ 1048576
  rotate_left
  · go_enter Try.func10, Try.ntmps10
    go_wp2_with fail
    refine (szNodeS_any _ _ _ _ _ le0 (by omega) (by omega)).mono ?_
    rintro e w' ⟨rfl, rfl⟩
    rw [if_pos (by omega)]
    go_wp2_with fail
    refine (szOpS_any _ _ _ os _ _ Ia1.out le1 lp (by omega) (by omega)).mono ?_
    rintro e w' ⟨rfl, hb⟩
    rw [if_neg (by omega)]
    have HB2 := Lib.hid hb
    clear hb
    go_wp2
    go_ret
    exact ⟨rfl, HB2.out⟩
  have hn0 : n0 ≤ 1048576 := by omega
  have hm : n1 ≤ 1048576 := by omega
  have hp := Os.path_le (N := 1048576) Ia1.out.1 (by omega)
  obtain ⟨R, hR⟩ : ∃ R, R = Oc.allOf x0 os := ⟨_, rfl⟩
  have HN : R.1.length ≤ 1048576 := by rw [hR]; exact Oc.allOf_len x0 os (by have := Ia0.out.1; omega)
  have CS := Lib.hid (fun (wq : World) (A B : Option Addr) (cA cB : Nat) (hN : NdIn wq wq.heap.size A n0 x0) (hI : OpsIn wq wq.heap.size B n1 os) => show Calls Try.prog 29 #[.slice A n0 cA, .slice B n1 cB] wq (OwnNd3 40 R wq) from by rw [hR]; exact specApplyAll_any A B n0 cA n1 cB x0 os wq hN hI hn0 hm hp)
  have CI := Lib.hid (fun (wq : World) (A B : Option Addr) (cA cB : Nat) (hN : NdIn wq wq.heap.size A n0 x0) (hI : OpsIn wq wq.heap.size B n1 os) => show n0 ≤ cA → Calls Try.prog 28 #[.slice A n0 cA, .slice B n1 cB] wq (OwnNd3 40 R wq) from by rw [hR]; exact fun hc => implApplyAll_any A B n0 cA n1 cB x0 os wq hN hI hn0 hm hc hp)
  clear hR
  go_enter Try.func10, Try.ntmps10
  go_wp2_with fail
  refine (szNodeS_any _ _ _ _ _ le0 (by omega) (by omega)).mono ?_
  rintro e w' ⟨rfl, rfl⟩
  rw [if_pos (by omega)]
  go_wp2_with fail
  refine (szOpS_any _ _ _ os _ _ Ia1.out le1 lp (by omega) (by omega)).mono ?_
  rintro e wy ⟨rfl, hb⟩
  rw [if_pos (by omega)]
  have La0 := Lib.hid hb
  have La1 := Lib.hid hb
  have LW := Lib.hid hb
  clear hb
  go_wp2_with fail
  refine (toNodeS_any _ _ _ x0 _ (NdIn.to_below Ia0.out La0.out) hn0).mono ?_
  rintro e w1 ⟨rfl, ho, hb⟩
  have La0 := Lib.hid (La0.out.trans (hb.mono La0.out.size))
  have La1 := Lib.hid (La1.out.trans (hb.mono La1.out.size))
  have LW := Lib.hid (LW.out.trans (hb.mono LW.out.size))
  clear hb
  have Is0 := Lib.hid (NdIn.of_own ho)
  have Ls0 := Lib.hid (Below.refl (World.heap w1).size w1)
  clear ho
  go_wp2_with fail
  refine (toOpS_any _ _ _ os w1 (OpsIn.to_below Ia1.out La1.out) hm hp).mono ?_
  rintro e w2 ⟨Gs1, rfl, ho, hb⟩
  have La0 := Lib.hid (La0.out.trans (hb.mono La0.out.size))
  have La1 := Lib.hid (La1.out.trans (hb.mono La1.out.size))
  have Ls0 := Lib.hid (Ls0.out.trans (hb.mono Ls0.out.size))
  have LW := Lib.hid (LW.out.trans (hb.mono LW.out.size))
  clear hb
  have Is1 := Lib.hid (OpsIn.of_own ho)
  have Ls1 := Lib.hid (Below.refl (World.heap w2).size w2)
  clear ho
  go_wp2_with fail
  refine (CS.out _ _ _ _ _ (NdIn.to_below Is0.out Ls0.out) (OpsIn.to_below Is1.out Ls1.out)).mono ?_
  rintro e w3 ⟨Aw0, cw0, rfl, ho, hb⟩
  have La0 := Lib.hid (La0.out.trans (hb.mono La0.out.size))
  have La1 := Lib.hid (La1.out.trans (hb.mono La1.out.size))
  have Ls0 := Lib.hid (Ls0.out.trans (hb.mono Ls0.out.size))
  have Ls1 := Lib.hid (Ls1.out.trans (hb.mono Ls1.out.size))
  have LW := Lib.hid (LW.out.trans (hb.mono LW.out.size))
  clear hb
  have Iw0 := Lib.hid (NdIn.of_own ho)
  have Lw0 := Lib.hid (Below.refl (World.heap w3).size w3)
  clear ho
  have Ma0_x0 := La0.out.size
  have Ma1_x0 := La1.out.size
  have Mw0_x0 := Lw0.out.size
  have MW_x0 := LW.out.size
  go_wp2_with fail
  refine (toNodeS_any _ _ _ x0 _ (NdIn.to_below Ia0.out La0.out) hn0).mono ?_
  rintro e w4 ⟨rfl, ho, hb⟩
  have La0 := Lib.hid (La0.out.trans (hb.mono La0.out.size))
  have La1 := Lib.hid (La1.out.trans (hb.mono La1.out.size))
  have Lw0 := Lib.hid (Lw0.out.trans (hb.mono Lw0.out.size))
  have LW := Lib.hid (LW.out.trans (hb.mono LW.out.size))
  clear hb
  have Ox0 := Lib.hid ho
  clear ho
  have Ma0_x1 := La0.out.size
  have Ma1_x1 := La1.out.size
  have Mw0_x1 := Lw0.out.size
  have MW_x1 := LW.out.size
  have Mx0_x1 := fun k hk => (Ox0.out.lt k hk).2
  go_wp2_with fail
  refine (toOpS_any _ _ _ os w4 (OpsIn.to_below Ia1.out La1.out) hm hp).mono ?_
  rintro e w5 ⟨Gx1, rfl, ho, hb⟩
  have La0 := Lib.hid (La0.out.trans (hb.mono La0.out.size))
  have La1 := Lib.hid (La1.out.trans (hb.mono La1.out.size))
  have Lw0 := Lib.hid (Lw0.out.trans (hb.mono Lw0.out.size))
  have Ox0 := Lib.hid (own_below Ox0.out hb)
  have LW := Lib.hid (LW.out.trans (hb.mono LW.out.size))
  clear hb
  have Ox1 := Lib.hid ho
  clear ho
  have Ma0_g0 := La0.out.size
  have Ma1_g0 := La1.out.size
  have Mw0_g0 := Lw0.out.size
  have MW_g0 := LW.out.size
  have Mx0_g0 := fun k hk => (Ox0.out.lt k hk).2
  have Mx1_g0 := Ox1.out.lt
  go_wp2_with fail
  refine (CI.out _ _ _ _ _ (NdIn.of_own Ox0.out) (OpsIn.of_own Ox1.out) (Nat.le_refl _)).mono ?_
  rintro e w6 ⟨Ag0, cg0, rfl, ho, hb⟩
  have La0 := Lib.hid (La0.out.trans (hb.mono La0.out.size))
  have La1 := Lib.hid (La1.out.trans (hb.mono La1.out.size))
  have Lw0 := Lib.hid (Lw0.out.trans (hb.mono Lw0.out.size))
  have Ox0 := Lib.hid (own_below Ox0.out hb)
  have Ox1 := Lib.hid (Ox1.out.below hb)
  have LW := Lib.hid (LW.out.trans (hb.mono LW.out.size))
  clear hb
  have Og0 := Lib.hid ho
  clear ho
  go_wp2_with fail
  refine (eqNodeS_any _ _ _ _ _ _ R.1 R.1 _ (NdIn.of_own Og0.out) (NdIn.to_below Iw0.out Lw0.out) HN HN).mono ?_
  rintro e w7 ⟨rfl, hb⟩
  have La0 := Lib.hid (La0.out.trans (hb.mono La0.out.size))
  have La1 := Lib.hid (La1.out.trans (hb.mono La1.out.size))
  have Lw0 := Lib.hid (Lw0.out.trans (hb.mono Lw0.out.size))
  have Ox0 := Lib.hid (own_below Ox0.out hb)
  have Ox1 := Lib.hid (Ox1.out.below hb)
  have Og0 := Lib.hid (own_below Og0.out hb)
  have LW := Lib.hid (LW.out.trans (hb.mono LW.out.size))
  clear hb
  go_wp2_with fail
  refine (toNodeS_any _ _ _ x0 _ (NdIn.to_below Ia0.out La0.out) hn0).mono ?_
  rintro e w8 ⟨rfl, ho, hb⟩
  have La0 := Lib.hid (La0.out.trans (hb.mono La0.out.size))
  have La1 := Lib.hid (La1.out.trans (hb.mono La1.out.size))
  have Lw0 := Lib.hid (Lw0.out.trans (hb.mono Lw0.out.size))
  have Ox0 := Lib.hid (own_below Ox0.out hb)
  have Ox1 := Lib.hid (Ox1.out.below hb)
  have Og0 := Lib.hid (own_below Og0.out hb)
  have LW := Lib.hid (LW.out.trans (hb.mono LW.out.size))
  clear hb
  have Iy0 := Lib.hid (NdIn.of_own ho)
  have Ly0 := Lib.hid (Below.refl (World.heap w8).size w8)
  clear ho
  go_wp2_with fail
  refine (eqNodeS_any _ _ _ _ _ _ x0 x0 _ (NdIn.of_own Ox0.out) (NdIn.to_below Iy0.out Ly0.out) hn0 hn0).mono ?_
  rintro e w9 ⟨rfl, hb⟩
  have La0 := Lib.hid (La0.out.trans (hb.mono La0.out.size))
  have La1 := Lib.hid (La1.out.trans (hb.mono La1.out.size))
  have Lw0 := Lib.hid (Lw0.out.trans (hb.mono Lw0.out.size))
  have Ly0 := Lib.hid (Ly0.out.trans (hb.mono Ly0.out.size))
  have Ox0 := Lib.hid (own_below Ox0.out hb)
  have Ox1 := Lib.hid (Ox1.out.below hb)
  have Og0 := Lib.hid (own_below Og0.out hb)
  have LW := Lib.hid (LW.out.trans (hb.mono LW.out.size))
  clear hb
  go_wp2_with fail
  refine (toOpS_any _ _ _ os w9 (OpsIn.to_below Ia1.out La1.out) hm hp).mono ?_
  rintro e w10 ⟨Gy1, rfl, ho, hb⟩
  have La0 := Lib.hid (La0.out.trans (hb.mono La0.out.size))
  have La1 := Lib.hid (La1.out.trans (hb.mono La1.out.size))
  have Lw0 := Lib.hid (Lw0.out.trans (hb.mono Lw0.out.size))
  have Ox0 := Lib.hid (own_below Ox0.out hb)
  have Ox1 := Lib.hid (Ox1.out.below hb)
  have Og0 := Lib.hid (own_below Og0.out hb)
  have LW := Lib.hid (LW.out.trans (hb.mono LW.out.size))
  clear hb
  have Iy1 := Lib.hid (OpsIn.of_own ho)
  have Ly1 := Lib.hid (Below.refl (World.heap w10).size w10)
  clear ho
  go_wp2_with fail
  refine (eqOpS_any _ _ _ _ _ os _ (OpsIn.of_own Ox1.out) (OpsIn.to_below Iy1.out Ly1.out) hm hp).mono ?_
  rintro e w11 ⟨rfl, hb⟩
  have La0 := Lib.hid (La0.out.trans (hb.mono La0.out.size))
  have La1 := Lib.hid (La1.out.trans (hb.mono La1.out.size))
  have Lw0 := Lib.hid (Lw0.out.trans (hb.mono Lw0.out.size))
  have Ly1 := Lib.hid (Ly1.out.trans (hb.mono Ly1.out.size))
  have Ox0 := Lib.hid (own_below Ox0.out hb)
  have Ox1 := Lib.hid (Ox1.out.below hb)
  have Og0 := Lib.hid (own_below Og0.out hb)
  have LW := Lib.hid (LW.out.trans (hb.mono LW.out.size))
  clear hb
  go_wp2_with fail
  refine (markNodeS_any _ _ _ _ _ 1 (x0) _ Ox0.out hn0 (by omega) (by omega)).mono ?_
  rintro e w12 ⟨rfl, ho, hg⟩
  have La0 := Lib.hid (La0.out.grown hg La0.out.size (fun k hk => Nat.le_trans Ma0_x0 (Ox0.out.lt k hk).1))
  have La1 := Lib.hid (La1.out.grown hg La1.out.size (fun k hk => Nat.le_trans Ma1_x0 (Ox0.out.lt k hk).1))
  have Lw0 := Lib.hid (Lw0.out.grown hg Lw0.out.size (fun k hk => Nat.le_trans Mw0_x0 (Ox0.out.lt k hk).1))
  have LW := Lib.hid (LW.out.grown hg LW.out.size (fun k hk => Nat.le_trans MW_x0 (Ox0.out.lt k hk).1))
  have Ox1 := Lib.hid (Ox1.out.grown hg Mx0_x1)
  have Og0 := Lib.hid (own_grown Og0.out hg Mx0_g0)
  have Ox0 := Lib.hid ho
  clear ho hg
  go_wp2_with fail
  refine (markOpS_any _ n1 _ Gx1 (fun i => os.getD i Opr.z) (1 + 2 * (n0 : Int)) w12 Ox1.out.fn hm hp (by omega) (by rw [Om.at_tot]; omega) (Nat.le_of_lt (Nat.lt_of_le_of_lt (Ox1.out.1.lt _ rfl).1 (Ox1.out.1.lt _ rfl).2))).mono ?_
  rintro e w13 ⟨rfl, -, hk, hb⟩
  have La0 := Lib.hid (La0.out.trans (hb.mono Ma0_x1))
  have La1 := Lib.hid (La1.out.trans (hb.mono Ma1_x1))
  have Lw0 := Lib.hid (Lw0.out.trans (hb.mono Mw0_x1))
  have LW := Lib.hid (LW.out.trans (hb.mono MW_x1))
  have Og0 := Lib.hid (own_keep Og0.out hk Mx1_g0)
  clear hk hb
  go_wp2_with fail
  refine (eqNodeS_any _ _ _ _ _ _ R.1 R.1 _ (NdIn.of_own Og0.out) (NdIn.to_below Iw0.out Lw0.out) HN HN).mono ?_
  rintro e w14 ⟨rfl, hb⟩
  have La0 := Lib.hid (La0.out.trans (hb.mono La0.out.size))
  have La1 := Lib.hid (La1.out.trans (hb.mono La1.out.size))
  have Lw0 := Lib.hid (Lw0.out.trans (hb.mono Lw0.out.size))
  have Og0 := Lib.hid (own_below Og0.out hb)
  have LW := Lib.hid (LW.out.trans (hb.mono LW.out.size))
  clear hb
  go_wp2_with fail
  refine (markNodeS_any _ _ _ _ _ 1 (R.1) _ Og0.out HN (by omega) (by omega)).mono ?_
  rintro e w15 ⟨rfl, ho, hg⟩
  have La0 := Lib.hid (La0.out.grown hg La0.out.size (fun k hk => Nat.le_trans Ma0_g0 (Og0.out.lt k hk).1))
  have La1 := Lib.hid (La1.out.grown hg La1.out.size (fun k hk => Nat.le_trans Ma1_g0 (Og0.out.lt k hk).1))
  have Lw0 := Lib.hid (Lw0.out.grown hg Lw0.out.size (fun k hk => Nat.le_trans Mw0_g0 (Og0.out.lt k hk).1))
  have LW := Lib.hid (LW.out.grown hg LW.out.size (fun k hk => Nat.le_trans MW_g0 (Og0.out.lt k hk).1))
  have Og0 := Lib.hid ho
  clear ho hg
  go_wp2_with fail
  refine (heldNodeS_any _ _ _ _ _ 1 _ Og0.out HN (by omega) (by omega)).mono ?_
  rintro e w' ⟨rfl, rfl⟩
  go_wp2_with fail
  refine (toNodeS_any _ _ _ x0 _ (NdIn.to_below Ia0.out La0.out) hn0).mono ?_
  rintro e w16 ⟨rfl, ho, hb⟩
  have La0 := Lib.hid (La0.out.trans (hb.mono La0.out.size))
  have La1 := Lib.hid (La1.out.trans (hb.mono La1.out.size))
  have Lw0 := Lib.hid (Lw0.out.trans (hb.mono Lw0.out.size))
  have Og0 := Lib.hid (own_below Og0.out hb)
  have LW := Lib.hid (LW.out.trans (hb.mono LW.out.size))
  clear hb
  have Iz0 := Lib.hid (NdIn.of_own ho)
  have Lz0 := Lib.hid (Below.refl (World.heap w16).size w16)
  clear ho
  go_wp2_with fail
  refine (toOpS_any _ _ _ os w16 (OpsIn.to_below Ia1.out La1.out) hm hp).mono ?_
  rintro e w17 ⟨Gz1, rfl, ho, hb⟩
  have La0 := Lib.hid (La0.out.trans (hb.mono La0.out.size))
  have La1 := Lib.hid (La1.out.trans (hb.mono La1.out.size))
  have Lw0 := Lib.hid (Lw0.out.trans (hb.mono Lw0.out.size))
  have Lz0 := Lib.hid (Lz0.out.trans (hb.mono Lz0.out.size))
  have Og0 := Lib.hid (own_below Og0.out hb)
  have LW := Lib.hid (LW.out.trans (hb.mono LW.out.size))
  clear hb
  have Iz1 := Lib.hid (OpsIn.of_own ho)
  have Lz1 := Lib.hid (Below.refl (World.heap w17).size w17)
  clear ho
  go_wp2_with fail
  refine (CI.out _ _ _ _ _ (NdIn.to_below Iz0.out Lz0.out) (OpsIn.to_below Iz1.out Lz1.out) (Nat.le_refl _)).mono ?_
  rintro e w18 ⟨Ah0, ch0, rfl, ho, hb⟩
  have La0 := Lib.hid (La0.out.trans (hb.mono La0.out.size))
  have La1 := Lib.hid (La1.out.trans (hb.mono La1.out.size))
  have Lw0 := Lib.hid (Lw0.out.trans (hb.mono Lw0.out.size))
  have Lz0 := Lib.hid (Lz0.out.trans (hb.mono Lz0.out.size))
  have Lz1 := Lib.hid (Lz1.out.trans (hb.mono Lz1.out.size))
  have Og0 := Lib.hid (own_below Og0.out hb)
  have LW := Lib.hid (LW.out.trans (hb.mono LW.out.size))
  clear hb
  have Ih0 := Lib.hid (NdIn.of_own ho)
  have Lh0 := Lib.hid (Below.refl (World.heap w18).size w18)
  clear ho
  go_wp2_with fail
  refine (eqNodeS_any _ _ _ _ _ _ R.1 R.1 _ (NdIn.to_below Ih0.out Lh0.out) (NdIn.to_below Iw0.out Lw0.out) HN HN).mono ?_
  rintro e w19 ⟨rfl, hb⟩
  have La0 := Lib.hid (La0.out.trans (hb.mono La0.out.size))
  have La1 := Lib.hid (La1.out.trans (hb.mono La1.out.size))
  have Lw0 := Lib.hid (Lw0.out.trans (hb.mono Lw0.out.size))
  have Lz0 := Lib.hid (Lz0.out.trans (hb.mono Lz0.out.size))
  have Lz1 := Lib.hid (Lz1.out.trans (hb.mono Lz1.out.size))
  have Lh0 := Lib.hid (Lh0.out.trans (hb.mono Lh0.out.size))
  have Og0 := Lib.hid (own_below Og0.out hb)
  have LW := Lib.hid (LW.out.trans (hb.mono LW.out.size))
  clear hb
  go_wp2_with fail
  refine (heldNodeS_any _ _ _ _ _ 1 _ Og0.out HN (by omega) (by omega)).mono ?_
  rintro e w' ⟨rfl, rfl⟩
  go_wp2
  go_ret
  exact ⟨rfl, LW.out⟩

end Go.Proofs.Ytofpcedpmbecgaa

/- An argument []Node, opened: it reads as a list of nodes. -/
namespace Go.Proofs.Ytofpcedpmbecgaa
open Go.RowKit Go.ChangeShapes Go.WideShapes Go.Deep
set_option linter.unusedVariables false

theorem open_nodes {H : Type} {enc : TypeId × Value → H} {P : Program} {w : World} {base : Nat} {spare : Nat → Bool} {held : Bool} {t e : TypeId} {f0 f1 : Field} {fuel : Nat} {a : Option Addr} {len cap : Nat} {x : DataW H × List MemPlace}
    (ht : P.underlying t = some (.slice e)) (he : P.underlying e = some (.struct #[f0, f1]))
    (ce : P.cellsOf e = 2) (o0 : f0.offset = 0) (o1 : f1.offset = 1) (c0 : P.cellsOf f0.type = 1) (c1 : P.cellsOf f1.type = 1)
    (k0 : P.underlying f0.type = some (.int .i64)) (k1 : P.underlying f1.type = some (.int .i64))
    (h : DataW.trod enc P w base spare held fuel t [.slice a len cap] = some x) : ∃ xs : Tr, NdIn w w.heap.size a len xs ∧ Tr.wf xs ∧ len ≤ maxLen := by
  have hnil : Tr.wf [] := fun k => by simp [Tr.l, Tr.d]
  rcases open_slice_pairs ht he ce o0 o1 c0 c1 h with ⟨hcs, _⟩ | ⟨ad, l, c, m, n, V0, V1, D0, D1, P0, P1, hcs, _, hl, hm, hmm, _, hi⟩
  · simp at hcs
    obtain ⟨rfl, rfl, rfl⟩ := hcs
    exact ⟨[], ⟨rfl, fun h => absurd h (by omega), fun ad e => by cases e⟩, hnil, by simp [maxLen]⟩
  · simp at hcs
    obtain ⟨rfl, rfl, rfl⟩ := hcs
    have hlm : len ≤ m := by rw [hmm]; split <;> omega
    have each : ∀ i, i < len → ∃ q : Int × Int, w.cell? (ad.add (i * 2)) = some (.int .i64 q.1) ∧ w.cell? (ad.add (i * 2 + 1)) = some (.int .i64 q.2) ∧ (Lit.int .i64 q.1).wf = true ∧ (Lit.int .i64 q.2).wf = true := by
      intro i hil
      obtain ⟨h1, h2, h3, h4⟩ := hi i (by omega)
      obtain ⟨z0, e0, _, w0⟩ := DataW.trod_int k0 h3
      obtain ⟨z1, e1, _, w1⟩ := DataW.trod_int k1 h4
      simp at e0 e1
      exact ⟨(z0, z1), by rw [h1, e0], by rw [h2, e1], w0, w1⟩
    obtain ⟨q, hq⟩ := choose_lt each
    have hget (k : Nat) (hk : k < len) : ((List.range len).map q).getD k (0, 0) = q k := by simp [List.getD_eq_getElem?_getD, hk]
    refine ⟨(List.range len).map q, ⟨by simp, fun hn => ⟨ad, rfl, ?_⟩, fun ad' e k hk => ?_⟩, fun k => ?_, by omega⟩
    · have := World.block_lt_of_cell? w _ (hq 0 hn).1
      rwa [block_of_add] at this
    · obtain rfl : ad = ad' := by injection e
      simp only [Tr.l, Tr.d, hget k hk]
      exact ⟨(hq k hk).1, (hq k hk).2.1⟩
    · by_cases hk : k < len
      · simp only [Tr.l, Tr.d, hget k hk]
        exact ⟨Kit.wf_le (hq k hk).2.2.1, Kit.wf_le (hq k hk).2.2.2⟩
      · simp [Tr.l, Tr.d, List.getD_eq_getElem?_getD, hk]

end Go.Proofs.Ytofpcedpmbecgaa

/- Contracts (CoOpen). -/
namespace Go.Proofs.Ytofpcedpmbecgaa
open Go.RowKit
set_option linter.unusedVariables false

open Go.ChangeShapes Go.WideShapes Go.Deep Go.Joins
theorem open_introw {H : Type} {enc : TypeId × Value → H} {P : Program} {w : World} {base : Nat} {spare : Nat → Bool} {held : Bool} {t e : TypeId} {fuel : Nat} {v : Value} {x : DataW H × List MemPlace}
    (ht : P.underlying t = some (.slice e)) (he : P.underlying e = some (.int .i64)) (hc : P.cellsOf e = 1)
    (h : DataW.trod enc P w base spare held fuel t [v] = some x) : ∃ (A : Option Addr) (n c : Nat) (zs : List Int), v = .slice A n c ∧ IntIn w w.heap.size A n zs ∧ n ≤ maxLen := by
  rcases open_ints ht he hc h with ⟨hcs, _⟩ | ⟨a, l, c, zs, hcs, _, hl, hm, hz, _, hcell, hwz⟩
  · simp at hcs
    subst hcs
    exact ⟨none, 0, 0, [], rfl, ⟨rfl, fun h => absurd h (by omega), fun ad e => by cases e⟩, by simp [maxLen]⟩
  · simp at hcs
    subst hcs
    have hlz : l ≤ zs.length := by rw [hz]; split <;> omega
    refine ⟨some a, l, c, zs.take l, rfl, ⟨by simp; omega, fun hn => ⟨a, rfl, ?_⟩, fun ad e k hk => ?_⟩, by omega⟩
    · have := World.block_lt_of_cell? w _ (hcell 0 (by omega))
      rwa [block_of_add] at this
    · obtain rfl : a = ad := by injection e
      rw [hcell k (by omega)]
      simp [Zs.at, List.getD_eq_getElem?_getD, hk]
end Go.Proofs.Ytofpcedpmbecgaa

/- Contracts (OpOpen). -/
namespace Go.Proofs.Ytofpcedpmbecgaa
open Go.RowKit
set_option linter.unusedVariables false

open Go.ChangeShapes Go.WideShapes Go.Deep Go.Joins
section
variable {H : Type} {enc : TypeId × Value → H} {P : Program} {w : World} {base : Nat} {spare : Nat → Bool} {held : Bool}
theorem trod_struct5 {t : TypeId} {f0 f1 f2 f3 f4 : Field} {fuel : Nat} {cs : List Value} {x : DataW H × List MemPlace} (ht : P.underlying t = some (.struct #[f0, f1, f2, f3, f4])) (h : DataW.trod enc P w base spare held fuel t cs = some x) :
    ∃ y0 y1 y2 y3 y4 n, x = (.agg [y0.1, y1.1, y2.1, y3.1, y4.1], y0.2 ++ (y1.2 ++ (y2.2 ++ (y3.2 ++ y4.2)))) ∧ cs.length = P.cellsOf t ∧ DataW.trod enc P w base spare held n f0.type ((cs.drop f0.offset).take (P.cellsOf f0.type)) = some y0 ∧
      DataW.trod enc P w base spare held n f1.type ((cs.drop f1.offset).take (P.cellsOf f1.type)) = some y1 ∧ DataW.trod enc P w base spare held n f2.type ((cs.drop f2.offset).take (P.cellsOf f2.type)) = some y2 ∧
      DataW.trod enc P w base spare held n f3.type ((cs.drop f3.offset).take (P.cellsOf f3.type)) = some y3 ∧ DataW.trod enc P w base spare held n f4.type ((cs.drop f4.offset).take (P.cellsOf f4.type)) = some y4 := by
  obtain ⟨xs, n, _, rfl, hl, hlen, hf⟩ := DataW.trod_struct ht h
  match xs, hlen with
  | [y0, y1, y2, y3, y4], _ => exact ⟨y0, y1, y2, y3, y4, n, by simp, hl, by simpa using hf 0 f0 rfl, by simpa using hf 1 f1 rfl, by simpa using hf 2 f2 rfl, by simpa using hf 3 f3 rfl, by simpa using hf 4 f4 rfl⟩
end

end Go.Proofs.Ytofpcedpmbecgaa
