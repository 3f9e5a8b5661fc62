/- Contracts (ExUnmapped). -/
import Derived.Test.YtlndaflhlkbedaaUnS
import Derived.Test.YtlndaflhlkbedaaUnI
import Derived.Test.YtlndaflhlkbedaaNdTo
import Derived.Test.YtlndaflhlkbedaaNdEq
import Derived.Test.YtlndaflhlkbedaaNdM
import Derived.Test.YtlndaflhlkbedaaPrTo
import Derived.Test.YtlndaflhlkbedaaPrEq
import Derived.Test.YtlndaflhlkbedaaPrM
import Derived.Test.YtlndaflhlkbedaaIntH
import Derived.Test.YtlndaflhlkbedaaRes
namespace Go.Proofs.Ytlndaflhlkbedaa
open Go.RowKit
set_option linter.unusedVariables false

set_option maxHeartbeats 800000 in
set_option maxRecDepth 100000 in
theorem exactUnmapped_walk (A0 : Option Addr) (n0 c0 : Nat) (x0 : Tr) (A1 : Option Addr) (n1 c1 : Nat) (x1 : Tr) (le0 : n0 ≤ maxLen) (_wf0 : Tr.wf x0) (le1 : n1 ≤ maxLen) (_wf1 : Tr.wf x1) (w : World) (h0 : NdIn w w.heap.size A0 n0 x0) (h1 : NdIn w w.heap.size A1 n1 x1) :
    Calls Try.prog 12 #[.slice A0 n0 c0, .slice A1 n1 c1] w fun e w' => e = .returned (.bool true) ∧ Below w.heap.size w w' := by
  have Ia0 := Lib.hid h0
  clear h0
  unfold maxLen at le0
  have Ia1 := Lib.hid h1
  clear h1
  unfold maxLen at le1
  by_cases hs0 : n0 ≤ 1048576
  rotate_left
  · go_enter Try.func12, Try.ntmps12
    go_wp2_with fail
    refine (szNodeS_any _ _ _ _ _ le0 (by omega) (by omega)).mono ?_
    rintro e w' ⟨rfl, rfl⟩
    rw [if_neg (by omega)]
    go_wp2
    go_ret
    exact ⟨rfl, Below.refl _ _⟩
  by_cases hs1 : n0 + n1 ≤ 1048576
  rotate_left
  · go_enter Try.func12, Try.ntmps12
    go_wp2_with fail
    refine (szNodeS_any _ _ _ _ _ le0 (by omega) (by omega)).mono ?_
    rintro e w' ⟨rfl, rfl⟩
    rw [if_pos (by omega)]
    go_wp2_with fail
    refine (szPairS_any _ _ _ _ _ le1 (by omega) (by omega)).mono ?_
    rintro e w' ⟨rfl, rfl⟩
    rw [if_neg (by omega)]
    go_wp2
    go_ret
    exact ⟨rfl, Below.refl _ _⟩
  have hn0 : n0 ≤ 1048576 := by omega
  have hn1 : n1 ≤ 1048576 := by omega
  have HN : (Un.to x1 x0.length).length ≤ 1048576 := Un.to_bound x1 _ (by have := Ia0.out.1; omega)
  go_enter Try.func12, Try.ntmps12
  go_wp2_with fail
  refine (szNodeS_any _ _ _ _ _ le0 (by omega) (by omega)).mono ?_
  rintro e w' ⟨rfl, rfl⟩
  rw [if_pos (by omega)]
  go_wp2_with fail
  refine (szPairS_any _ _ _ _ _ le1 (by omega) (by omega)).mono ?_
  rintro e w' ⟨rfl, rfl⟩
  rw [if_pos (by omega)]
  have La0 := Lib.hid (Below.refl (World.heap w).size w)
  have La1 := Lib.hid (Below.refl (World.heap w).size w)
  have LW := Lib.hid (Below.refl (World.heap w).size w)
  go_wp2_with fail
  refine (toNodeS_any _ _ _ x0 _ (NdIn.to_below Ia0.out La0.out) hn0).mono ?_
  rintro e w1 ⟨rfl, ho, hb⟩
  have La0 := Lib.hid (La0.out.trans (hb.mono La0.out.size))
  have La1 := Lib.hid (La1.out.trans (hb.mono La1.out.size))
  have LW := Lib.hid (LW.out.trans (hb.mono LW.out.size))
  clear hb
  have Is0 := Lib.hid (NdIn.of_own ho)
  have Ls0 := Lib.hid (Below.refl (World.heap w1).size w1)
  clear ho
  go_wp2_with fail
  refine (toPairS_any _ _ _ x1 _ (NdIn.to_below Ia1.out La1.out) hn1).mono ?_
  rintro e w2 ⟨rfl, ho, hb⟩
  have La0 := Lib.hid (La0.out.trans (hb.mono La0.out.size))
  have La1 := Lib.hid (La1.out.trans (hb.mono La1.out.size))
  have Ls0 := Lib.hid (Ls0.out.trans (hb.mono Ls0.out.size))
  have LW := Lib.hid (LW.out.trans (hb.mono LW.out.size))
  clear hb
  have Is1 := Lib.hid (NdIn.of_own ho)
  have Ls1 := Lib.hid (Below.refl (World.heap w2).size w2)
  clear ho
  go_wp2_with fail
  refine (specUnmapped_any (c := _) (h := (NdIn.to_below Is0.out Ls0.out)) (hn := hn0) (c' := _) (h' := (NdIn.to_below Is1.out Ls1.out)) (hn' := hn1)).mono ?_
  rintro e w3 ⟨Aw0, cw0, rfl, ho, hb⟩
  have La0 := Lib.hid (La0.out.trans (hb.mono La0.out.size))
  have La1 := Lib.hid (La1.out.trans (hb.mono La1.out.size))
  have Ls0 := Lib.hid (Ls0.out.trans (hb.mono Ls0.out.size))
  have Ls1 := Lib.hid (Ls1.out.trans (hb.mono Ls1.out.size))
  have LW := Lib.hid (LW.out.trans (hb.mono LW.out.size))
  clear hb
  have Iw0 := Lib.hid (IntIn.of_own ho)
  have Lw0 := Lib.hid (Below.refl (World.heap w3).size w3)
  clear ho
  have Ma0_x0 := La0.out.size
  have Ma1_x0 := La1.out.size
  have Mw0_x0 := Lw0.out.size
  have MW_x0 := LW.out.size
  go_wp2_with fail
  refine (toNodeS_any _ _ _ x0 _ (NdIn.to_below Ia0.out La0.out) hn0).mono ?_
  rintro e w4 ⟨rfl, ho, hb⟩
  have La0 := Lib.hid (La0.out.trans (hb.mono La0.out.size))
  have La1 := Lib.hid (La1.out.trans (hb.mono La1.out.size))
  have Lw0 := Lib.hid (Lw0.out.trans (hb.mono Lw0.out.size))
  have LW := Lib.hid (LW.out.trans (hb.mono LW.out.size))
  clear hb
  have Ox0 := Lib.hid ho
  clear ho
  have Ma0_x1 := La0.out.size
  have Ma1_x1 := La1.out.size
  have Mw0_x1 := Lw0.out.size
  have MW_x1 := LW.out.size
  have Mx0_x1 := fun k hk => (Ox0.out.lt k hk).2
  go_wp2_with fail
  refine (toPairS_any _ _ _ x1 _ (NdIn.to_below Ia1.out La1.out) hn1).mono ?_
  rintro e w5 ⟨rfl, ho, hb⟩
  have La0 := Lib.hid (La0.out.trans (hb.mono La0.out.size))
  have La1 := Lib.hid (La1.out.trans (hb.mono La1.out.size))
  have Lw0 := Lib.hid (Lw0.out.trans (hb.mono Lw0.out.size))
  have Ox0 := Lib.hid (own_below Ox0.out hb)
  have LW := Lib.hid (LW.out.trans (hb.mono LW.out.size))
  clear hb
  have Ox1 := Lib.hid ho
  clear ho
  have Ma0_g0 := La0.out.size
  have Ma1_g0 := La1.out.size
  have Mw0_g0 := Lw0.out.size
  have MW_g0 := LW.out.size
  have Mx0_g0 := fun k hk => (Ox0.out.lt k hk).2
  have Mx1_g0 := fun k hk => (Ox1.out.lt k hk).2
  go_wp2_with fail
  refine (implUnmapped_any (c := _) (h := (NdIn.of_own Ox0.out)) (hn := hn0) (c' := _) (h' := (NdIn.of_own Ox1.out)) (hn' := hn1)).mono ?_
  rintro e w6 ⟨Ag0, cg0, rfl, ho, hb⟩
  have La0 := Lib.hid (La0.out.trans (hb.mono La0.out.size))
  have La1 := Lib.hid (La1.out.trans (hb.mono La1.out.size))
  have Lw0 := Lib.hid (Lw0.out.trans (hb.mono Lw0.out.size))
  have Ox0 := Lib.hid (own_below Ox0.out hb)
  have Ox1 := Lib.hid (own_below Ox1.out hb)
  have LW := Lib.hid (LW.out.trans (hb.mono LW.out.size))
  clear hb
  have Og0 := Lib.hid ho
  clear ho
  go_wp2_with fail
  refine (eqIntS_any _ _ _ _ _ _ (Un.to x1 x0.length) (Un.to x1 x0.length) _ (IntIn.of_own Og0.out) (IntIn.to_below Iw0.out Lw0.out) HN HN).mono ?_
  rintro e w7 ⟨rfl, hb⟩
  have La0 := Lib.hid (La0.out.trans (hb.mono La0.out.size))
  have La1 := Lib.hid (La1.out.trans (hb.mono La1.out.size))
  have Lw0 := Lib.hid (Lw0.out.trans (hb.mono Lw0.out.size))
  have Ox0 := Lib.hid (own_below Ox0.out hb)
  have Ox1 := Lib.hid (own_below Ox1.out hb)
  have Og0 := Lib.hid (own_below Og0.out hb)
  have LW := Lib.hid (LW.out.trans (hb.mono LW.out.size))
  clear hb
  go_wp2_with fail
  refine (toNodeS_any _ _ _ x0 _ (NdIn.to_below Ia0.out La0.out) hn0).mono ?_
  rintro e w8 ⟨rfl, ho, hb⟩
  have La0 := Lib.hid (La0.out.trans (hb.mono La0.out.size))
  have La1 := Lib.hid (La1.out.trans (hb.mono La1.out.size))
  have Lw0 := Lib.hid (Lw0.out.trans (hb.mono Lw0.out.size))
  have Ox0 := Lib.hid (own_below Ox0.out hb)
  have Ox1 := Lib.hid (own_below Ox1.out hb)
  have Og0 := Lib.hid (own_below Og0.out hb)
  have LW := Lib.hid (LW.out.trans (hb.mono LW.out.size))
  clear hb
  have Iy0 := Lib.hid (NdIn.of_own ho)
  have Ly0 := Lib.hid (Below.refl (World.heap w8).size w8)
  clear ho
  go_wp2_with fail
  refine (eqNodeS_any _ _ _ _ _ _ x0 x0 _ (NdIn.of_own Ox0.out) (NdIn.to_below Iy0.out Ly0.out) hn0 hn0).mono ?_
  rintro e w9 ⟨rfl, hb⟩
  have La0 := Lib.hid (La0.out.trans (hb.mono La0.out.size))
  have La1 := Lib.hid (La1.out.trans (hb.mono La1.out.size))
  have Lw0 := Lib.hid (Lw0.out.trans (hb.mono Lw0.out.size))
  have Ly0 := Lib.hid (Ly0.out.trans (hb.mono Ly0.out.size))
  have Ox0 := Lib.hid (own_below Ox0.out hb)
  have Ox1 := Lib.hid (own_below Ox1.out hb)
  have Og0 := Lib.hid (own_below Og0.out hb)
  have LW := Lib.hid (LW.out.trans (hb.mono LW.out.size))
  clear hb
  go_wp2_with fail
  refine (toPairS_any _ _ _ x1 _ (NdIn.to_below Ia1.out La1.out) hn1).mono ?_
  rintro e w10 ⟨rfl, ho, hb⟩
  have La0 := Lib.hid (La0.out.trans (hb.mono La0.out.size))
  have La1 := Lib.hid (La1.out.trans (hb.mono La1.out.size))
  have Lw0 := Lib.hid (Lw0.out.trans (hb.mono Lw0.out.size))
  have Ox0 := Lib.hid (own_below Ox0.out hb)
  have Ox1 := Lib.hid (own_below Ox1.out hb)
  have Og0 := Lib.hid (own_below Og0.out hb)
  have LW := Lib.hid (LW.out.trans (hb.mono LW.out.size))
  clear hb
  have Iy1 := Lib.hid (NdIn.of_own ho)
  have Ly1 := Lib.hid (Below.refl (World.heap w10).size w10)
  clear ho
  go_wp2_with fail
  refine (eqPairS_any _ _ _ _ _ _ x1 x1 _ (NdIn.of_own Ox1.out) (NdIn.to_below Iy1.out Ly1.out) (by omega) (by omega)).mono ?_
  rintro e w11 ⟨rfl, hb⟩
  have La0 := Lib.hid (La0.out.trans (hb.mono La0.out.size))
  have La1 := Lib.hid (La1.out.trans (hb.mono La1.out.size))
  have Lw0 := Lib.hid (Lw0.out.trans (hb.mono Lw0.out.size))
  have Ly1 := Lib.hid (Ly1.out.trans (hb.mono Ly1.out.size))
  have Ox0 := Lib.hid (own_below Ox0.out hb)
  have Ox1 := Lib.hid (own_below Ox1.out hb)
  have Og0 := Lib.hid (own_below Og0.out hb)
  have LW := Lib.hid (LW.out.trans (hb.mono LW.out.size))
  clear hb
  go_wp2_with fail
  refine (markNodeS_any _ _ _ _ _ _ (x0) _ Ox0.out hn0 (by omega) (by omega)).mono ?_
  rintro e w12 ⟨rfl, ho, hg⟩
  have La0 := Lib.hid (La0.out.grown hg La0.out.size (fun k hk => Nat.le_trans Ma0_x0 (Ox0.out.lt k hk).1))
  have La1 := Lib.hid (La1.out.grown hg La1.out.size (fun k hk => Nat.le_trans Ma1_x0 (Ox0.out.lt k hk).1))
  have Lw0 := Lib.hid (Lw0.out.grown hg Lw0.out.size (fun k hk => Nat.le_trans Mw0_x0 (Ox0.out.lt k hk).1))
  have LW := Lib.hid (LW.out.grown hg LW.out.size (fun k hk => Nat.le_trans MW_x0 (Ox0.out.lt k hk).1))
  have Ox1 := Lib.hid (own_grown Ox1.out hg Mx0_x1)
  have Og0 := Lib.hid (own_grown Og0.out hg Mx0_g0)
  have Ox0 := Lib.hid ho
  clear ho hg
  go_wp2_with fail
  refine (markPairS_any _ _ _ _ _ _ (x1) _ Ox1.out (by omega) (by omega) (by omega)).mono ?_
  rintro e w13 ⟨rfl, ho, hg⟩
  have La0 := Lib.hid (La0.out.grown hg La0.out.size (fun k hk => Nat.le_trans Ma0_x1 (Ox1.out.lt k hk).1))
  have La1 := Lib.hid (La1.out.grown hg La1.out.size (fun k hk => Nat.le_trans Ma1_x1 (Ox1.out.lt k hk).1))
  have Lw0 := Lib.hid (Lw0.out.grown hg Lw0.out.size (fun k hk => Nat.le_trans Mw0_x1 (Ox1.out.lt k hk).1))
  have LW := Lib.hid (LW.out.grown hg LW.out.size (fun k hk => Nat.le_trans MW_x1 (Ox1.out.lt k hk).1))
  have Og0 := Lib.hid (own_grown Og0.out hg Mx1_g0)
  have Ox1 := Lib.hid ho
  clear ho hg
  go_wp2_with fail
  refine (eqIntS_any _ _ _ _ _ _ (Un.to x1 x0.length) (Un.to x1 x0.length) _ (IntIn.of_own Og0.out) (IntIn.to_below Iw0.out Lw0.out) HN HN).mono ?_
  rintro e w14 ⟨rfl, hb⟩
  have La0 := Lib.hid (La0.out.trans (hb.mono La0.out.size))
  have La1 := Lib.hid (La1.out.trans (hb.mono La1.out.size))
  have Lw0 := Lib.hid (Lw0.out.trans (hb.mono Lw0.out.size))
  have Ox1 := Lib.hid (own_below Ox1.out hb)
  have Og0 := Lib.hid (own_below Og0.out hb)
  have LW := Lib.hid (LW.out.trans (hb.mono LW.out.size))
  clear hb
  go_wp2_with fail
  refine (markIntS_any _ _ _ _ _ _ (Un.to x1 x0.length) _ Og0.out HN (by omega) (by omega)).mono ?_
  rintro e w15 ⟨rfl, ho, hg⟩
  have La0 := Lib.hid (La0.out.grown hg La0.out.size (fun k hk => Nat.le_trans Ma0_g0 (Og0.out.lt k hk).1))
  have La1 := Lib.hid (La1.out.grown hg La1.out.size (fun k hk => Nat.le_trans Ma1_g0 (Og0.out.lt k hk).1))
  have Lw0 := Lib.hid (Lw0.out.grown hg Lw0.out.size (fun k hk => Nat.le_trans Mw0_g0 (Og0.out.lt k hk).1))
  have LW := Lib.hid (LW.out.grown hg LW.out.size (fun k hk => Nat.le_trans MW_g0 (Og0.out.lt k hk).1))
  have Og0 := Lib.hid ho
  clear ho hg
  go_wp2_with fail
  refine (heldIntS_any _ _ _ _ _ 1 _ Og0.out HN (by omega) (by omega)).mono ?_
  rintro e w' ⟨rfl, rfl⟩
  go_wp2_with fail
  refine (toNodeS_any _ _ _ x0 _ (NdIn.to_below Ia0.out La0.out) hn0).mono ?_
  rintro e w16 ⟨rfl, ho, hb⟩
  have La0 := Lib.hid (La0.out.trans (hb.mono La0.out.size))
  have La1 := Lib.hid (La1.out.trans (hb.mono La1.out.size))
  have Lw0 := Lib.hid (Lw0.out.trans (hb.mono Lw0.out.size))
  have Og0 := Lib.hid (own_below Og0.out hb)
  have LW := Lib.hid (LW.out.trans (hb.mono LW.out.size))
  clear hb
  have Iz0 := Lib.hid (NdIn.of_own ho)
  have Lz0 := Lib.hid (Below.refl (World.heap w16).size w16)
  clear ho
  go_wp2_with fail
  refine (toPairS_any _ _ _ x1 _ (NdIn.to_below Ia1.out La1.out) hn1).mono ?_
  rintro e w17 ⟨rfl, ho, hb⟩
  have La0 := Lib.hid (La0.out.trans (hb.mono La0.out.size))
  have La1 := Lib.hid (La1.out.trans (hb.mono La1.out.size))
  have Lw0 := Lib.hid (Lw0.out.trans (hb.mono Lw0.out.size))
  have Lz0 := Lib.hid (Lz0.out.trans (hb.mono Lz0.out.size))
  have Og0 := Lib.hid (own_below Og0.out hb)
  have LW := Lib.hid (LW.out.trans (hb.mono LW.out.size))
  clear hb
  have Iz1 := Lib.hid (NdIn.of_own ho)
  have Lz1 := Lib.hid (Below.refl (World.heap w17).size w17)
  clear ho
  go_wp2_with fail
  refine (implUnmapped_any (c := _) (h := (NdIn.to_below Iz0.out Lz0.out)) (hn := hn0) (c' := _) (h' := (NdIn.to_below Iz1.out Lz1.out)) (hn' := hn1)).mono ?_
  rintro e w18 ⟨Ah0, ch0, rfl, ho, hb⟩
  have La0 := Lib.hid (La0.out.trans (hb.mono La0.out.size))
  have La1 := Lib.hid (La1.out.trans (hb.mono La1.out.size))
  have Lw0 := Lib.hid (Lw0.out.trans (hb.mono Lw0.out.size))
  have Lz0 := Lib.hid (Lz0.out.trans (hb.mono Lz0.out.size))
  have Lz1 := Lib.hid (Lz1.out.trans (hb.mono Lz1.out.size))
  have Og0 := Lib.hid (own_below Og0.out hb)
  have LW := Lib.hid (LW.out.trans (hb.mono LW.out.size))
  clear hb
  have Ih0 := Lib.hid (IntIn.of_own ho)
  have Lh0 := Lib.hid (Below.refl (World.heap w18).size w18)
  clear ho
  go_wp2_with fail
  refine (eqIntS_any _ _ _ _ _ _ (Un.to x1 x0.length) (Un.to x1 x0.length) _ (IntIn.to_below Ih0.out Lh0.out) (IntIn.to_below Iw0.out Lw0.out) HN HN).mono ?_
  rintro e w19 ⟨rfl, hb⟩
  have La0 := Lib.hid (La0.out.trans (hb.mono La0.out.size))
  have La1 := Lib.hid (La1.out.trans (hb.mono La1.out.size))
  have Lw0 := Lib.hid (Lw0.out.trans (hb.mono Lw0.out.size))
  have Lz0 := Lib.hid (Lz0.out.trans (hb.mono Lz0.out.size))
  have Lz1 := Lib.hid (Lz1.out.trans (hb.mono Lz1.out.size))
  have Lh0 := Lib.hid (Lh0.out.trans (hb.mono Lh0.out.size))
  have Og0 := Lib.hid (own_below Og0.out hb)
  have LW := Lib.hid (LW.out.trans (hb.mono LW.out.size))
  clear hb
  go_wp2_with fail
  refine (heldIntS_any _ _ _ _ _ 1 _ Og0.out HN (by omega) (by omega)).mono ?_
  rintro e w' ⟨rfl, rfl⟩
  go_wp2
  go_ret
  exact ⟨rfl, LW.out⟩

end Go.Proofs.Ytlndaflhlkbedaa
