/- Texts of one claim laid into one file, in build order: ExKept, NdOpen. -/
import Derived.Test.YtgkkeejhfofcaaaHc1
import Derived.Test.YtgkkeejhfofcaaaHc15
import Derived.Test.YtgkkeejhfofcaaaHc18
import Derived.Test.YtgkkeejhfofcaaaHc19
import Derived.Test.YtgkkeejhfofcaaaHc3
import Derived.ChangeArms
import Derived.Deep.SlicePairs
import Derived.WideShapes
/- Contracts (ExKept). -/
namespace Go.Proofs.Ytgkkeejhfofcaaa
open Go.RowKit
set_option linter.unusedVariables false

set_option maxHeartbeats 800000 in
set_option maxRecDepth 100000 in
theorem exactKept_walk (A0 : Option Addr) (n0 c0 : Nat) (x0 : Tr) (A1 : Option Addr) (n1 c1 : Nat) (x1 : Tr) (le0 : n0 ≤ maxLen) (_wf0 : Tr.wf x0) (le1 : n1 ≤ maxLen) (_wf1 : Tr.wf x1) (w : World) (h0 : NdIn w w.heap.size A0 n0 x0) (h1 : NdIn w w.heap.size A1 n1 x1) :
    Calls Try.prog 8 #[.slice A0 n0 c0, .slice A1 n1 c1] w fun e w' => e = .returned (.bool true) ∧ Below w.heap.size w w' := by
  have Ia0 := Lib.hid h0
  clear h0
  unfold maxLen at le0
  have Ia1 := Lib.hid h1
  clear h1
  unfold maxLen at le1
  by_cases hs0 : n0 ≤ 1048576
  rotate_left
  · go_enter Try.func8, Try.ntmps8
    go_wp2_with fail
    refine (szNodeS_any _ _ _ _ _ le0 (by omega) (by omega)).mono ?_
    rintro e w' ⟨rfl, rfl⟩
    rw [if_neg (by omega)]
    go_wp2
    go_ret
    exact ⟨rfl, Below.refl _ _⟩
  by_cases hs1 : n0 + n1 ≤ 1048576
  rotate_left
  · go_enter Try.func8, Try.ntmps8
    go_wp2_with fail
    refine (szNodeS_any _ _ _ _ _ le0 (by omega) (by omega)).mono ?_
    rintro e w' ⟨rfl, rfl⟩
    rw [if_pos (by omega)]
    go_wp2_with fail
    refine (szPairS_any _ _ _ _ _ le1 (by omega) (by omega)).mono ?_
    rintro e w' ⟨rfl, rfl⟩
    rw [if_neg (by omega)]
    go_wp2
    go_ret
    exact ⟨rfl, Below.refl _ _⟩
  have hn0 : n0 ≤ 1048576 := by omega
  have hn1 : n1 ≤ 1048576 := by omega
  have HN : (Kp.of x0 x1).length ≤ 1048576 := Nat.le_trans (Kp.len x0 x1) (by decide)
  go_enter Try.func8, Try.ntmps8
  go_wp2_with fail
  refine (szNodeS_any _ _ _ _ _ le0 (by omega) (by omega)).mono ?_
  rintro e w' ⟨rfl, rfl⟩
  rw [if_pos (by omega)]
  go_wp2_with fail
  refine (szPairS_any _ _ _ _ _ le1 (by omega) (by omega)).mono ?_
  rintro e w' ⟨rfl, rfl⟩
  rw [if_pos (by omega)]
  have La0 := Lib.hid (Below.refl (World.heap w).size w)
  have La1 := Lib.hid (Below.refl (World.heap w).size w)
  have LW := Lib.hid (Below.refl (World.heap w).size w)
  go_wp2_with fail
  refine (toNodeS_any _ _ _ x0 _ (NdIn.to_below Ia0.out La0.out) hn0).mono ?_
  rintro e w1 ⟨rfl, ho, hb⟩
  have La0 := Lib.hid (La0.out.trans (hb.mono La0.out.size))
  have La1 := Lib.hid (La1.out.trans (hb.mono La1.out.size))
  have LW := Lib.hid (LW.out.trans (hb.mono LW.out.size))
  clear hb
  have Is0 := Lib.hid (NdIn.of_own ho)
  have Ls0 := Lib.hid (Below.refl (World.heap w1).size w1)
  clear ho
  go_wp2_with fail
  refine (toPairS_any _ _ _ x1 _ (NdIn.to_below Ia1.out La1.out) hn1).mono ?_
  rintro e w2 ⟨rfl, ho, hb⟩
  have La0 := Lib.hid (La0.out.trans (hb.mono La0.out.size))
  have La1 := Lib.hid (La1.out.trans (hb.mono La1.out.size))
  have Ls0 := Lib.hid (Ls0.out.trans (hb.mono Ls0.out.size))
  have LW := Lib.hid (LW.out.trans (hb.mono LW.out.size))
  clear hb
  have Is1 := Lib.hid (NdIn.of_own ho)
  have Ls1 := Lib.hid (Below.refl (World.heap w2).size w2)
  clear ho
  go_wp2_with fail
  refine (specKept_any (c := _) (h := (NdIn.to_below Is0.out Ls0.out)) (hn := hn0) (c' := _) (h' := (NdIn.to_below Is1.out Ls1.out)) (hn' := hn1)).mono ?_
  rintro e w3 ⟨Aw0, cw0, rfl, ho, hb⟩
  have La0 := Lib.hid (La0.out.trans (hb.mono La0.out.size))
  have La1 := Lib.hid (La1.out.trans (hb.mono La1.out.size))
  have Ls0 := Lib.hid (Ls0.out.trans (hb.mono Ls0.out.size))
  have Ls1 := Lib.hid (Ls1.out.trans (hb.mono Ls1.out.size))
  have LW := Lib.hid (LW.out.trans (hb.mono LW.out.size))
  clear hb
  have Iw0 := Lib.hid (NdIn.of_own ho)
  have Lw0 := Lib.hid (Below.refl (World.heap w3).size w3)
  clear ho
  have Ma0_x0 := La0.out.size
  have Ma1_x0 := La1.out.size
  have Mw0_x0 := Lw0.out.size
  have MW_x0 := LW.out.size
  go_wp2_with fail
  refine (toNodeS_any _ _ _ x0 _ (NdIn.to_below Ia0.out La0.out) hn0).mono ?_
  rintro e w4 ⟨rfl, ho, hb⟩
  have La0 := Lib.hid (La0.out.trans (hb.mono La0.out.size))
  have La1 := Lib.hid (La1.out.trans (hb.mono La1.out.size))
  have Lw0 := Lib.hid (Lw0.out.trans (hb.mono Lw0.out.size))
  have LW := Lib.hid (LW.out.trans (hb.mono LW.out.size))
  clear hb
  have Ox0 := Lib.hid ho
  clear ho
  have Ma0_x1 := La0.out.size
  have Ma1_x1 := La1.out.size
  have Mw0_x1 := Lw0.out.size
  have MW_x1 := LW.out.size
  have Mx0_x1 := fun k hk => (Ox0.out.lt k hk).2
  go_wp2_with fail
  refine (toPairS_any _ _ _ x1 _ (NdIn.to_below Ia1.out La1.out) hn1).mono ?_
  rintro e w5 ⟨rfl, ho, hb⟩
  have La0 := Lib.hid (La0.out.trans (hb.mono La0.out.size))
  have La1 := Lib.hid (La1.out.trans (hb.mono La1.out.size))
  have Lw0 := Lib.hid (Lw0.out.trans (hb.mono Lw0.out.size))
  have Ox0 := Lib.hid (own_below Ox0.out hb)
  have LW := Lib.hid (LW.out.trans (hb.mono LW.out.size))
  clear hb
  have Ox1 := Lib.hid ho
  clear ho
  have Ma0_g0 := La0.out.size
  have Ma1_g0 := La1.out.size
  have Mw0_g0 := Lw0.out.size
  have MW_g0 := LW.out.size
  have Mx0_g0 := fun k hk => (Ox0.out.lt k hk).2
  have Mx1_g0 := fun k hk => (Ox1.out.lt k hk).2
  go_wp2_with fail
  refine (implKept_any (hnc := Nat.le_refl _) (c := _) (h := (NdIn.of_own Ox0.out)) (hn := hn0) (c' := _) (h' := (NdIn.of_own Ox1.out)) (hn' := hn1)).mono ?_
  rintro e w6 ⟨Ag0, cg0, rfl, ho, hb⟩
  have La0 := Lib.hid (La0.out.trans (hb.mono La0.out.size))
  have La1 := Lib.hid (La1.out.trans (hb.mono La1.out.size))
  have Lw0 := Lib.hid (Lw0.out.trans (hb.mono Lw0.out.size))
  have Ox0 := Lib.hid (own_below Ox0.out hb)
  have Ox1 := Lib.hid (own_below Ox1.out hb)
  have LW := Lib.hid (LW.out.trans (hb.mono LW.out.size))
  clear hb
  have Og0 := Lib.hid ho
  clear ho
  go_wp2_with fail
  refine (eqNodeS_any _ _ _ _ _ _ (Kp.of x0 x1) (Kp.of x0 x1) _ (NdIn.of_own Og0.out) (NdIn.to_below Iw0.out Lw0.out) HN HN).mono ?_
  rintro e w7 ⟨rfl, hb⟩
  have La0 := Lib.hid (La0.out.trans (hb.mono La0.out.size))
  have La1 := Lib.hid (La1.out.trans (hb.mono La1.out.size))
  have Lw0 := Lib.hid (Lw0.out.trans (hb.mono Lw0.out.size))
  have Ox0 := Lib.hid (own_below Ox0.out hb)
  have Ox1 := Lib.hid (own_below Ox1.out hb)
  have Og0 := Lib.hid (own_below Og0.out hb)
  have LW := Lib.hid (LW.out.trans (hb.mono LW.out.size))
  clear hb
  go_wp2_with fail
  refine (toNodeS_any _ _ _ x0 _ (NdIn.to_below Ia0.out La0.out) hn0).mono ?_
  rintro e w8 ⟨rfl, ho, hb⟩
  have La0 := Lib.hid (La0.out.trans (hb.mono La0.out.size))
  have La1 := Lib.hid (La1.out.trans (hb.mono La1.out.size))
  have Lw0 := Lib.hid (Lw0.out.trans (hb.mono Lw0.out.size))
  have Ox0 := Lib.hid (own_below Ox0.out hb)
  have Ox1 := Lib.hid (own_below Ox1.out hb)
  have Og0 := Lib.hid (own_below Og0.out hb)
  have LW := Lib.hid (LW.out.trans (hb.mono LW.out.size))
  clear hb
  have Iy0 := Lib.hid (NdIn.of_own ho)
  have Ly0 := Lib.hid (Below.refl (World.heap w8).size w8)
  clear ho
  go_wp2_with fail
  refine (eqNodeS_any _ _ _ _ _ _ x0 x0 _ (NdIn.of_own Ox0.out) (NdIn.to_below Iy0.out Ly0.out) hn0 hn0).mono ?_
  rintro e w9 ⟨rfl, hb⟩
  have La0 := Lib.hid (La0.out.trans (hb.mono La0.out.size))
  have La1 := Lib.hid (La1.out.trans (hb.mono La1.out.size))
  have Lw0 := Lib.hid (Lw0.out.trans (hb.mono Lw0.out.size))
  have Ly0 := Lib.hid (Ly0.out.trans (hb.mono Ly0.out.size))
  have Ox0 := Lib.hid (own_below Ox0.out hb)
  have Ox1 := Lib.hid (own_below Ox1.out hb)
  have Og0 := Lib.hid (own_below Og0.out hb)
  have LW := Lib.hid (LW.out.trans (hb.mono LW.out.size))
  clear hb
  go_wp2_with fail
  refine (toPairS_any _ _ _ x1 _ (NdIn.to_below Ia1.out La1.out) hn1).mono ?_
  rintro e w10 ⟨rfl, ho, hb⟩
  have La0 := Lib.hid (La0.out.trans (hb.mono La0.out.size))
  have La1 := Lib.hid (La1.out.trans (hb.mono La1.out.size))
  have Lw0 := Lib.hid (Lw0.out.trans (hb.mono Lw0.out.size))
  have Ox0 := Lib.hid (own_below Ox0.out hb)
  have Ox1 := Lib.hid (own_below Ox1.out hb)
  have Og0 := Lib.hid (own_below Og0.out hb)
  have LW := Lib.hid (LW.out.trans (hb.mono LW.out.size))
  clear hb
  have Iy1 := Lib.hid (NdIn.of_own ho)
  have Ly1 := Lib.hid (Below.refl (World.heap w10).size w10)
  clear ho
  go_wp2_with fail
  refine (eqPairS_any _ _ _ _ _ _ x1 x1 _ (NdIn.of_own Ox1.out) (NdIn.to_below Iy1.out Ly1.out) (by omega) (by omega)).mono ?_
  rintro e w11 ⟨rfl, hb⟩
  have La0 := Lib.hid (La0.out.trans (hb.mono La0.out.size))
  have La1 := Lib.hid (La1.out.trans (hb.mono La1.out.size))
  have Lw0 := Lib.hid (Lw0.out.trans (hb.mono Lw0.out.size))
  have Ly1 := Lib.hid (Ly1.out.trans (hb.mono Ly1.out.size))
  have Ox0 := Lib.hid (own_below Ox0.out hb)
  have Ox1 := Lib.hid (own_below Ox1.out hb)
  have Og0 := Lib.hid (own_below Og0.out hb)
  have LW := Lib.hid (LW.out.trans (hb.mono LW.out.size))
  clear hb
  go_wp2_with fail
  refine (markNodeS_any _ _ _ _ _ _ (x0) _ Ox0.out hn0 (by omega) (by omega)).mono ?_
  rintro e w12 ⟨rfl, ho, hg⟩
  have La0 := Lib.hid (La0.out.grown hg La0.out.size (fun k hk => Nat.le_trans Ma0_x0 (Ox0.out.lt k hk).1))
  have La1 := Lib.hid (La1.out.grown hg La1.out.size (fun k hk => Nat.le_trans Ma1_x0 (Ox0.out.lt k hk).1))
  have Lw0 := Lib.hid (Lw0.out.grown hg Lw0.out.size (fun k hk => Nat.le_trans Mw0_x0 (Ox0.out.lt k hk).1))
  have LW := Lib.hid (LW.out.grown hg LW.out.size (fun k hk => Nat.le_trans MW_x0 (Ox0.out.lt k hk).1))
  have Ox1 := Lib.hid (own_grown Ox1.out hg Mx0_x1)
  have Og0 := Lib.hid (own_grown Og0.out hg Mx0_g0)
  have Ox0 := Lib.hid ho
  clear ho hg
  go_wp2_with fail
  refine (markPairS_any _ _ _ _ _ _ (x1) _ Ox1.out (by omega) (by omega) (by omega)).mono ?_
  rintro e w13 ⟨rfl, ho, hg⟩
  have La0 := Lib.hid (La0.out.grown hg La0.out.size (fun k hk => Nat.le_trans Ma0_x1 (Ox1.out.lt k hk).1))
  have La1 := Lib.hid (La1.out.grown hg La1.out.size (fun k hk => Nat.le_trans Ma1_x1 (Ox1.out.lt k hk).1))
  have Lw0 := Lib.hid (Lw0.out.grown hg Lw0.out.size (fun k hk => Nat.le_trans Mw0_x1 (Ox1.out.lt k hk).1))
  have LW := Lib.hid (LW.out.grown hg LW.out.size (fun k hk => Nat.le_trans MW_x1 (Ox1.out.lt k hk).1))
  have Og0 := Lib.hid (own_grown Og0.out hg Mx1_g0)
  have Ox1 := Lib.hid ho
  clear ho hg
  go_wp2_with fail
  refine (eqNodeS_any _ _ _ _ _ _ (Kp.of x0 x1) (Kp.of x0 x1) _ (NdIn.of_own Og0.out) (NdIn.to_below Iw0.out Lw0.out) HN HN).mono ?_
  rintro e w14 ⟨rfl, hb⟩
  have La0 := Lib.hid (La0.out.trans (hb.mono La0.out.size))
  have La1 := Lib.hid (La1.out.trans (hb.mono La1.out.size))
  have Lw0 := Lib.hid (Lw0.out.trans (hb.mono Lw0.out.size))
  have Ox1 := Lib.hid (own_below Ox1.out hb)
  have Og0 := Lib.hid (own_below Og0.out hb)
  have LW := Lib.hid (LW.out.trans (hb.mono LW.out.size))
  clear hb
  go_wp2_with fail
  refine (markNodeS_any _ _ _ _ _ _ (Kp.of x0 x1) _ Og0.out HN (by omega) (by omega)).mono ?_
  rintro e w15 ⟨rfl, ho, hg⟩
  have La0 := Lib.hid (La0.out.grown hg La0.out.size (fun k hk => Nat.le_trans Ma0_g0 (Og0.out.lt k hk).1))
  have La1 := Lib.hid (La1.out.grown hg La1.out.size (fun k hk => Nat.le_trans Ma1_g0 (Og0.out.lt k hk).1))
  have Lw0 := Lib.hid (Lw0.out.grown hg Lw0.out.size (fun k hk => Nat.le_trans Mw0_g0 (Og0.out.lt k hk).1))
  have LW := Lib.hid (LW.out.grown hg LW.out.size (fun k hk => Nat.le_trans MW_g0 (Og0.out.lt k hk).1))
  have Og0 := Lib.hid ho
  clear ho hg
  go_wp2_with fail
  refine (heldNodeS_any _ _ _ _ _ 1 _ Og0.out HN (by omega) (by omega)).mono ?_
  rintro e w' ⟨rfl, rfl⟩
  go_wp2_with fail
  refine (toNodeS_any _ _ _ x0 _ (NdIn.to_below Ia0.out La0.out) hn0).mono ?_
  rintro e w16 ⟨rfl, ho, hb⟩
  have La0 := Lib.hid (La0.out.trans (hb.mono La0.out.size))
  have La1 := Lib.hid (La1.out.trans (hb.mono La1.out.size))
  have Lw0 := Lib.hid (Lw0.out.trans (hb.mono Lw0.out.size))
  have Og0 := Lib.hid (own_below Og0.out hb)
  have LW := Lib.hid (LW.out.trans (hb.mono LW.out.size))
  clear hb
  have Iz0 := Lib.hid (NdIn.of_own ho)
  have Lz0 := Lib.hid (Below.refl (World.heap w16).size w16)
  clear ho
  go_wp2_with fail
  refine (toPairS_any _ _ _ x1 _ (NdIn.to_below Ia1.out La1.out) hn1).mono ?_
  rintro e w17 ⟨rfl, ho, hb⟩
  have La0 := Lib.hid (La0.out.trans (hb.mono La0.out.size))
  have La1 := Lib.hid (La1.out.trans (hb.mono La1.out.size))
  have Lw0 := Lib.hid (Lw0.out.trans (hb.mono Lw0.out.size))
  have Lz0 := Lib.hid (Lz0.out.trans (hb.mono Lz0.out.size))
  have Og0 := Lib.hid (own_below Og0.out hb)
  have LW := Lib.hid (LW.out.trans (hb.mono LW.out.size))
  clear hb
  have Iz1 := Lib.hid (NdIn.of_own ho)
  have Lz1 := Lib.hid (Below.refl (World.heap w17).size w17)
  clear ho
  go_wp2_with fail
  refine (implKept_any (hnc := Nat.le_refl _) (c := _) (h := (NdIn.to_below Iz0.out Lz0.out)) (hn := hn0) (c' := _) (h' := (NdIn.to_below Iz1.out Lz1.out)) (hn' := hn1)).mono ?_
  rintro e w18 ⟨Ah0, ch0, rfl, ho, hb⟩
  have La0 := Lib.hid (La0.out.trans (hb.mono La0.out.size))
  have La1 := Lib.hid (La1.out.trans (hb.mono La1.out.size))
  have Lw0 := Lib.hid (Lw0.out.trans (hb.mono Lw0.out.size))
  have Lz0 := Lib.hid (Lz0.out.trans (hb.mono Lz0.out.size))
  have Lz1 := Lib.hid (Lz1.out.trans (hb.mono Lz1.out.size))
  have Og0 := Lib.hid (own_below Og0.out hb)
  have LW := Lib.hid (LW.out.trans (hb.mono LW.out.size))
  clear hb
  have Ih0 := Lib.hid (NdIn.of_own ho)
  have Lh0 := Lib.hid (Below.refl (World.heap w18).size w18)
  clear ho
  go_wp2_with fail
  refine (eqNodeS_any _ _ _ _ _ _ (Kp.of x0 x1) (Kp.of x0 x1) _ (NdIn.to_below Ih0.out Lh0.out) (NdIn.to_below Iw0.out Lw0.out) HN HN).mono ?_
  rintro e w19 ⟨rfl, hb⟩
  have La0 := Lib.hid (La0.out.trans (hb.mono La0.out.size))
  have La1 := Lib.hid (La1.out.trans (hb.mono La1.out.size))
  have Lw0 := Lib.hid (Lw0.out.trans (hb.mono Lw0.out.size))
  have Lz0 := Lib.hid (Lz0.out.trans (hb.mono Lz0.out.size))
  have Lz1 := Lib.hid (Lz1.out.trans (hb.mono Lz1.out.size))
  have Lh0 := Lib.hid (Lh0.out.trans (hb.mono Lh0.out.size))
  have Og0 := Lib.hid (own_below Og0.out hb)
  have LW := Lib.hid (LW.out.trans (hb.mono LW.out.size))
  clear hb
  go_wp2_with fail
  refine (heldNodeS_any _ _ _ _ _ 1 _ Og0.out HN (by omega) (by omega)).mono ?_
  rintro e w' ⟨rfl, rfl⟩
  go_wp2
  go_ret
  exact ⟨rfl, LW.out⟩

end Go.Proofs.Ytgkkeejhfofcaaa

/- An argument []Node, opened: it reads as a list of nodes. -/
namespace Go.Proofs.Ytgkkeejhfofcaaa
open Go.RowKit Go.ChangeShapes Go.WideShapes Go.Deep
set_option linter.unusedVariables false

theorem open_nodes {H : Type} {enc : TypeId × Value → H} {P : Program} {w : World} {base : Nat} {spare : Nat → Bool} {held : Bool} {t e : TypeId} {f0 f1 : Field} {fuel : Nat} {a : Option Addr} {len cap : Nat} {x : DataW H × List MemPlace}
    (ht : P.underlying t = some (.slice e)) (he : P.underlying e = some (.struct #[f0, f1]))
    (ce : P.cellsOf e = 2) (o0 : f0.offset = 0) (o1 : f1.offset = 1) (c0 : P.cellsOf f0.type = 1) (c1 : P.cellsOf f1.type = 1)
    (k0 : P.underlying f0.type = some (.int .i64)) (k1 : P.underlying f1.type = some (.int .i64))
    (h : DataW.trod enc P w base spare held fuel t [.slice a len cap] = some x) : ∃ xs : Tr, NdIn w w.heap.size a len xs ∧ Tr.wf xs ∧ len ≤ maxLen := by
  have hnil : Tr.wf [] := fun k => by simp [Tr.l, Tr.d]
  rcases open_slice_pairs ht he ce o0 o1 c0 c1 h with ⟨hcs, _⟩ | ⟨ad, l, c, m, n, V0, V1, D0, D1, P0, P1, hcs, _, hl, hm, hmm, _, hi⟩
  · simp at hcs
    obtain ⟨rfl, rfl, rfl⟩ := hcs
    exact ⟨[], ⟨rfl, fun h => absurd h (by omega), fun ad e => by cases e⟩, hnil, by simp [maxLen]⟩
  · simp at hcs
    obtain ⟨rfl, rfl, rfl⟩ := hcs
    have hlm : len ≤ m := by rw [hmm]; split <;> omega
    have each : ∀ i, i < len → ∃ q : Int × Int, w.cell? (ad.add (i * 2)) = some (.int .i64 q.1) ∧ w.cell? (ad.add (i * 2 + 1)) = some (.int .i64 q.2) ∧ (Lit.int .i64 q.1).wf = true ∧ (Lit.int .i64 q.2).wf = true := by
      intro i hil
      obtain ⟨h1, h2, h3, h4⟩ := hi i (by omega)
      obtain ⟨z0, e0, _, w0⟩ := DataW.trod_int k0 h3
      obtain ⟨z1, e1, _, w1⟩ := DataW.trod_int k1 h4
      simp at e0 e1
      exact ⟨(z0, z1), by rw [h1, e0], by rw [h2, e1], w0, w1⟩
    obtain ⟨q, hq⟩ := choose_lt each
    have hget (k : Nat) (hk : k < len) : ((List.range len).map q).getD k (0, 0) = q k := by simp [List.getD_eq_getElem?_getD, hk]
    refine ⟨(List.range len).map q, ⟨by simp, fun hn => ⟨ad, rfl, ?_⟩, fun ad' e k hk => ?_⟩, fun k => ?_, by omega⟩
    · have := World.block_lt_of_cell? w _ (hq 0 hn).1
      rwa [block_of_add] at this
    · obtain rfl : ad = ad' := by injection e
      simp only [Tr.l, Tr.d, hget k hk]
      exact ⟨(hq k hk).1, (hq k hk).2.1⟩
    · by_cases hk : k < len
      · simp only [Tr.l, Tr.d, hget k hk]
        exact ⟨Kit.wf_le (hq k hk).2.2.1, Kit.wf_le (hq k hk).2.2.2⟩
      · simp [Tr.l, Tr.d, List.getD_eq_getElem?_getD, hk]

end Go.Proofs.Ytgkkeejhfofcaaa
