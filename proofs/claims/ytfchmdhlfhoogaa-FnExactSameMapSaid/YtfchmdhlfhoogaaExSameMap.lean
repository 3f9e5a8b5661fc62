/- Contracts (ExSameMap). -/
import Derived.Test.YtfchmdhlfhoogaaSaMS
import Derived.Test.YtfchmdhlfhoogaaSaMI
import Derived.Test.YtfchmdhlfhoogaaPrTo
import Derived.Test.YtfchmdhlfhoogaaPrEq
namespace Go.Proofs.Ytfchmdhlfhoogaa
open Go.RowKit
set_option linter.unusedVariables false

set_option maxHeartbeats 800000 in
set_option maxRecDepth 100000 in
theorem exactSameMap_walk (A0 : Option Addr) (n0 c0 : Nat) (x0 : Tr) (A1 : Option Addr) (n1 c1 : Nat) (x1 : Tr) (le0 : n0 ≤ maxLen) (_wf0 : Tr.wf x0) (le1 : n1 ≤ maxLen) (_wf1 : Tr.wf x1) (w : World) (h0 : NdIn w w.heap.size A0 n0 x0) (h1 : NdIn w w.heap.size A1 n1 x1) :
    Calls Try.prog 15 #[.slice A0 n0 c0, .slice A1 n1 c1] w fun e w' => e = .returned (.bool true) ∧ Below w.heap.size w w' := by
  have Ia0 := Lib.hid h0
  clear h0
  unfold maxLen at le0
  have Ia1 := Lib.hid h1
  clear h1
  unfold maxLen at le1
  by_cases hs0 : n0 ≤ 1048576
  rotate_left
  · go_enter Try.func15, Try.ntmps15
    go_wp2_with fail
    refine (szPairS_any _ _ _ _ _ le0 (by omega) (by omega)).mono ?_
    rintro e w' ⟨rfl, rfl⟩
    rw [if_neg (by omega)]
    go_wp2
    go_ret
    exact ⟨rfl, Below.refl _ _⟩
  by_cases hs1 : n0 + n1 ≤ 1048576
  rotate_left
  · go_enter Try.func15, Try.ntmps15
    go_wp2_with fail
    refine (szPairS_any _ _ _ _ _ le0 (by omega) (by omega)).mono ?_
    rintro e w' ⟨rfl, rfl⟩
    rw [if_pos (by omega)]
    go_wp2_with fail
    refine (szPairS_any _ _ _ _ _ le1 (by omega) (by omega)).mono ?_
    rintro e w' ⟨rfl, rfl⟩
    rw [if_neg (by omega)]
    go_wp2
    go_ret
    exact ⟨rfl, Below.refl _ _⟩
  have hn0 : n0 ≤ 1048576 := by omega
  have hn1 : n1 ≤ 1048576 := by omega
  go_enter Try.func15, Try.ntmps15
  go_wp2_with fail
  refine (szPairS_any _ _ _ _ _ le0 (by omega) (by omega)).mono ?_
  rintro e w' ⟨rfl, rfl⟩
  rw [if_pos (by omega)]
  go_wp2_with fail
  refine (szPairS_any _ _ _ _ _ le1 (by omega) (by omega)).mono ?_
  rintro e w' ⟨rfl, rfl⟩
  rw [if_pos (by omega)]
  have La0 := Lib.hid (Below.refl (World.heap w).size w)
  have La1 := Lib.hid (Below.refl (World.heap w).size w)
  have LW := Lib.hid (Below.refl (World.heap w).size w)
  go_wp2_with fail
  refine (toPairS_any _ _ _ x0 _ (Ia0.out.to_below La0.out) hn0).mono ?_
  rintro e w1 ⟨rfl, ho, hb⟩
  have La0 := Lib.hid (La0.out.trans (hb.mono La0.out.size))
  have La1 := Lib.hid (La1.out.trans (hb.mono La1.out.size))
  have LW := Lib.hid (LW.out.trans (hb.mono LW.out.size))
  clear hb
  have Is0 := Lib.hid (NdIn.of_own ho)
  have Ls0 := Lib.hid (Below.refl (World.heap w1).size w1)
  clear ho
  go_wp2_with fail
  refine (toPairS_any _ _ _ x1 _ (Ia1.out.to_below La1.out) hn1).mono ?_
  rintro e w2 ⟨rfl, ho, hb⟩
  have La0 := Lib.hid (La0.out.trans (hb.mono La0.out.size))
  have La1 := Lib.hid (La1.out.trans (hb.mono La1.out.size))
  have Ls0 := Lib.hid (Ls0.out.trans (hb.mono Ls0.out.size))
  have LW := Lib.hid (LW.out.trans (hb.mono LW.out.size))
  clear hb
  have Is1 := Lib.hid (NdIn.of_own ho)
  have Ls1 := Lib.hid (Below.refl (World.heap w2).size w2)
  clear ho
  go_wp2_with fail
  refine (specSameMap_any (c := _) (h := (Is0.out.to_below Ls0.out)) (hn := hn0) (c' := _) (h' := (Is1.out.to_below Ls1.out)) (hn' := hn1)).mono ?_
  rintro e w3 ⟨rfl, hb⟩
  have hb := hb.toBelow (B := (World.heap w2).size)
  have La0 := Lib.hid (La0.out.trans (hb.mono La0.out.size))
  have La1 := Lib.hid (La1.out.trans (hb.mono La1.out.size))
  have Ls0 := Lib.hid (Ls0.out.trans (hb.mono Ls0.out.size))
  have Ls1 := Lib.hid (Ls1.out.trans (hb.mono Ls1.out.size))
  have LW := Lib.hid (LW.out.trans (hb.mono LW.out.size))
  clear hb
  go_wp2_with fail
  refine (toPairS_any _ _ _ x0 _ (Ia0.out.to_below La0.out) hn0).mono ?_
  rintro e w4 ⟨rfl, ho, hb⟩
  have La0 := Lib.hid (La0.out.trans (hb.mono La0.out.size))
  have La1 := Lib.hid (La1.out.trans (hb.mono La1.out.size))
  have Ls0 := Lib.hid (Ls0.out.trans (hb.mono Ls0.out.size))
  have Ls1 := Lib.hid (Ls1.out.trans (hb.mono Ls1.out.size))
  have LW := Lib.hid (LW.out.trans (hb.mono LW.out.size))
  clear hb
  have Ix0 := Lib.hid (NdIn.of_own ho)
  have Lx0 := Lib.hid (Below.refl (World.heap w4).size w4)
  clear ho
  go_wp2_with fail
  refine (toPairS_any _ _ _ x1 _ (Ia1.out.to_below La1.out) hn1).mono ?_
  rintro e w5 ⟨rfl, ho, hb⟩
  have La0 := Lib.hid (La0.out.trans (hb.mono La0.out.size))
  have La1 := Lib.hid (La1.out.trans (hb.mono La1.out.size))
  have Ls0 := Lib.hid (Ls0.out.trans (hb.mono Ls0.out.size))
  have Ls1 := Lib.hid (Ls1.out.trans (hb.mono Ls1.out.size))
  have Lx0 := Lib.hid (Lx0.out.trans (hb.mono Lx0.out.size))
  have LW := Lib.hid (LW.out.trans (hb.mono LW.out.size))
  clear hb
  have Ix1 := Lib.hid (NdIn.of_own ho)
  have Lx1 := Lib.hid (Below.refl (World.heap w5).size w5)
  clear ho
  go_wp2_with fail
  refine (implSameMap_any (c := _) (h := (Ix0.out.to_below Lx0.out)) (hn := hn0) (c' := _) (h' := (Ix1.out.to_below Lx1.out)) (hn' := hn1)).mono ?_
  rintro e w6 ⟨rfl, hb⟩
  have hb := hb.toBelow (B := (World.heap w5).size)
  have La0 := Lib.hid (La0.out.trans (hb.mono La0.out.size))
  have La1 := Lib.hid (La1.out.trans (hb.mono La1.out.size))
  have Ls0 := Lib.hid (Ls0.out.trans (hb.mono Ls0.out.size))
  have Ls1 := Lib.hid (Ls1.out.trans (hb.mono Ls1.out.size))
  have Lx0 := Lib.hid (Lx0.out.trans (hb.mono Lx0.out.size))
  have Lx1 := Lib.hid (Lx1.out.trans (hb.mono Lx1.out.size))
  have LW := Lib.hid (LW.out.trans (hb.mono LW.out.size))
  clear hb
  go_wp2_with fail
  refine (toPairS_any _ _ _ x0 _ (Ia0.out.to_below La0.out) hn0).mono ?_
  rintro e w7 ⟨rfl, ho, hb⟩
  have La0 := Lib.hid (La0.out.trans (hb.mono La0.out.size))
  have La1 := Lib.hid (La1.out.trans (hb.mono La1.out.size))
  have Ls0 := Lib.hid (Ls0.out.trans (hb.mono Ls0.out.size))
  have Ls1 := Lib.hid (Ls1.out.trans (hb.mono Ls1.out.size))
  have Lx0 := Lib.hid (Lx0.out.trans (hb.mono Lx0.out.size))
  have Lx1 := Lib.hid (Lx1.out.trans (hb.mono Lx1.out.size))
  have LW := Lib.hid (LW.out.trans (hb.mono LW.out.size))
  clear hb
  have Iy0 := Lib.hid (NdIn.of_own ho)
  have Ly0 := Lib.hid (Below.refl (World.heap w7).size w7)
  clear ho
  go_wp2_with fail
  refine (eqPairS_any _ _ _ _ _ _ x0 x0 _ (Ix0.out.to_below Lx0.out) (Iy0.out.to_below Ly0.out) (by omega) (by omega)).mono ?_
  rintro e w8 ⟨rfl, hb⟩
  have La0 := Lib.hid (La0.out.trans (hb.mono La0.out.size))
  have La1 := Lib.hid (La1.out.trans (hb.mono La1.out.size))
  have Ls0 := Lib.hid (Ls0.out.trans (hb.mono Ls0.out.size))
  have Ls1 := Lib.hid (Ls1.out.trans (hb.mono Ls1.out.size))
  have Lx0 := Lib.hid (Lx0.out.trans (hb.mono Lx0.out.size))
  have Lx1 := Lib.hid (Lx1.out.trans (hb.mono Lx1.out.size))
  have Ly0 := Lib.hid (Ly0.out.trans (hb.mono Ly0.out.size))
  have LW := Lib.hid (LW.out.trans (hb.mono LW.out.size))
  clear hb
  go_wp2_with fail
  refine (toPairS_any _ _ _ x1 _ (Ia1.out.to_below La1.out) hn1).mono ?_
  rintro e w9 ⟨rfl, ho, hb⟩
  have La0 := Lib.hid (La0.out.trans (hb.mono La0.out.size))
  have La1 := Lib.hid (La1.out.trans (hb.mono La1.out.size))
  have Ls0 := Lib.hid (Ls0.out.trans (hb.mono Ls0.out.size))
  have Ls1 := Lib.hid (Ls1.out.trans (hb.mono Ls1.out.size))
  have Lx0 := Lib.hid (Lx0.out.trans (hb.mono Lx0.out.size))
  have Lx1 := Lib.hid (Lx1.out.trans (hb.mono Lx1.out.size))
  have Ly0 := Lib.hid (Ly0.out.trans (hb.mono Ly0.out.size))
  have LW := Lib.hid (LW.out.trans (hb.mono LW.out.size))
  clear hb
  have Iy1 := Lib.hid (NdIn.of_own ho)
  have Ly1 := Lib.hid (Below.refl (World.heap w9).size w9)
  clear ho
  go_wp2_with fail
  refine (eqPairS_any _ _ _ _ _ _ x1 x1 _ (Ix1.out.to_below Lx1.out) (Iy1.out.to_below Ly1.out) (by omega) (by omega)).mono ?_
  rintro e w10 ⟨rfl, hb⟩
  have La0 := Lib.hid (La0.out.trans (hb.mono La0.out.size))
  have La1 := Lib.hid (La1.out.trans (hb.mono La1.out.size))
  have Ls0 := Lib.hid (Ls0.out.trans (hb.mono Ls0.out.size))
  have Ls1 := Lib.hid (Ls1.out.trans (hb.mono Ls1.out.size))
  have Lx0 := Lib.hid (Lx0.out.trans (hb.mono Lx0.out.size))
  have Lx1 := Lib.hid (Lx1.out.trans (hb.mono Lx1.out.size))
  have Ly0 := Lib.hid (Ly0.out.trans (hb.mono Ly0.out.size))
  have Ly1 := Lib.hid (Ly1.out.trans (hb.mono Ly1.out.size))
  have LW := Lib.hid (LW.out.trans (hb.mono LW.out.size))
  clear hb
  go_wp2
  go_ret
  exact ⟨rfl, LW.out⟩

end Go.Proofs.Ytfchmdhlfhoogaa
