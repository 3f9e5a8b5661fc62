/- Contracts (ExReadTree). -/
import Derived.Test.YtemionefggiknaaDoorRdS
import Derived.Test.YtemionefggiknaaDoorRdI
import Derived.Test.YtemionefggiknaaDoorNdTo
import Derived.Test.YtemionefggiknaaDoorNdEq
import Derived.Test.YtemionefggiknaaDoorNdH
import Derived.Test.YtemionefggiknaaDoorRes3
import Derived.Deep.DeepHandedRow
namespace Go.Proofs.YtemionefggiknaaDoor
open Go.RowKit
set_option linter.unusedVariables false

/-- the answer is a row of nodes of the call's own, and a yes or no, both named -/
def OwnNodesD (E : TypeId) (X : Tr) (Z : Bool) (w : World) (e : Ending) (w' : World) : Prop :=
  ∃ A c, e = .returned (.tuple #[.slice A X.length c, .bool Z]) ∧ w'.ownsRow w.heap.size E 2 (.slice A X.length c) X.length (Tr.cells X) ∧ Below w.heap.size w w'
theorem specReadTree_c (s : ByteArray) (hs : s.size ≤ 1048576) (X : Tr) (Z : Bool) (h : Rd.read s = (X, Z)) (w : World) : Calls Tryd.prog 10 #[.string s] w (OwnNodesD 35 X Z w) := by
  have := specReadTree_any s hs w
  rw [h] at this
  exact this
theorem implReadTree_c (s : ByteArray) (hs : s.size ≤ 1048576) (X : Tr) (Z : Bool) (h : Rd.read s = (X, Z)) (w : World) (ht : HasNames w) : Calls Tryd.prog 11 #[.string s] w (OwnNodesD 35 X Z w) := by
  have := implReadTree_any s hs w ht
  rw [h] at this
  exact this

set_option maxHeartbeats 800000 in
set_option maxRecDepth 100000 in
theorem exactReadTree_walk (s : ByteArray) (hs : s.size ≤ maxLen) (w : World) (hL : laidMetH Tryd.prog Rows.fnExactReadTreeRow.laid w) :
    Calls Tryd.prog 4 #[.string s] w fun e w' => e = .returned (.bool true) ∧ Below w.heap.size w w' := by
  have hL' : laidMet Tryd.prog Rows.fnExactReadTreeRow.laid w := hL
  have HT := Lib.hid (hasNames hL')
  clear hL hL'
  unfold maxLen at hs
  by_cases hbig : (1048576 : Int) < s.size
  · go_enter Tryd.func4, Tryd.ntmps4
    go_wp2
    go_ret
    exact ⟨rfl, Below.refl _ _⟩
  · have Hs := Lib.hid (show s.size ≤ 1048576 by omega)
    obtain ⟨X, Z, hXZ, HN⟩ : ∃ X Z, Rd.read s = (X, Z) ∧ X.length ≤ 1048576 := ⟨_, _, rfl, Nat.le_trans (Rd.read_len s) Hs.out⟩
    have HXZ := Lib.hid hXZ
    clear hXZ
    go_enter Tryd.func4, Tryd.ntmps4
    have LW := Lib.hid (Below.refl (World.heap w).size w)
    go_wp2_with fail
    refine (specReadTree_c s Hs.out X Z HXZ.out _).mono ?_
    rintro e w1 ⟨Aw0, cw0, rfl, ho, hb⟩
    have LW := Lib.hid (LW.out.trans (hb.mono LW.out.size))
    clear hb
    have Iw0 := Lib.hid (NdIn.of_own ho)
    have Lw0 := Lib.hid (Below.refl (World.heap w1).size w1)
    clear ho
    have Mw0_g0 := Lw0.out.size
    have MW_g0 := LW.out.size
    go_wp2_with fail
    refine (implReadTree_c s Hs.out X Z HXZ.out _ (HT.out.below LW.out)).mono ?_
    rintro e w2 ⟨Ag0, cg0, rfl, ho, hb⟩
    have Lw0 := Lib.hid (Lw0.out.trans (hb.mono Lw0.out.size))
    have LW := Lib.hid (LW.out.trans (hb.mono LW.out.size))
    clear hb
    have Og0 := Lib.hid ho
    clear ho
    go_wp2_with fail
    refine (eqNodeS_any _ _ _ _ _ _ X X _ (NdIn.of_own Og0.out) (NdIn.to_below Iw0.out Lw0.out) HN HN).mono ?_
    rintro e w3 ⟨rfl, hb⟩
    have Lw0 := Lib.hid (Lw0.out.trans (hb.mono Lw0.out.size))
    have Og0 := Lib.hid (own_below Og0.out hb)
    have LW := Lib.hid (LW.out.trans (hb.mono LW.out.size))
    clear hb
    go_wp2_with fail
    refine (markNodeS_any _ _ _ _ _ 1 (X) _ Og0.out HN (by omega) (by omega)).mono ?_
    rintro e w4 ⟨rfl, ho, hg⟩
    have Lw0 := Lib.hid (Lw0.out.grown hg Lw0.out.size (fun k hk => Nat.le_trans Mw0_g0 (Og0.out.lt k hk).1))
    have LW := Lib.hid (LW.out.grown hg LW.out.size (fun k hk => Nat.le_trans MW_g0 (Og0.out.lt k hk).1))
    have Og0 := Lib.hid ho
    clear ho hg
    go_wp2_with fail
    refine (heldNodeS_any _ _ _ _ _ 1 _ Og0.out HN (by omega) (by omega)).mono ?_
    rintro e w' ⟨rfl, rfl⟩
    go_wp2_with fail
    refine (implReadTree_c s Hs.out X Z HXZ.out _ (HT.out.below LW.out)).mono ?_
    rintro e w5 ⟨Ah0, ch0, rfl, ho, hb⟩
    have Lw0 := Lib.hid (Lw0.out.trans (hb.mono Lw0.out.size))
    have Og0 := Lib.hid (own_below Og0.out hb)
    have LW := Lib.hid (LW.out.trans (hb.mono LW.out.size))
    clear hb
    have Ih0 := Lib.hid (NdIn.of_own ho)
    have Lh0 := Lib.hid (Below.refl (World.heap w5).size w5)
    clear ho
    go_wp2_with fail
    refine (eqNodeS_any _ _ _ _ _ _ X X _ (NdIn.to_below Ih0.out Lh0.out) (NdIn.to_below Iw0.out Lw0.out) HN HN).mono ?_
    rintro e w6 ⟨rfl, hb⟩
    have Lw0 := Lib.hid (Lw0.out.trans (hb.mono Lw0.out.size))
    have Lh0 := Lib.hid (Lh0.out.trans (hb.mono Lh0.out.size))
    have Og0 := Lib.hid (own_below Og0.out hb)
    have LW := Lib.hid (LW.out.trans (hb.mono LW.out.size))
    clear hb
    go_wp2_with fail
    refine (heldNodeS_any _ _ _ _ _ 1 _ Og0.out HN (by omega) (by omega)).mono ?_
    rintro e w' ⟨rfl, rfl⟩
    go_wp2
    go_ret
    exact ⟨rfl, LW.out⟩

end Go.Proofs.YtemionefggiknaaDoor
