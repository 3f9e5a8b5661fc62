/- Contracts (ExTreeOk). -/
import Derived.Test.YtgokllaeggdndaaTreeOkS
import Derived.Test.YtgokllaeggdndaaTreeOkI
import Derived.Test.YtgokllaeggdndaaNdTo
import Derived.Test.YtgokllaeggdndaaNdEq
namespace Go.Proofs.Ytgokllaeggdndaa
open Go.RowKit
set_option linter.unusedVariables false

set_option maxHeartbeats 800000 in
theorem exactTreeOk_walk (A : Option Addr) (n c : Nat) (xs : Tr) (hn0 : n ≤ maxLen) (_hwf : Tr.wf xs) (w : World) (h : NdIn w w.heap.size A n xs) :
    Calls Try.prog 3 #[.slice A n c] w fun e w' => e = .returned (.bool true) ∧ Below w.heap.size w w' := by
  clear _hwf
  have H := Lib.hid h
  clear h
  unfold maxLen at hn0
  by_cases hn : n ≤ 1048576
  · go_enter Try.func3, Try.ntmps3
    go_wp2_with fail
    refine (szNodeS_any _ _ _ _ _ hn0 (by omega) (by omega)).mono ?_
    rintro e w' ⟨rfl, rfl⟩
    rw [if_pos (by omega)]
    go_wp2_with fail
    refine (toNodeS_any _ _ _ xs _ H.out hn).mono ?_
    rintro e w1 ⟨rfl, ho1, hb1⟩
    have I1 := Lib.hid (NdIn.of_own ho1)
    have B1 := Lib.hid hb1
    clear ho1 hb1
    go_wp2_with fail
    refine (specTreeOk_any _ _ _ xs _ I1.out hn).mono ?_
    rintro e w2 ⟨rfl, hd2⟩
    have B2 := Lib.hid (Drawn.below B1.out hd2)
    clear hd2 I1
    go_wp2_with fail
    refine (toNodeS_any _ _ _ xs _ ((H.out.below B2.out).more B2.out.size) hn).mono ?_
    rintro e w3 ⟨rfl, ho3, hb3⟩
    have I3 := Lib.hid (NdIn.of_own ho3)
    have B3 := Lib.hid (B2.out.trans (hb3.mono B2.out.size))
    clear ho3 hb3
    go_wp2_with fail
    refine (implTreeOk_any _ _ _ xs _ I3.out hn (Nat.le_refl _)).mono ?_
    rintro e w4 ⟨rfl, hb4⟩
    have I4 := Lib.hid ((I3.out.below hb4).more hb4.size)
    have B4 := Lib.hid (B3.out.trans (hb4.mono B3.out.size))
    clear hb4
    go_wp2_with fail
    refine (toNodeS_any _ _ _ xs _ ((H.out.below B4.out).more B4.out.size) hn).mono ?_
    rintro e w5 ⟨rfl, ho5, hb5⟩
    have I5 := Lib.hid (NdIn.of_own ho5)
    have J5 := Lib.hid ((I4.out.below hb5).more hb5.size)
    have B5 := Lib.hid (B4.out.trans (hb5.mono B4.out.size))
    clear ho5 hb5
    go_wp2_with fail
    refine (eqNodeS_any _ _ _ _ _ _ xs xs _ J5.out I5.out hn hn).mono ?_
    rintro e w6 ⟨rfl, hb6⟩
    have B6 := Lib.hid (B5.out.trans (hb6.mono B5.out.size))
    clear hb6
    go_wp2
    go_ret
    exact ⟨rfl, B6.out⟩
  · go_enter Try.func3, Try.ntmps3
    go_wp2_with fail
    refine (szNodeS_any _ _ _ _ _ hn0 (by omega) (by omega)).mono ?_
    rintro e w' ⟨rfl, rfl⟩
    rw [if_neg (by omega)]
    go_wp2
    go_ret
    exact ⟨rfl, Below.refl _ _⟩

end Go.Proofs.Ytgokllaeggdndaa
