/- Contracts (DrawTI). -/
import Derived.Test.YtkpogjfaimpkdaaDrawTr
import Derived.Test.YtkpogjfaimpkdaaWhereD
namespace Go.Proofs.Ytkpogjfaimpkdaa
open Go.RowKit
set_option linter.unusedVariables false

set_option maxHeartbeats 400000 in
theorem drawKidsOf_ex (w : World) (k : Code) (hcode : CodeIn w w.heap.size k.a k.cs) (hlen : k.cs.length ≤ 1048576) :
    Calls Try.prog 21 #[.slice k.a k.cs.length k.cap] w (DrawI w) := by
  have HC := Lib.hid hcode
  clear hcode
  go_enter Try.func21, Try.ntmps21
  go_wp2_with fail
  refine (l1New_ex _ k HC.out hlen).mono ?_
  rintro e w1 ⟨rfl, c, g1⟩
  have HX := Lib.hid c
  have HG := Lib.hid g1
  clear c g1
  go_wp2_with fail
  refine (l3Where_ex _ _ k HX.out).mono ?_
  rintro e w2 ⟨xs, A, n, cp, i, rfl, hn, hcp, hn31, c, g2⟩
  have HT := Lib.hid (TreeAt.of_grown hn hcp hn31 HG.out g2)
  clear c g2 hn
  go_wp2
  go_ret2
  exact ⟨xs, A, n, cp, i, rfl, HT.out⟩

end Go.Proofs.Ytkpogjfaimpkdaa
