/- Contracts (DrawTII). -/
import Derived.Test.YtkpogjfaimpkdaaDrawTr
import Derived.Test.YtkpogjfaimpkdaaWhereD
namespace Go.Proofs.Ytkpogjfaimpkdaa
open Go.RowKit
set_option linter.unusedVariables false

def TwoD (w : World) (B : Nat) (k : Code) (e : Ending) (w' : World) : Prop :=
  ∃ (xs : Tr) (A : Option Addr) (n cp : Nat) (i j : Int), e = .returned (.tuple #[.slice A n cp, .int .i64 i, .int .i64 j]) ∧ NdAt w' w.heap.size A n xs ∧ n ≤ cp ∧ n ≤ 31 ∧ CurX w' B k ∧ w.grownBy w' (some B)
set_option maxHeartbeats 800000 in
theorem l6Two_ex (w : World) (B : Nat) (k : Code) (c : CurX w B k) :
    Calls Try.prog 46 #[.pointer (some ⟨B, 0, none⟩)] w (TwoD w B k) := by
  have HC := Lib.hid c
  have hBB := c.lt
  clear c
  go_enter Try.func46, Try.ntmps46
  go_wp2_with fail
  refine (l3Where_ex w B k HC.out).mono ?_
  rintro e w1 ⟨xs, A, n, cp, i, rfl, hn, hcp, hn31, c, g⟩
  have HC := Lib.hid c
  have HG := Lib.hid g
  have HN := Lib.hid hn
  clear c g hn
  go_wp2_with fail
  refine (l1Below_ex _ B k _ HC.out).mono ?_
  rintro e w2 ⟨v, rfl, hv, c, g⟩
  have HC := Lib.hid c
  have HG := Lib.hid (Kit.grown_trans HG.out g)
  have HN := Lib.hid (HN.out.cur hBB g)
  clear c g
  have hv2 : (v : Int) ≤ 32 := by omega
  clear hv
  go_wp2_with fail
  refine (l1Below_ex _ B k _ HC.out).mono ?_
  rintro e w3 ⟨u, rfl, hu, c, g⟩
  have HC := Lib.hid c
  have HG := Lib.hid (Kit.grown_trans HG.out g)
  have HN := Lib.hid (HN.out.cur hBB g)
  clear c g
  have hu2 : u < 8 := by omega
  clear hu
  have e2 := Kit.tdiv_nat u 7
  have e3 : (0 : Int) ≤ (u : Int) / 7 ∧ (u : Int) / 7 ≤ 1 := by omega
  go_wp2
  go_ret3
  exact ⟨xs, A, n, cp, i, _, rfl, HN.out, hcp, hn31, HC.out, HG.out⟩
set_option maxHeartbeats 400000 in
theorem drawUnder_ex (w : World) (k : Code) (hcode : CodeIn w w.heap.size k.a k.cs) (hlen : k.cs.length ≤ 1048576) :
    Calls Try.prog 14 #[.slice k.a k.cs.length k.cap] w (DrawII w) := by
  have HC := Lib.hid hcode
  clear hcode
  go_enter Try.func14, Try.ntmps14
  go_wp2_with fail
  refine (l1New_ex _ k HC.out hlen).mono ?_
  rintro e w1 ⟨rfl, c, g1⟩
  have HX := Lib.hid c
  have HG := Lib.hid g1
  clear c g1
  go_wp2_with fail
  refine (l6Two_ex _ _ k HX.out).mono ?_
  rintro e w2 ⟨xs, A, n, cp, i, j, rfl, hn, hcp, hn31, c, g2⟩
  have HT := Lib.hid (TreeAt.of_grown hn hcp hn31 HG.out g2)
  clear c g2 hn
  go_wp2
  go_ret3
  exact ⟨xs, A, n, cp, i, j, rfl, HT.out⟩

end Go.Proofs.Ytkpogjfaimpkdaa
