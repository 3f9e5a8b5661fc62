/- Contracts (DrawTr). -/
import Derived.Test.YtkpogjfaimpkdaaAnyD
namespace Go.Proofs.Ytkpogjfaimpkdaa
open Go.RowKit
set_option linter.unusedVariables false

/-- a tree that a draw has laid: it reads as xs -/
def TreeAt (w w' : World) (xs : Tr) (A : Option Addr) (n cp : Nat) : Prop := NdIn w' w'.heap.size A n xs ∧ n ≤ cp ∧ n ≤ 31 ∧ Below w.heap.size w w'
def DrawT (w : World) (e : Ending) (w' : World) : Prop := ∃ (xs : Tr) (A : Option Addr) (n cp : Nat), e = .returned (.slice A n cp) ∧ TreeAt w w' xs A n cp
def DrawI (w : World) (e : Ending) (w' : World) : Prop := ∃ (xs : Tr) (A : Option Addr) (n cp : Nat) (i : Int), e = .returned (.tuple #[.slice A n cp, .int .i64 i]) ∧ TreeAt w w' xs A n cp
def DrawII (w : World) (e : Ending) (w' : World) : Prop := ∃ (xs : Tr) (A : Option Addr) (n cp : Nat) (i j : Int), e = .returned (.tuple #[.slice A n cp, .int .i64 i, .int .i64 j]) ∧ TreeAt w w' xs A n cp
theorem TreeAt.of_grown {w w1 w2 : World} {xs : Tr} {A : Option Addr} {n cp : Nat} (h : NdAt w2 w1.heap.size A n xs) (hc : n ≤ cp) (h31 : n ≤ 31) (g1 : w.grownBy w1 none) (g2 : w1.grownBy w2 (some w.heap.size)) : TreeAt w w2 xs A n cp :=
  ⟨h.1, hc, h31, ((Below.refl w.heap.size w).grown g1 (Nat.le_refl _) (fun _ h => by cases h)).trans (Kit.below_of_grown g2 (fun k hk => by injection hk with hk; omega) g1.size)⟩
set_option maxHeartbeats 400000 in
theorem drawTree_ex (w : World) (k : Code) (hcode : CodeIn w w.heap.size k.a k.cs) (hlen : k.cs.length ≤ 1048576) :
    Calls Try.prog 26 #[.slice k.a k.cs.length k.cap] w (DrawT w) := by
  have HC := Lib.hid hcode
  clear hcode
  go_enter Try.func26, Try.ntmps26
  go_wp2_with fail
  refine (l1New_ex _ k HC.out hlen).mono ?_
  rintro e w1 ⟨rfl, c, g1⟩
  have HX := Lib.hid c
  have HG := Lib.hid g1
  clear c g1
  go_wp2_with fail
  refine (l3Any_ex _ _ k 12 (by decide) HX.out).mono ?_
  rintro e w2 ⟨xs, A, n, cp, rfl, hn, hcp, hn31, c, g2⟩
  have HT := Lib.hid (TreeAt.of_grown hn hcp hn31 HG.out g2)
  clear c g2 hn
  go_wp2
  go_ret
  exact ⟨xs, A, n, cp, rfl, HT.out⟩

end Go.Proofs.Ytkpogjfaimpkdaa
