/- Contracts (KidRankI). -/
import Derived.Test.YtkpogjfaimpkdaaPst2
import Derived.Test.YtkpogjfaimpkdaaParI
import Derived.Test.YtkpogjfaimpkdaaKidI
import Derived.Test.YtkpogjfaimpkdaaSlI
namespace Go.Proofs.Ytkpogjfaimpkdaa
open Go.RowKit
set_option linter.unusedVariables false

theorem Tr.kidRank_alt (xs : Tr) (i : Int) : Tr.kidRank xs i = Zs.find (Tr.kidsI xs (Tr.parentOf xs i)) i 0 := by
  unfold Tr.kidRank
  by_cases h : Tr.parentOf xs i < 0
  · rw [if_pos h, Tr.kidsI_no (by rw [Bool.eq_false_iff]; intro e; have := (Tr.has_iff.1 e).2.1; omega)]
    rfl
  · rw [if_neg h]; rfl
set_option maxHeartbeats 1600000 in
set_option maxRecDepth 100000 in
theorem implKidRank_any (A : Option Addr) (n c : Nat) (xs : Tr) (i : Int) (w : World) (h : NdIn w w.heap.size A n xs) (hn : n ≤ 1048576) (hnc : n ≤ c) :
    Calls Try.prog 20 #[.slice A n c, .int .i64 i] w fun e w' => e = .returned (.int .i64 (Tr.kidRank xs i)) ∧ Below w.heap.size w w' := by
  have H := Lib.hid h
  clear h
  have hlen := Tr.kidsI_len xs (Tr.parentOf xs i)
  rw [H.out.1] at hlen
  have HF := Lib.hid (Tr.kidRank_alt xs i)
  go_enter Try.func20, Try.ntmps20
  go_wp2_with fail
  refine (implParentOf_any _ _ _ xs _ _ H.out hn hnc).mono ?_
  rintro e w1 ⟨rfl, hb⟩
  have HB := Lib.hid hb
  have H1 := Lib.hid (H.out.to_below hb)
  clear hb
  go_wp2_with fail
  refine (implKidsOf_any _ _ _ xs _ _ H1.out hn hnc).mono ?_
  rintro e w2 ⟨A2, c2, rfl, ho, hb⟩
  have HB := Lib.hid (HB.out.trans (hb.mono HB.out.size))
  have I2 := Lib.hid (IntIn.of_own ho)
  clear ho hb
  go_wp2_with fail
  refine (slIndex_any _ _ _ (Tr.kidsI xs (Tr.parentOf xs i)) _ _ I2.out (by omega)).mono ?_
  rintro e w3 ⟨rfl, rfl⟩
  go_wp2
  go_ret
  exact ⟨by rw [HF.out]; rfl, HB.out⟩

end Go.Proofs.Ytkpogjfaimpkdaa
