/- A draw of any label. -/
import Derived.Test.YtpdpkcadolcbmaaDrawX
import Derived.Test.YtpdpkcadolcbmaaDrawK
namespace Go.Proofs.Ytpdpkcadolcbmaa
open Go.RowKit
set_option linter.unusedVariables false

theorem l1PickInt_lit (w : World) (B : Nat) (k : Code) (c : CurX w B k) (C : Array Value) (t : TypeId) (xs : List Int) (n : Nat) (hC : C = (xs.map (Value.int .i64)).toArray) (hn : n = xs.length) (hpos : 0 < (n : Int)) (hn2 : (n : Int) ≤ 1000) :
    Calls Try.prog 58 #[.pointer (some ⟨B, 0, none⟩), .slice (some ⟨w.heap.size, 0, none⟩) n n] (w.alloc (.cells C t)) fun e w' => ∃ v : Int, e = .returned (.int .i64 v) ∧ CurX w' B k ∧ w.grownBy w' (some B) := by
  refine (l1PickInt_ex _ B w.heap.size k (c.alloc _) xs n hn hpos hn2 c.lt (by simp) (fun j hj => ?_)).mono fun e w' ⟨v, h1, h2, h3⟩ => ⟨v, h1, h2, Kit.grown_trans (Kit.grown_alloc w _ (some B)) h3⟩
  rw [World.cell?_alloc_at (hn := rfl), hC]
  simp [List.getD_eq_getElem?_getD, hj]
set_option maxHeartbeats 800000 in
theorem l2Any_ex (w : World) (B : Nat) (k : Code) (c : CurX w B k) :
    Calls Try.prog 38 #[.pointer (some ⟨B, 0, none⟩)] w fun e w' => ∃ v : Int, e = .returned (.int .i64 v) ∧ CurX w' B k ∧ w.grownBy w' (some B) := by
  have HC := Lib.hid c
  clear c
  go_enter Try.func38, Try.ntmps38
  go_wp2_with fail
  refine (l1PickInt_lit w B k HC.out _ _ [0, 1, 2, 3, 5, 6, -1] 7 rfl rfl (by decide) (by decide)).mono ?_
  rintro e w4 ⟨x, rfl, c, g⟩
  go_wp2
  go_ret
  exact ⟨x, rfl, c, g⟩

end Go.Proofs.Ytpdpkcadolcbmaa
