/- Contracts (NumS). -/
import Derived.Test.YtpdpkcadolcbmaaRes2
import Derived.Test.YtpdpkcadolcbmaaReadVarS
namespace Go.Proofs.Ytpdpkcadolcbmaa
open Go.RowKit
set_option linter.unusedVariables false

set_option maxHeartbeats 800000 in
set_option maxRecDepth 100000 in
theorem l4Num_no (s : ByteArray) (p : Nat) (hp : p ≤ s.size) (hs : s.size ≤ maxLen) (hK : Num.rvK (Num.rest s p) = 0) (w : World) :
    Calls Try.prog 54 #[.string s, .int .i64 p] w fun e w' => e = .returned (.tuple #[.int .i64 0, .int .i64 (-1)]) ∧ Below w.heap.size w w' := by
  have hr : (Num.rest s p).size ≤ maxLen := by rw [Num.rest_size]; omega
  unfold maxLen at hs
  have e0 : ((Num.rvK (Num.rest s p) : Int) == 0) = true := by rw [hK]; rfl
  clear hK
  go_enter Try.func54, Try.ntmps54
  go_wp2_with fail
  refine (specReadVar_any (Num.rest s p) hr _).mono ?_
  rintro e w1 ⟨rfl, hb1⟩
  go_wp2
  go_ret2
  exact ⟨rfl, hb1⟩

set_option maxHeartbeats 800000 in
set_option maxRecDepth 100000 in
theorem l4Num_yes (s : ByteArray) (p q : Nat) (hp : p ≤ s.size) (hs : s.size ≤ maxLen) (hK : ¬ Num.rvK (Num.rest s p) = 0) (hq : q = p + Num.rvK (Num.rest s p)) (w : World) :
    Calls Try.prog 54 #[.string s, .int .i64 p] w fun e w' => e = .returned (.tuple #[.int .i64 (Num.rvN (Num.rest s p)), .int .i64 q]) ∧ Below w.heap.size w w' := by
  have hr : (Num.rest s p).size ≤ maxLen := by rw [Num.rest_size]; omega
  unfold maxLen at hs
  have e0 : ((Num.rvK (Num.rest s p) : Int) == 0) = false := beq_eq_false_iff_ne.2 (by omega)
  have h7 := (Num.rvK_le (Num.rest s p)).1
  have h8 := (Num.rvK_le (Num.rest s p)).2
  rw [Num.rest_size] at h8
  have a1 : IntKind.i64.wrap ((p : Int) + (Num.rvK (Num.rest s p) : Int)) = (q : Int) := by rw [Kit.w64 (by omega) (by omega)]; omega
  clear hK hq
  go_enter Try.func54, Try.ntmps54
  go_wp2_with fail
  refine (specReadVar_any (Num.rest s p) hr _).mono ?_
  rintro e w1 ⟨rfl, hb1⟩
  go_wp2
  go_ret2
  exact ⟨rfl, hb1⟩

end Go.Proofs.Ytpdpkcadolcbmaa
