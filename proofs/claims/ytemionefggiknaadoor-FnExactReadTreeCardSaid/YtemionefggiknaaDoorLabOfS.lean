/- Contracts (LabOfS). -/
import Derived.Test.YtemionefggiknaaDoorLabNameS
import Derived.Test.YtemionefggiknaaDoorLabNot
namespace Go.Proofs.YtemionefggiknaaDoor
open Go.RowKit
set_option linter.unusedVariables false

set_option maxHeartbeats 400000 in
theorem specLabelOf_any (s : ByteArray) (w : World) :
    Calls Tryd.prog 22 #[.string s] w fun e w' => e = .returned (.int .i64 (Lab.of s)) ∧ Below w.heap.size w w' := by
  go_enter Tryd.func22, Tryd.ntmps22
  go_wp2
  go_loopw [3] (fun i wr => ∃ k : Nat, k ≤ 6 ∧ i = .int .i64 k ∧ Lab.NotBefore s k ∧ Below w.heap.size w wr) (fun i _ => 6 - (intOf i).toNat)
  case atStart => exact ⟨0, by omega, rfl, fun j hj => by omega, Below.refl _ _⟩
  case round =>
    obtain ⟨k, hk, rfl, hnot, hb⟩ := hrel
    by_cases hlt : k < 6
    · by_cases hs : Lab.name k = s
      · subst hs
        have hof := Lab.of_name k hlt
        clear hnot
        go_wp2_with (go_at_call 15; refine (specLabelName_any _ _).mono ?_; rintro e w1 ⟨rfl, hb1⟩)
        go_ret
        exact ⟨Kit.ret_int hof.symm, hb.trans (hb1.mono hb.size)⟩
      · have hs' : ((Lab.name k).toList == s.toList) = false := by
          rw [beq_eq_false_iff_ne]; exact fun e => hs (Kit.toList_inj e)
        have hn := hnot.next hs
        clear hnot
        go_wp2_with (go_at_call 15; refine (specLabelName_any _ _).mono ?_; rintro e w1 ⟨rfl, hb1⟩)
        go_roundw
        case rel => exact ⟨k + 1, by omega, by go_num, hn, hb.trans (hb1.mono hb.size)⟩
        case measure => simp [intOf]; omega
    · obtain rfl : k = 6 := by omega
      have hof := Lab.of_none hnot
      clear hnot
      go_wp2
      go_ret
      exact ⟨Kit.ret_int hof.symm, hb⟩

end Go.Proofs.YtemionefggiknaaDoor
