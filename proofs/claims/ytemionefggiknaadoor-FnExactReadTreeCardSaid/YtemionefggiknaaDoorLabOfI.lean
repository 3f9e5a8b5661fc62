/- Contracts (LabOfI). -/
import Derived.Test.YtemionefggiknaaDoorNames
import Derived.Test.YtemionefggiknaaDoorLabNot
namespace Go.Proofs.YtemionefggiknaaDoor
open Go.RowKit
set_option linter.unusedVariables false

set_option maxHeartbeats 400000 in
theorem implLabelOf_any (s : ByteArray) (w : World) (ht : HasNames w) :
    Calls Tryd.prog 40 #[.string s] w fun e w' => e = .returned (.int .i64 (Lab.of s)) ∧ w = w' := by
  have c0 := ht.cell 0 (by omega)
  have c1 := ht.cell 1 (by omega)
  have c2 := ht.cell 2 (by omega)
  have c3 := ht.cell 3 (by omega)
  have c4 := ht.cell 4 (by omega)
  have c5 := ht.cell 5 (by omega)
  clear ht
  have i0 : ∀ w : World, (Instr.index 48 (.agg #[.string (Lab.name 0), .string (Lab.name 1), .string (Lab.name 2), .string (Lab.name 3), .string (Lab.name 4), .string (Lab.name 5)]) (.int .i64 0)).run Tryd.prog w = .ok (.string (Lab.name 0)) w := fun _ => by kernel_rfl
  have i1 : ∀ w : World, (Instr.index 48 (.agg #[.string (Lab.name 0), .string (Lab.name 1), .string (Lab.name 2), .string (Lab.name 3), .string (Lab.name 4), .string (Lab.name 5)]) (.int .i64 1)).run Tryd.prog w = .ok (.string (Lab.name 1)) w := fun _ => by kernel_rfl
  have i2 : ∀ w : World, (Instr.index 48 (.agg #[.string (Lab.name 0), .string (Lab.name 1), .string (Lab.name 2), .string (Lab.name 3), .string (Lab.name 4), .string (Lab.name 5)]) (.int .i64 2)).run Tryd.prog w = .ok (.string (Lab.name 2)) w := fun _ => by kernel_rfl
  have i3 : ∀ w : World, (Instr.index 48 (.agg #[.string (Lab.name 0), .string (Lab.name 1), .string (Lab.name 2), .string (Lab.name 3), .string (Lab.name 4), .string (Lab.name 5)]) (.int .i64 3)).run Tryd.prog w = .ok (.string (Lab.name 3)) w := fun _ => by kernel_rfl
  have i4 : ∀ w : World, (Instr.index 48 (.agg #[.string (Lab.name 0), .string (Lab.name 1), .string (Lab.name 2), .string (Lab.name 3), .string (Lab.name 4), .string (Lab.name 5)]) (.int .i64 4)).run Tryd.prog w = .ok (.string (Lab.name 4)) w := fun _ => by kernel_rfl
  have i5 : ∀ w : World, (Instr.index 48 (.agg #[.string (Lab.name 0), .string (Lab.name 1), .string (Lab.name 2), .string (Lab.name 3), .string (Lab.name 4), .string (Lab.name 5)]) (.int .i64 5)).run Tryd.prog w = .ok (.string (Lab.name 5)) w := fun _ => by kernel_rfl
  go_enter Tryd.func40, Tryd.ntmps40
  go_wp2
  go_loop [6] (fun i => ∃ k : Nat, k ≤ 6 ∧ i = .int .i64 k ∧ Lab.NotBefore s k) (fun i => 6 - (intOf i).toNat)
  case atStart => exact ⟨0, by omega, rfl, fun j hj => by omega⟩
  case round =>
    obtain ⟨k, hk, rfl, hnot⟩ := hrel
    clear c0 c1 c2 c3 c4 c5
    have hc : k = 6 ∨ k = 0 ∨ k = 1 ∨ k = 2 ∨ k = 3 ∨ k = 4 ∨ k = 5 := by omega
    rcases hc with rfl | hc
    · have hof := Lab.of_none hnot
      clear hnot
      go_wp2
      go_ret
      exact ⟨rfl, rfl⟩
    · by_cases hs : Lab.name k = s
      · subst hs
        have hof := Lab.of_name k (by omega)
        clear hnot
        rcases hc with rfl | rfl | rfl | rfl | rfl | rfl
        all_goals
          go_wp2
          go_ret
          exact ⟨Kit.ret_int hof.symm, rfl⟩
      · have hs' : ((Lab.name k).toList == s.toList) = false := by
          rw [beq_eq_false_iff_ne]; exact fun e => hs (Kit.toList_inj e)
        have hn := hnot.next hs
        clear hnot hs
        rcases hc with rfl | rfl | rfl | rfl | rfl | rfl
        · have hs'' : ((Lab.name 0).toList == s.toList) = false := hs'
          clear hs'
          go_wp2
          go_round
          case rel => exact ⟨1, by omega, by go_num, hn⟩
          case measure => simp [intOf]
        · have hs'' : ((Lab.name 1).toList == s.toList) = false := hs'
          clear hs'
          go_wp2
          go_round
          case rel => exact ⟨2, by omega, by go_num, hn⟩
          case measure => simp [intOf]
        · have hs'' : ((Lab.name 2).toList == s.toList) = false := hs'
          clear hs'
          go_wp2
          go_round
          case rel => exact ⟨3, by omega, by go_num, hn⟩
          case measure => simp [intOf]
        · have hs'' : ((Lab.name 3).toList == s.toList) = false := hs'
          clear hs'
          go_wp2
          go_round
          case rel => exact ⟨4, by omega, by go_num, hn⟩
          case measure => simp [intOf]
        · have hs'' : ((Lab.name 4).toList == s.toList) = false := hs'
          clear hs'
          go_wp2
          go_round
          case rel => exact ⟨5, by omega, by go_num, hn⟩
          case measure => simp [intOf]
        · have hs'' : ((Lab.name 5).toList == s.toList) = false := hs'
          clear hs'
          go_wp2
          go_round
          case rel => exact ⟨6, by omega, by go_num, hn⟩
          case measure => simp [intOf]

end Go.Proofs.YtemionefggiknaaDoor
