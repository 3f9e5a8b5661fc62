/- Contracts (L7In). -/
import Derived.Test.YtpdpkcadolcbmaaCo
import Derived.Test.YtpdpkcadolcbmaaInS
import Derived.Outline
namespace Go.Proofs.Ytpdpkcadolcbmaa
open Go.RowKit
set_option linter.unusedVariables false

set_option maxHeartbeats 1600000 in
set_option maxRecDepth 100000 in
theorem l7In_any (A : Option Addr) (n c : Nat) (zs : List Int) (m : Nat) (w : World) (h : IntIn w w.heap.size A n zs) (hn : n ≤ 1048576) (hm : m ≤ 1000) :
    Calls Try.prog 42 #[.slice A n c, .int .i64 m] w fun e w' => e = .returned (.bool (Zs.fit zs m)) ∧ w = w' := by
  have H := Lib.hid h
  have HL := Lib.hid h.1
  clear h
  go_enter Try.func42, Try.ntmps42
  go_wp2
  go_loop [5] (fun iv => ∃ k : Nat, k ≤ n ∧ iv = .int .i64 k ∧ Zs.inTo zs k) (fun i => n - (intOf i).toNat)
  case atStart => exact ⟨0, Nat.zero_le _, rfl, fun j hj => absurd hj (Nat.not_lt_zero j)⟩
  case round =>
    obtain ⟨k, hk, rfl, hin⟩ := hrel
    have HI := Lib.hid hin
    clear hin
    by_cases hlt : k < n
    · obtain ⟨ad, rfl, _, c1⟩ := H.out.at_ hlt
      obtain ⟨z, hz⟩ : ∃ z, z = Zs.at zs k := ⟨_, rfl⟩
      rw [← hz] at c1
      have HZ := Lib.hid hz
      clear hz
      have k0 : (0 : Int) ≤ (k : Int) := by omega
      have k1 : (k : Int) < (n : Int) := by omega
      by_cases hq : 0 ≤ z ∧ z ≤ 1000
      · have q : decide (0 ≤ z ∧ z ≤ 1000) = true := by simpa using hq
        have Hq := Lib.hid hq
        clear hq
        go_wp2_with fail
        refine (l1In_any _ _ _ _).mono ?_
        rintro e w1 ⟨rfl, rfl⟩
        rw [q]
        go_wp2
        go_round
        case rel => exact ⟨k + 1, by omega, by go_num, fun j hj => by
          rcases Nat.lt_succ_iff_lt_or_eq.1 hj with h' | rfl
          · exact HI.out j h'
          · rw [← HZ.out]; exact Hq.out⟩
        case measure => simp [intOf]; omega
      · have q : decide (0 ≤ z ∧ z ≤ 1000) = false := by simpa using hq
        have Hf := Lib.hid (Zs.fit_not (zs := zs) (k := k) (n := m) (by rw [HL.out]; exact hlt) (by rw [← HZ.out]; exact hq))
        clear hq
        go_wp2_with fail
        refine (l1In_any _ _ _ _).mono ?_
        rintro e w1 ⟨rfl, rfl⟩
        rw [q]
        go_wp2
        go_ret
        exact ⟨Kit.ret_bool Hf.out.symm, rfl⟩
    · obtain rfl : k = n := by omega
      have Hf := Lib.hid (Zs.fit_all (zs := zs) (n := m) (by rw [HL.out]; exact HI.out))
      go_wp2
      go_ret
      exact ⟨Kit.ret_bool (by rw [Hf.out, HL.out, Bool.eq_iff_iff]; simp; omega), rfl⟩

end Go.Proofs.Ytpdpkcadolcbmaa
