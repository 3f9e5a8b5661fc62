/- Contracts (TblI). -/
import Derived.Test.YtpdpkcadolcbmaaRows
import Derived.Test.YtpdpkcadolcbmaaDr
import Derived.Test.YtpdpkcadolcbmaaCo
import Derived.Outline
import Derived.Deep.QuietTactic
import Derived.BigQuiet
namespace Go.Proofs.Ytpdpkcadolcbmaa
open Go.RowKit
set_option linter.unusedVariables false

set_option maxHeartbeats 1600000 in
set_option maxRecDepth 100000 in
theorem tableOk_any (A : Option Addr) (n c : Nat) (zs : List Int) (m : Nat) (w : World) (h : IntIn w w.heap.size A n zs) (hn : n ≤ 1048576) (hm : m ≤ 1000) :
    Calls Try.prog 41 #[.slice A n c, .int .i64 m] w fun e w' => e = .returned (.bool (Zs.fit zs m)) ∧ w = w' := by
  have H := Lib.hid h
  have HL := Lib.hid h.1
  clear h
  by_cases hnm : n = m
  · subst hnm
    have q0 : ((n : Int) != (n : Int)) = false := by simp
    go_enter Try.func41, Try.ntmps41
    go_wp2
    go_loop [13] (fun iv => ∃ k : Nat, k ≤ n ∧ iv = .int .i64 k ∧ Zs.inTo zs k) (fun i => n - (intOf i).toNat)
    case atStart => exact ⟨0, Nat.zero_le _, rfl, fun j hj => absurd hj (Nat.not_lt_zero j)⟩
    case round =>
      obtain ⟨k, hk, rfl, hin⟩ := hrel
      have HI := Lib.hid hin
      clear hin
      by_cases hlt : k < n
      · obtain ⟨ad, rfl, _, c1⟩ := H.out.at_ hlt
        obtain ⟨z, hz⟩ : ∃ z, z = Zs.at zs k := ⟨_, rfl⟩
        rw [← hz] at c1
        have HZ := Lib.hid hz
        clear hz
        have k0 : (0 : Int) ≤ (k : Int) := by omega
        have k1 : (k : Int) < (n : Int) := by omega
        by_cases hq0 : z < 0
        · have q : decide (z < 0) = true := by simpa using hq0
          have Hf := Lib.hid (Zs.fit_not (zs := zs) (k := k) (n := n) (by rw [HL.out]; exact hlt) (by rw [← HZ.out]; omega))
          clear hq0
          go_wp2
          go_ret
          exact ⟨Kit.ret_bool Hf.out.symm, rfl⟩
        · by_cases hq1 : 1000 < z
          · have q : decide (z < 0) = false := by simpa using hq0
            have q' : decide (1000 < z) = true := by simpa using hq1
            have Hf := Lib.hid (Zs.fit_not (zs := zs) (k := k) (n := n) (by rw [HL.out]; exact hlt) (by rw [← HZ.out]; omega))
            clear hq0 hq1
            go_wp2
            go_ret
            exact ⟨Kit.ret_bool Hf.out.symm, rfl⟩
          · have q : decide (z < 0) = false := by simpa using hq0
            have q' : decide (1000 < z) = false := by simpa using hq1
            have Hq := Lib.hid (show 0 ≤ z ∧ z ≤ 1000 by omega)
            clear hq0 hq1
            go_wp2
            go_round
            case rel => exact ⟨k + 1, by omega, by go_num, fun j hj => by
              rcases Nat.lt_succ_iff_lt_or_eq.1 hj with h' | rfl
              · exact HI.out j h'
              · rw [← HZ.out]; exact Hq.out⟩
            case measure => simp [intOf]; omega
      · obtain rfl : k = n := by omega
        have Hf := Lib.hid (Zs.fit_all (zs := zs) (n := k) (by rw [HL.out]; exact HI.out))
        go_wp2
        go_ret
        exact ⟨Kit.ret_bool (by rw [Hf.out, HL.out]; simp), rfl⟩
  · have q0 : ((n : Int) != (m : Int)) = true := by simp; omega
    have Hf := Lib.hid (show Zs.fit zs m = false by rw [Bool.eq_false_iff]; intro e; have := (Zs.fit_iff.1 e).1; rw [HL.out] at this; exact hnm this)
    clear hnm
    go_enter Try.func41, Try.ntmps41
    go_wp2
    go_ret
    exact ⟨Kit.ret_bool Hf.out.symm, rfl⟩
set_option maxHeartbeats 400000 in
theorem relIndex_any (a b : Int) (w : World) (h0 : 0 ≤ a) (h1 : a < 1000) (h2 : 0 ≤ b) (h3 : b < 1000) :
    Calls Try.prog 40 #[.int .i64 a, .int .i64 b] w fun e w' => e = .returned (.int .i64 (a * 6 + b)) ∧ w = w' := by
  go_enter Try.func40, Try.ntmps40
  go_wp2
  go_ret
  exact ⟨rfl, rfl⟩

end Go.Proofs.Ytpdpkcadolcbmaa
