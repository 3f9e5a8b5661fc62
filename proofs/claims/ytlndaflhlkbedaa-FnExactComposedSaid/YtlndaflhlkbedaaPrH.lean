/- Contracts (PrH). -/
import Derived.Test.YtlndaflhlkbedaaRows
import Derived.Test.YtlndaflhlkbedaaMem
import Derived.Test.YtlndaflhlkbedaaPrM
import Derived.Outline
namespace Go.Proofs.Ytlndaflhlkbedaa
open Go.RowKit
set_option linter.unusedVariables false

set_option maxHeartbeats 800000 in
set_option maxRecDepth 100000 in
theorem heldPairS_any (A : Option Addr) (n c base : Nat) (e0 : TypeId) (k0 : Int) (w : World) (h : w.ownsRow base e0 2 (.slice A n c) n (Tr.cells (Tr.marks k0 n))) (hn : n ≤ 1099511627776) (h0 : 0 ≤ k0) (h1 : k0 ≤ 1073741824) :
    Calls Try.prog 60 #[.slice A n c, .int .i64 k0] w fun e w' => e = .returned (.int .i64 (k0 + 2 * n)) ∧ w = w' := by
  have H := Lib.hid h
  clear h
  go_enter Try.func60, Try.ntmps60
  go_wp2
  go_loop [5, 1] (fun iv kv => ∃ j : Nat, j ≤ n ∧ iv = .int .i64 j ∧ kv = .int .i64 (k0 + 2 * j)) (fun i _ => n - (intOf i).toNat)
  case atStart => exact ⟨0, by omega, rfl, by simp⟩
  case round =>
    obtain ⟨j, hj, rfl, rfl⟩ := hrel
    by_cases hlt : j < n
    · obtain ⟨g, rfl, hg⟩ := own_form H.out (by omega)
      have c0 := own_even H.out (k := j) (by rw [Tr.marks_length]; exact hlt)
      have c1 := own_odd H.out (k := j) (by rw [Tr.marks_length]; exact hlt)
      rw [Tr.marks_l _ _ _ hlt] at c0
      rw [Tr.marks_d _ _ _ hlt] at c1
      clear hg
      go_wp2
      go_round
      case rel => exact ⟨j + 1, by omega, by go_num, by go_num⟩
      case measure => simp [intOf]; omega
    · obtain rfl : j = n := by omega
      go_wp2
      go_ret
      exact ⟨rfl, rfl⟩


end Go.Proofs.Ytlndaflhlkbedaa
