/- Contracts (PrM). -/
import Derived.Test.YtlndaflhlkbedaaRows
import Derived.Test.YtlndaflhlkbedaaMem
import Derived.Outline
namespace Go.Proofs.Ytlndaflhlkbedaa
open Go.RowKit
set_option linter.unusedVariables false

set_option maxHeartbeats 800000 in
set_option maxRecDepth 100000 in
theorem markPairS_any (A : Option Addr) (n c base : Nat) (e0 : TypeId) (k0 : Int) (xs : Tr) (w : World) (h : w.ownsRow base e0 2 (.slice A n c) n (Tr.cells xs)) (hn : n ≤ 1099511627776) (h0 : 0 ≤ k0) (h1 : k0 ≤ 1073741824) :
    Calls Try.prog 59 #[.slice A n c, .int .i64 k0] w fun e w' => e = .returned (.int .i64 (k0 + 2 * n)) ∧ w'.ownsRow base e0 2 (.slice A n c) n (Tr.cells (Tr.marks k0 n)) ∧ w.grownBy w' (Value.ownBlock (.slice A n c)) := by
  have H := Lib.hid h
  have HL := Lib.hid (show xs.length = n by have := h.1; rw [Tr.cells_length] at this; omega)
  clear h
  go_enter Try.func59, Try.ntmps59
  go_wp2
  go_loopw [5, 1] (fun iv kv wr => ∃ j : Nat, j ≤ n ∧ iv = .int .i64 j ∧ kv = .int .i64 (k0 + 2 * j) ∧ wr.ownsRow base e0 2 (.slice A n c) n (Tr.cells (Tr.marked k0 xs j)) ∧ w.grownBy wr (Value.ownBlock (.slice A n c))) (fun i _ _ => n - (intOf i).toNat)
  case atStart => exact ⟨0, by omega, rfl, by simp, by simpa [Tr.marked, Tr.marks] using H.out, World.grownBy.refl _ _⟩
  case round =>
    obtain ⟨j, hj, rfl, rfl, hown, hgr⟩ := hrel
    by_cases hlt : j < n
    · obtain ⟨g, rfl, hg⟩ := own_form hown (by omega)
      have Ho := Lib.hid hown
      have Hg := Lib.hid hgr
      have c0 := own_even hown (k := j) (by rw [Tr.marked_length _ _ _ (by rw [HL.out]; omega), HL.out]; exact hlt)
      have c1 := own_odd hown (k := j) (by rw [Tr.marked_length _ _ _ (by rw [HL.out]; omega), HL.out]; exact hlt)
      have f0 := hown.frozenAt (j * 2)
      have f1 := hown.frozenAt (j * 2 + 1)
      clear hown hgr hg
      go_wp2
      go_roundw
      case rel =>
        refine ⟨j + 1, by omega, by go_num, by go_num, ?_, grown_tr Hg.out (grown_tr (Ho.out.stored _ _).2 ((Ho.out.stored _ _).1.stored _ _).2)⟩
        have := own_set Ho.out j (k0 + 2 * (j : Nat)) (k0 + 2 * (j : Nat) + 1)
        rw [Tr.marked_set _ _ _ (by rw [HL.out]; exact hlt)] at this
        exact this
      case measure => simp [intOf]; omega
    · obtain rfl : j = n := by omega
      have Ho := Lib.hid hown
      have Hg := Lib.hid hgr
      clear hown hgr
      go_wp2
      go_ret
      refine ⟨rfl, ?_, Hg.out⟩
      have := Ho.out
      rw [← HL.out, Tr.marked_all, HL.out] at this
      exact this

end Go.Proofs.Ytlndaflhlkbedaa
