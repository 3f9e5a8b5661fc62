/- Texts of one claim laid into one file, in build order: ExBytes. -/
import Derived.Test.YtpdpkcadolcbmaaDoorMg7
import Derived.Deep.DeepHandedRow
/- Contracts (ExBytes). -/
namespace Go.Proofs.YtpdpkcadolcbmaaDoor
open Go.RowKit
set_option linter.unusedVariables false

set_option maxHeartbeats 400000 in
theorem bytes_walk (a : Option Addr) (n cap : Nat) (zs : List Int) (w : World) (hz : Kit.BytesIn w a n cap zs) (hL : laidMetH Tryd.prog Rows.fnBytesRow.laid w) :
    Calls Tryd.prog 3 #[.slice a n cap] w fun e w' => e = .returned (.bool true) ∧ Below w.heap.size w w' := by
  have hL' : laidMet Tryd.prog Rows.fnBytesRow.laid w := hL
  have ht : HasCodes w := hasCodes hL'
  clear hL hL'
  by_cases hb : (1048576 : Int) < n
  · clear hz ht
    go_enter Tryd.func3, Tryd.ntmps3
    go_wp2_with fail
    refine (big_big _ _ _ hb _).mono ?_
    rintro e w0 ⟨rfl, rfl⟩
    go_wp2
    go_ret
    exact ⟨rfl, Below.refl _ _⟩
  · obtain ⟨hl, hcode⟩ := code_of hz
    have h := bytes_any ⟨a, zs.take n, cap⟩ w hcode (by simp only; omega) ht
    simp only [hl] at h
    exact h

end Go.Proofs.YtpdpkcadolcbmaaDoor
