/- Contracts (DepI). -/
import Derived.Test.YtfchmdhlfhoogaaCod
import Derived.Test.YtfchmdhlfhoogaaBase
import Derived.BigQuiet
import Derived.Outline
namespace Go.Proofs.Ytfchmdhlfhoogaa
open Go.RowKit
set_option linter.unusedVariables false

set_option maxHeartbeats 800000 in
set_option maxRecDepth 100000 in
theorem depthFits_any (A : Option Addr) (n c : Nat) (xs : Tr) (d : Int) (w : World) (h : NdIn w w.heap.size A n xs) (hn : n ≤ 1048576) (hb : 0 < n → 0 ≤ Tr.d xs (n - 1) ∧ Tr.d xs (n - 1) ≤ 12) :
    Calls Try.prog 130 #[.slice A n c, .int .i64 d] w fun e w' => e = .returned (.bool (Tr.fits xs n d)) ∧ w = w' := by
  have H := Lib.hid h
  clear h
  rcases Nat.eq_zero_or_pos n with rfl | h0
  · have Hf := Lib.hid (show Tr.fits xs 0 d = (d == 0) by rw [Tr.fits, if_pos rfl, Bool.eq_iff_iff]; simp)
    clear hb
    go_enter Try.func130, Try.ntmps130
    go_wp2
    go_ret
    exact ⟨Kit.ret_bool Hf.out.symm, rfl⟩
  · obtain ⟨ad, rfl, _, hl', hd'⟩ := H.out.at_ (k := n - 1) (by omega)
    have hbd := hb h0
    have e0 : ((n : Int) == 0) = false := beq_eq_false_iff_ne.2 (by omega)
    have a1 : IntKind.i64.wrap ((n : Int) - 1) = (n : Int) - 1 := Kit.w64 (by omega) (by omega)
    have a2 : ((n : Int) - 1).toNat = n - 1 := by omega
    have a3 : (1 : Int) ≤ (n : Int) := by omega
    have a4 : (n : Int) - 1 < (n : Int) := by omega
    have a5 : IntKind.i64.wrap (Tr.d xs (n - 1) + 1) = Tr.d xs (n - 1) + 1 := Kit.w64 (by omega) (by omega)
    have Hf := Lib.hid (show Tr.fits xs n d = (decide (1 ≤ d) && decide (d ≤ Tr.d xs (n - 1) + 1)) by rw [Tr.fits, if_neg (by omega), Bool.eq_iff_iff]; simp)
    clear hb hbd
    by_cases h1 : 1 ≤ d
    · have e1 : decide (1 ≤ d) = true := by simpa using h1
      rw [e1] at Hf
      go_enter Try.func130, Try.ntmps130
      go_wp2
      go_ret
      exact ⟨Kit.ret_bool (by rw [Hf.out]; simp), rfl⟩
    · have e1 : decide (1 ≤ d) = false := by simpa using h1
      rw [e1] at Hf
      go_enter Try.func130, Try.ntmps130
      go_wp2
      go_ret
      exact ⟨Kit.ret_bool (by rw [Hf.out]; simp), rfl⟩

end Go.Proofs.Ytfchmdhlfhoogaa
