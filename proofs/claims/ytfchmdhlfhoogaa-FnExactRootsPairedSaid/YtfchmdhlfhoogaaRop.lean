/- Contracts (Rop). -/
import Derived.Test.YtfchmdhlfhoogaaTur
import Derived.Test.YtfchmdhlfhoogaaDr
import Derived.Test.YtfchmdhlfhoogaaRows
import Derived.Outline
namespace Go.Proofs.Ytfchmdhlfhoogaa
open Go.RowKit
set_option linter.unusedVariables false

set_option maxHeartbeats 800000 in
set_option maxRecDepth 100000 in
theorem specRootsPaired_any (A : Option Addr) (n c : Nat) (xs : Tr) (w : World) (h : NdIn w w.heap.size A n xs) (hn : n ≤ 1048576) :
    Calls Try.prog 53 #[.slice A n c] w fun e w' => e = .returned (.bool (Tr.rooted xs)) ∧ Drawn w w' := by
  have H := Lib.hid h
  have HL := Lib.hid h.1
  clear h
  by_cases hlt : 0 < n
  · obtain ⟨ad, rfl, hb, hl, hd⟩ := H.out.at_ hlt
    rw [Nat.zero_mul, Addr.add_zero'] at hl
    rw [Nat.zero_mul, Addr.add_zero'] at hd
    have hg : decide (0 < n) = true := decide_eq_true hlt
    by_cases h1 : Tr.l xs 0 = 0
    · by_cases h2 : Tr.d xs 0 = 0
      · have hf := Lib.hid (show Tr.rooted xs = true by unfold Tr.rooted; rw [HL.out]; simp [hlt, h1, h2])
        have q1 : (Tr.l xs 0 == 0) = true := by simpa using h1
        have q2 : (Tr.d xs 0 == 0) = true := by simpa using h2
        clear h1 h2
        go_enter Try.func53, Try.ntmps53
        go_wp2
        go_ret
        exact ⟨Kit.ret_bool hf.out.symm, Drawn.refl _⟩
      · have hf := Lib.hid (show Tr.rooted xs = false by unfold Tr.rooted; rw [HL.out]; simp [hlt, h1, h2])
        have q1 : (Tr.l xs 0 == 0) = true := by simpa using h1
        have q2 : (Tr.d xs 0 == 0) = false := by simpa using h2
        clear h1 h2
        go_enter Try.func53, Try.ntmps53
        go_wp2
        go_ret
        exact ⟨Kit.ret_bool hf.out.symm, Drawn.refl _⟩
    · have hf := Lib.hid (show Tr.rooted xs = false by unfold Tr.rooted; rw [HL.out]; simp [hlt, h1])
      have q1 : (Tr.l xs 0 == 0) = false := by simpa using h1
      clear h1
      go_enter Try.func53, Try.ntmps53
      go_wp2
      go_ret
      exact ⟨Kit.ret_bool hf.out.symm, Drawn.refl _⟩
  · obtain rfl : n = 0 := by omega
    have hf := Lib.hid (show Tr.rooted xs = false by unfold Tr.rooted; rw [HL.out]; rfl)
    go_enter Try.func53, Try.ntmps53
    go_wp2
    go_ret
    exact ⟨Kit.ret_bool hf.out.symm, Drawn.refl _⟩
set_option maxHeartbeats 800000 in
set_option maxRecDepth 100000 in
theorem implRootsPaired_any (A : Option Addr) (n c : Nat) (xs : Tr) (w : World) (h : NdIn w w.heap.size A n xs) (hn : n ≤ 1048576) :
    Calls Try.prog 54 #[.slice A n c] w fun e w' => e = .returned (.bool (Tr.rooted xs)) ∧ Drawn w w' := by
  have H := Lib.hid h
  have HL := Lib.hid h.1
  clear h
  by_cases hlt : 0 < n
  · obtain ⟨ad, rfl, hb, hl, hd⟩ := H.out.at_ hlt
    rw [Nat.zero_mul, Addr.add_zero'] at hl
    rw [Nat.zero_mul, Addr.add_zero'] at hd
    have hg : decide (0 < n) = true := decide_eq_true hlt
    by_cases h1 : Tr.l xs 0 = 0
    · by_cases h2 : Tr.d xs 0 = 0
      · have hf := Lib.hid (show Tr.rooted xs = true by unfold Tr.rooted; rw [HL.out]; simp [hlt, h1, h2])
        have q1 : (Tr.l xs 0 == 0) = true := by simpa using h1
        have q2 : (Tr.d xs 0 == 0) = true := by simpa using h2
        clear h1 h2
        go_enter Try.func54, Try.ntmps54
        go_wp2
        go_ret
        exact ⟨Kit.ret_bool hf.out.symm, Drawn.refl _⟩
      · have hf := Lib.hid (show Tr.rooted xs = false by unfold Tr.rooted; rw [HL.out]; simp [hlt, h1, h2])
        have q1 : (Tr.l xs 0 == 0) = true := by simpa using h1
        have q2 : (Tr.d xs 0 == 0) = false := by simpa using h2
        clear h1 h2
        go_enter Try.func54, Try.ntmps54
        go_wp2
        go_ret
        exact ⟨Kit.ret_bool hf.out.symm, Drawn.refl _⟩
    · have hf := Lib.hid (show Tr.rooted xs = false by unfold Tr.rooted; rw [HL.out]; simp [hlt, h1])
      have q1 : (Tr.l xs 0 == 0) = false := by simpa using h1
      clear h1
      go_enter Try.func54, Try.ntmps54
      go_wp2
      go_ret
      exact ⟨Kit.ret_bool hf.out.symm, Drawn.refl _⟩
  · obtain rfl : n = 0 := by omega
    have hf := Lib.hid (show Tr.rooted xs = false by unfold Tr.rooted; rw [HL.out]; rfl)
    go_enter Try.func54, Try.ntmps54
    go_wp2
    go_ret
    exact ⟨Kit.ret_bool hf.out.symm, Drawn.refl _⟩

end Go.Proofs.Ytfchmdhlfhoogaa
