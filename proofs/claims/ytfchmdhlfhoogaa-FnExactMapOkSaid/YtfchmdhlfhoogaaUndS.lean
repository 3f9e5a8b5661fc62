/- Contracts (UndS). -/
import Derived.Test.YtfchmdhlfhoogaaPst2
import Derived.Test.YtfchmdhlfhoogaaAtS
import Derived.Test.YtfchmdhlfhoogaaEndOfS
namespace Go.Proofs.Ytfchmdhlfhoogaa
open Go.RowKit
set_option linter.unusedVariables false

set_option maxHeartbeats 1600000 in
set_option maxRecDepth 100000 in
theorem specUnder_any (A : Option Addr) (n c : Nat) (xs : Tr) (i j : Int) (w : World) (h : NdIn w w.heap.size A n xs) (hn : n ≤ 1048576) :
    Calls Try.prog 99 #[.slice A n c, .int .i64 i, .int .i64 j] w fun e w' => e = .returned (.bool (Tr.under xs i j)) ∧ Drawn w w' := by
  have H := Lib.hid h
  clear h
  have H0 := Lib.hid H.out
  have HD := Lib.hid (Drawn.refl w)
  rcases h1 : Tr.has xs i with _ | _
  · have Hf := Lib.hid (show Tr.under xs i j = false by unfold Tr.under; rw [h1]; rfl)
    have Hh := Lib.hid h1
    clear h1
    go_enter Try.func99, Try.ntmps99
    go_wp2_with fail
    refine (l3At_any _ _ _ xs _ _ H0.out hn).mono ?_
    rintro e w1 ⟨rfl, hd⟩
    have HD := Lib.hid (HD.out.trans hd)
    have Hw1 := Lib.hid (H0.out.to_drawn hd)
    clear hd
    rw [Hh.out]
    go_wp2
    go_ret
    exact ⟨Kit.ret_bool Hf.out.symm, HD.out⟩
  · rcases h2 : Tr.has xs j with _ | _
    · have Hf := Lib.hid (show Tr.under xs i j = false by unfold Tr.under; rw [h2, Bool.and_false]; rfl)
      have Hh := Lib.hid h1
      have Hh2 := Lib.hid h2
      clear h1 h2
      go_enter Try.func99, Try.ntmps99
      go_wp2_with fail
      refine (l3At_any _ _ _ xs _ _ H0.out hn).mono ?_
      rintro e w1 ⟨rfl, hd⟩
      have HD := Lib.hid (HD.out.trans hd)
      have Hw1 := Lib.hid (H0.out.to_drawn hd)
      clear hd
      rw [Hh.out]
      go_wp2_with fail
      refine (l3At_any _ _ _ xs _ _ Hw1.out hn).mono ?_
      rintro e w2 ⟨rfl, hd⟩
      have HD := Lib.hid (HD.out.trans hd)
      have Hw2 := Lib.hid (Hw1.out.to_drawn hd)
      clear hd
      rw [Hh2.out]
      go_wp2
      go_ret
      exact ⟨Kit.ret_bool Hf.out.symm, HD.out⟩
    · have Hf := Lib.hid (show Tr.under xs i j = (decide (i < j) && decide (j < Tr.endOf xs i)) by unfold Tr.under; rw [h1, h2]; rfl)
      have Hh := Lib.hid h1
      have Hh2 := Lib.hid h2
      clear h1 h2
      obtain ⟨E, hE⟩ : ∃ E, E = Tr.endOf xs i := ⟨_, rfl⟩
      have HE := Lib.hid hE
      rw [← hE] at Hf
      clear hE
      by_cases h3 : i < j
      · have e3 : decide (i < j) = true := by simpa using h3
        rw [e3] at Hf
        go_enter Try.func99, Try.ntmps99
        go_wp2_with fail
        refine (l3At_any _ _ _ xs _ _ H0.out hn).mono ?_
        rintro e w1 ⟨rfl, hd⟩
        have HD := Lib.hid (HD.out.trans hd)
        have Hw1 := Lib.hid (H0.out.to_drawn hd)
        clear hd
        rw [Hh.out]
        go_wp2_with fail
        refine (l3At_any _ _ _ xs _ _ Hw1.out hn).mono ?_
        rintro e w2 ⟨rfl, hd⟩
        have HD := Lib.hid (HD.out.trans hd)
        have Hw2 := Lib.hid (Hw1.out.to_drawn hd)
        clear hd
        rw [Hh2.out]
        go_wp2_with fail
        refine (specEndOf_any _ _ _ xs _ _ Hw2.out hn).mono ?_
        rintro e w3 ⟨rfl, hd⟩
        have HD := Lib.hid (HD.out.trans hd)
        clear hd
        rw [← HE.out]
        go_wp2
        go_ret
        exact ⟨Kit.ret_bool (by rw [Hf.out]; simp), HD.out⟩
      · have e3 : decide (i < j) = false := by simpa using h3
        rw [e3] at Hf
        go_enter Try.func99, Try.ntmps99
        go_wp2_with fail
        refine (l3At_any _ _ _ xs _ _ H0.out hn).mono ?_
        rintro e w1 ⟨rfl, hd⟩
        have HD := Lib.hid (HD.out.trans hd)
        have Hw1 := Lib.hid (H0.out.to_drawn hd)
        clear hd
        rw [Hh.out]
        go_wp2_with fail
        refine (l3At_any _ _ _ xs _ _ Hw1.out hn).mono ?_
        rintro e w2 ⟨rfl, hd⟩
        have HD := Lib.hid (HD.out.trans hd)
        have Hw2 := Lib.hid (Hw1.out.to_drawn hd)
        clear hd
        rw [Hh2.out]
        go_wp2
        go_ret
        exact ⟨Kit.ret_bool (by rw [Hf.out]; simp), HD.out⟩


end Go.Proofs.Ytfchmdhlfhoogaa
