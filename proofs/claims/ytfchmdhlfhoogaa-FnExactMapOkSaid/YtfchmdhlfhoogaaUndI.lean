/- Contracts (UndI). -/
import Derived.Test.YtfchmdhlfhoogaaPst2
import Derived.Test.YtfchmdhlfhoogaaEndOfI
import Derived.Test.YtfchmdhlfhoogaaRes
namespace Go.Proofs.Ytfchmdhlfhoogaa
open Go.RowKit
set_option linter.unusedVariables false

theorem Tr.under_alt (xs : Tr) (i j : Int) : Tr.under xs i j = (Tr.has xs i && decide (i < j) && decide (j < Tr.endOf xs i)) := by
  unfold Tr.under
  rcases h1 : Tr.has xs i with _ | _
  · rfl
  · rcases h2 : Tr.has xs j with _ | _
    · have hi := Tr.has_iff.1 h1
      obtain ⟨k, rfl⟩ := Int.eq_ofNat_of_zero_le hi.2.1
      have he := (Tr.endN_spec xs k (by omega)).2.1
      rw [Tr.endOf_yes h1]
      by_cases h3 : (k : Int) < j
      · have : ¬ j < (Tr.endN xs k : Nat) := by
          intro h4
          rw [Tr.has_iff.2 ⟨hi.1, by omega, by omega⟩] at h2
          cases h2
        simp [this]
      · simp [h3]
    · simp
set_option maxHeartbeats 1600000 in
set_option maxRecDepth 100000 in
theorem implUnder_any (A : Option Addr) (n c : Nat) (xs : Tr) (i j : Int) (w : World) (h : NdIn w w.heap.size A n xs) (hn : n ≤ 1048576) (hnc : n ≤ c) :
    Calls Try.prog 131 #[.slice A n c, .int .i64 i, .int .i64 j] w fun e w' => e = .returned (.bool (Tr.under xs i j)) ∧ Below w.heap.size w w' := by
  have H := Lib.hid h
  clear h
  have HF := Lib.hid (Tr.under_alt xs i j)
  rcases h1 : Tr.has xs i with _ | _
  · have Hf := Lib.hid (show Tr.under xs i j = false by rw [HF.out, h1]; rfl)
    have Hh := Lib.hid h1
    clear h1
    go_enter Try.func131, Try.ntmps131
    go_wp2_with fail
    refine (hasNode_any _ _ _ xs _ _ H.out hn hnc).mono ?_
    rintro e w1 ⟨rfl, hb⟩
    have HB := Lib.hid hb
    clear hb
    rw [Hh.out]
    go_wp2
    go_ret
    exact ⟨Kit.ret_bool Hf.out.symm, HB.out⟩
  · obtain ⟨E, hE⟩ : ∃ E, E = Tr.endOf xs i := ⟨_, rfl⟩
    have HE := Lib.hid hE
    by_cases h3 : i < j
    · have e3 : decide (i < j) = true := by simpa using h3
      have Hf := Lib.hid (show Tr.under xs i j = decide (j < E) by rw [HF.out, h1, e3, hE]; rfl)
      have Hh := Lib.hid h1
      clear h1 hE h3
      go_enter Try.func131, Try.ntmps131
      go_wp2_with fail
      refine (hasNode_any _ _ _ xs _ _ H.out hn hnc).mono ?_
      rintro e w1 ⟨rfl, hb⟩
      have HB := Lib.hid hb
      have H1 := Lib.hid (H.out.to_below hb)
      clear hb
      rw [Hh.out]
      go_wp2_with fail
      refine (implEndOf_any _ _ _ xs _ _ H1.out hn hnc).mono ?_
      rintro e w2 ⟨rfl, hb⟩
      have HB := Lib.hid (HB.out.trans (hb.mono HB.out.size))
      clear hb
      rw [← HE.out]
      go_wp2
      go_ret
      exact ⟨Kit.ret_bool Hf.out.symm, HB.out⟩
    · have e3 : decide (i < j) = false := by simpa using h3
      have Hf := Lib.hid (show Tr.under xs i j = false by rw [HF.out, h1, e3]; rfl)
      have Hh := Lib.hid h1
      clear h1 hE h3
      go_enter Try.func131, Try.ntmps131
      go_wp2_with fail
      refine (hasNode_any _ _ _ xs _ _ H.out hn hnc).mono ?_
      rintro e w1 ⟨rfl, hb⟩
      have HB := Lib.hid hb
      clear hb
      rw [Hh.out]
      go_wp2
      go_ret
      exact ⟨Kit.ret_bool Hf.out.symm, HB.out⟩

end Go.Proofs.Ytfchmdhlfhoogaa
