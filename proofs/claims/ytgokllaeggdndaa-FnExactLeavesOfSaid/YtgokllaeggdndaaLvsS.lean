/- Contracts (LvsS). -/
import Derived.Test.YtgokllaeggdndaaEndOfS
import Derived.Outline
namespace Go.Proofs.Ytgokllaeggdndaa
open Go.RowKit
set_option linter.unusedVariables false

set_option maxHeartbeats 800000 in
set_option maxRecDepth 100000 in
theorem specLeavesOf_any (A : Option Addr) (n c : Nat) (xs : Tr) (w : World) (h : NdIn w w.heap.size A n xs) (hn : n ≤ 1048576) :
    Calls Try.prog 32 #[.slice A n c] w fun e w' => e = .returned (.int .i64 (Tr.leavesOf xs)) ∧ Drawn w w' := by
  have H := Lib.hid h
  clear h
  have HL := Lib.hid H.out.1
  rcases hok : Tr.ok xs with _ | _
  · have Hf := Lib.hid (show Tr.leavesOf xs = 0 by simp [Tr.leavesOf, hok])
    have Hok := Lib.hid hok
    clear hok
    go_enter Try.func32, Try.ntmps32
    go_wp2
    refine wp_loop_rounds 1 ?_
    rw [rounds_succ]
    by_cases h0 : 0 < n
    · go_wp2_with fail
      refine (specTreeOk_any _ _ _ xs _ H.out hn).mono ?_
      rintro e w1 ⟨rfl, hd⟩
      rw [Hok.out]
      go_wp2
      go_ret
      exact ⟨Kit.ret_int Hf.out.symm, hd⟩
    · obtain rfl : n = 0 := by omega
      go_wp2
      go_ret
      exact ⟨Kit.ret_int Hf.out.symm, Drawn.refl _⟩
  · have Hf := Lib.hid (show Tr.leavesOf xs = (Tr.leavesTo xs xs.length : Nat) by simp [Tr.leavesOf, hok])
    have Hhas := Lib.hid fun k : Nat => fun hk : k < n => (show Tr.endOf xs k = (Tr.endN xs k : Nat) by
      have : Tr.has xs k = true := Tr.has_iff.2 ⟨hok, by omega, by rw [HL.out]; omega⟩
      simp [Tr.endOf, this])
    have Hok := Lib.hid hok
    clear hok
    go_enter Try.func32, Try.ntmps32
    go_wp2
    go_loopw [4, 3] (fun kv nv wr => ∃ k : Nat, k ≤ n ∧ kv = .int .i64 k ∧ nv = .int .i64 (Tr.leavesTo xs k : Nat) ∧ Drawn w wr) (fun k _ _ => n - (intOf k).toNat)
    case atStart => exact ⟨0, by omega, rfl, rfl, Drawn.refl _⟩
    case round =>
      obtain ⟨k, hk, rfl, rfl, hD⟩ := hrel
      have hk0 : (0 : Int) ≤ (k : Int) := by omega
      have hle := Tr.leavesTo_le xs k
      by_cases hlt : k < n
      · have hz := Lib.hid (H.out.to_drawn hD)
        have He := Lib.hid (Hhas.out k hlt)
        have Hs := Lib.hid (show Tr.leavesTo xs (k + 1) = if Tr.endN xs k = k + 1 then Tr.leavesTo xs k + 1 else Tr.leavesTo xs k from rfl)
        go_wp2_with fail
        refine (specTreeOk_any _ _ _ xs _ hz.out hn).mono ?_
        rintro e w1 ⟨rfl, hd1⟩
        have hz1 := Lib.hid (hz.out.to_drawn hd1)
        have HD := Lib.hid (hD.trans hd1)
        clear hd1 hD hz
        rw [Hok.out]
        go_wp2_with fail
        refine (specEndOf_any _ _ _ xs _ _ hz1.out hn).mono ?_
        rintro e w2 ⟨rfl, hd2⟩
        have HD2 := Lib.hid (HD.out.trans hd2)
        clear hd2 HD
        rw [He.out]
        by_cases hq : Tr.endN xs k = k + 1
        · have q : (((Tr.endN xs k : Nat) : Int) == (k : Int) + 1) = true := by rw [hq]; simp
          have Hq := Lib.hid hq
          clear hq
          go_wp2
          go_roundw
          case rel => exact ⟨k + 1, by omega, by go_num, by rw [Hs.out, if_pos Hq.out]; go_num, HD2.out⟩
          case measure => simp [intOf]; omega
        · have q : (((Tr.endN xs k : Nat) : Int) == (k : Int) + 1) = false := by simp; omega
          have Hq := Lib.hid hq
          clear hq
          go_wp2
          go_roundw
          case rel => exact ⟨k + 1, by omega, by go_num, by rw [Hs.out, if_neg (by have := Hq.out; omega)], HD2.out⟩
          case measure => simp [intOf]; omega
      · obtain rfl : k = n := by omega
        go_wp2
        go_ret
        exact ⟨Kit.ret_int (by rw [Hf.out, HL.out]), hD⟩

end Go.Proofs.Ytgokllaeggdndaa
