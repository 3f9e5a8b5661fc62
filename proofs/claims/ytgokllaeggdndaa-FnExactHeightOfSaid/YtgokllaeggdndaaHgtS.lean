/- Contracts (HgtS). -/
import Derived.Test.YtgokllaeggdndaaTreeOkS
import Derived.Outline
namespace Go.Proofs.Ytgokllaeggdndaa
open Go.RowKit
set_option linter.unusedVariables false

set_option maxHeartbeats 800000 in
set_option maxRecDepth 100000 in
theorem specHeightOf_any (A : Option Addr) (n c : Nat) (xs : Tr) (w : World) (h : NdIn w w.heap.size A n xs) (hn : n ≤ 1048576) :
    Calls Try.prog 30 #[.slice A n c] w fun e w' => e = .returned (.int .i64 (Tr.heightOf xs)) ∧ Drawn w w' := by
  have H := Lib.hid h
  clear h
  have HL := Lib.hid H.out.1
  rcases hok : Tr.ok xs with _ | _
  · have Hf := Lib.hid (show Tr.heightOf xs = 0 by simp [Tr.heightOf, hok])
    have Hok := Lib.hid hok
    clear hok
    go_enter Try.func30, Try.ntmps30
    go_wp2
    refine wp_loop_rounds 1 ?_
    rw [rounds_succ]
    by_cases h0 : 0 < n
    · go_wp2_with fail
      refine (specTreeOk_any _ _ _ xs _ H.out hn).mono ?_
      rintro e w1 ⟨rfl, hd⟩
      rw [Hok.out]
      go_wp2
      go_ret
      exact ⟨Kit.ret_int Hf.out.symm, hd⟩
    · obtain rfl : n = 0 := by omega
      go_wp2
      go_ret
      exact ⟨Kit.ret_int Hf.out.symm, Drawn.refl _⟩
  · have Hf := Lib.hid (show Tr.heightOf xs = Tr.heightTo xs xs.length by simp [Tr.heightOf, hok])
    have hbd := Lib.hid fun k => Tr.ok_at (xs := xs) hok (k := k)
    have Hok := Lib.hid hok
    clear hok
    go_enter Try.func30, Try.ntmps30
    go_wp2
    go_loopw [4, 3] (fun kv nv wr => ∃ k : Nat, k ≤ n ∧ kv = .int .i64 k ∧ nv = .int .i64 (Tr.heightTo xs k) ∧ Drawn w wr) (fun k _ _ => n - (intOf k).toNat)
    case atStart => exact ⟨0, by omega, rfl, rfl, Drawn.refl _⟩
    case round =>
      obtain ⟨k, hk, rfl, rfl, hD⟩ := hrel
      have hk0 : (0 : Int) ≤ (k : Int) := by omega
      by_cases hlt : k < n
      · obtain ⟨ad, rfl, hb, hl, hd⟩ := (H.out.drawn hD).at_ hlt
        have hdb := (hbd.out k (by rw [HL.out]; exact hlt)).2.1
        have hz := Lib.hid (H.out.drawn hD)
        go_wp2_with fail
        refine (specTreeOk_any _ _ _ xs _ (hz.out.more (by rw [hD.heap]; exact Nat.le_refl _)) hn).mono ?_
        rintro e w1 ⟨rfl, hd1⟩
        obtain ⟨hl1, hd2⟩ := (hz.out.drawn hd1).here hlt
        have HD := Lib.hid (hD.trans hd1)
        clear hd1 hl1 hl hd
        rw [Hok.out]
        go_wp2
        go_roundw
        case rel => exact ⟨k + 1, by omega, by go_num, by rw [max_if]; rfl, HD.out⟩
        case measure => simp [intOf]; omega
      · obtain rfl : k = n := by omega
        go_wp2
        go_ret
        exact ⟨Kit.ret_int (by rw [Hf.out, HL.out]), hD⟩

end Go.Proofs.Ytgokllaeggdndaa
