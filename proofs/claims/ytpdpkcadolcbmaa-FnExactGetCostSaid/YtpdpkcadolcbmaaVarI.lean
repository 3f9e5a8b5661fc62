/- Contracts (VarI). -/
import Derived.Test.YtpdpkcadolcbmaaC1P
import Derived.Test.YtpdpkcadolcbmaaBase
namespace Go.Proofs.Ytpdpkcadolcbmaa
open Go.RowKit
set_option linter.unusedVariables false

set_option maxHeartbeats 400000 in
theorem implVar_no (n : Int) (h : ¬ (0 ≤ n ∧ n ≤ 562949953421311)) (w : World) :
    Calls Try.prog 60 #[.int .i64 n] w fun e w' => e = .returned (.string ⟨#[]⟩) ∧ w = w' := by
  by_cases h0 : n < 0
  · clear h
    go_enter Try.func60, Try.ntmps60
    go_wp2
    go_ret
    exact ⟨rfl, rfl⟩
  · have h1 : 562949953421311 < n := by omega
    clear h
    go_enter Try.func60, Try.ntmps60
    go_wp2
    go_ret
    exact ⟨rfl, rfl⟩

set_option maxHeartbeats 400000 in
set_option maxRecDepth 100000 in
theorem implVar_yes (m : Nat) (h0 : 0 ≤ (m : Int)) (h : (m : Int) ≤ 562949953421311) (w : World) :
    Calls Try.prog 60 #[.int .i64 m] w fun e w' => e = .returned (.string ⟨(Num.varF 6 m).toArray⟩) ∧ Below w.heap.size w w' := by
  obtain ⟨i0, hi, hz0, hz1, hz2⟩ := info_parts info_u8
  go_enter Try.func60, Try.ntmps60
  go_wp2
  go_loopw [0, 3] (fun nv ov wr => ∃ f q acc, nv = .int .i64 ((q : Nat) : Int) ∧ wr.ownsRow w.heap.size 5 1 ov acc.length (Kit.bcells acc) ∧ Num.VarAt m f q acc ∧ Below w.heap.size w wr) (fun n _ _ => (intOf n).toNat)
  case atStart => exact ⟨6, m, [], rfl, World.ownsRow_nil _ _ _ _, Num.VarAt.start (by omega), Below.refl _ _⟩
  case round =>
    obtain ⟨f, q, acc, rfl, hown, hat, hb⟩ := hrel
    have hle : (q : Int) ≤ 562949953421311 := by have := hat.le; omega
    have hal := hat.len
    have hsz := hb.size
    by_cases hq : 128 ≤ q
    · obtain ⟨f', rfl, hat'⟩ := hat.step hq
      have Hat := Lib.hid hat'
      clear hat hat'
      have hand := i64_and127 (q : Int)
      have hor := u8_or128_right ((q : Int) % 128) (by omega) (by omega)
      go_wp2_with (at_builtin; go_loud (refine Kit.append_byte wr rfl _ _ 22 rfl w.heap.size 5 i0 Try.underlying22 hi hz0 hz1 hz2 u3 acc.length acc rfl hown rfl ((q : Int) % 128 + 128) (by omega) (by omega) rfl (by omega) hsz ?_); intro v' w1 hown' hgrow)
      have hb' := Kit.below_own hb hown hgrow
      rw [show ((q : Int) % 128 + 128).toNat = 128 + q % 128 by omega] at hown'
      go_roundw
      case rel => exact ⟨f', q / 128, acc ++ [UInt8.ofNat (128 + q % 128)], by go_num, by simpa using hown', Hat.out, hb'⟩
      case measure => simp [intOf]; omega
    · have Hst := Lib.hid (hat.stop (by omega))
      clear hat
      go_wp2_with (at_builtin; refine Kit.append_byte wr rfl _ _ 22 rfl w.heap.size 5 i0 Try.underlying22 hi hz0 hz1 hz2 u3 acc.length acc rfl hown rfl (q : Int) (by omega) (by omega) rfl (by omega) hsz ?_; intro v' w1 hown' hgrow; have hcv := Kit.conv_own (P := Try.prog) Try.underlying22 Try.underlying5 Try.underlying9 hown' (by simp))
      have hb' := Kit.below_own hb hown hgrow
      go_ret
      exact ⟨by rw [Hst.out]; rfl, hb'⟩

theorem implVar_any (n : Int) (w : World) :
    Calls Try.prog 60 #[.int .i64 n] w fun e w' => e = .returned (.string ⟨(Num.varR n).toArray⟩) ∧ Below w.heap.size w w' := by
  unfold Num.varR
  by_cases h : 0 ≤ n ∧ n ≤ 562949953421311
  · obtain ⟨m, rfl⟩ := Int.eq_ofNat_of_zero_le h.1
    rw [if_pos h, Int.toNat_natCast]
    exact implVar_yes m h.1 h.2 w
  · rw [if_neg h]
    refine (implVar_no n h w).mono ?_
    rintro e w' ⟨rfl, rfl⟩
    exact ⟨rfl, Below.refl _ _⟩

end Go.Proofs.Ytpdpkcadolcbmaa
