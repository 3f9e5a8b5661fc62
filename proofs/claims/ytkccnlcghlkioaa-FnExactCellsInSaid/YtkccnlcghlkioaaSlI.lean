/- Contracts (SlI). -/
import Derived.Test.YtkccnlcghlkioaaRows
import Derived.Test.YtkccnlcghlkioaaPst2
import Derived.Test.YtkccnlcghlkioaaRes
import Derived.Outline
namespace Go.Proofs.Ytkccnlcghlkioaa
open Go.RowKit
set_option linter.unusedVariables false

set_option maxHeartbeats 1600000 in
set_option maxRecDepth 100000 in
theorem slIndex_any (A : Option Addr) (n c : Nat) (zs : List Int) (i : Int) (w : World) (h : IntIn w w.heap.size A n zs) (hn : n ≤ 1048576) :
    Calls Try.prog 99 #[.slice A n c, .int .i64 i] w fun e w' => e = .returned (.int .i64 (Zs.find zs i 0)) ∧ w = w' := by
  have H := Lib.hid h
  have HL := Lib.hid h.1
  clear h
  have HFS := Lib.hid (fun k => Zs.find_step zs i k)
  go_enter Try.func99, Try.ntmps99
  go_wp2
  go_loop [8] (fun kv => ∃ k : Nat, k ≤ n ∧ kv = .int .i64 k ∧ Zs.find zs i 0 = Zs.find (zs.drop k) i k) (fun k => n - (intOf k).toNat)
  case atStart => exact ⟨0, Nat.zero_le _, rfl, rfl⟩
  case round =>
    obtain ⟨k, hk, rfl, hfi⟩ := hrel
    have HI := Lib.hid hfi
    clear hfi
    by_cases hlt : k < n
    · have hfs := HFS.out k (by rw [HL.out]; exact hlt)
      obtain ⟨ad, rfl, _, c1⟩ := H.out.at_ hlt
      have hz : Zs.at zs k = zs.getD k 0 := rfl
      rw [hz] at c1
      obtain ⟨x, hx⟩ : ∃ x, x = zs.getD k 0 := ⟨_, rfl⟩
      rw [← hx] at c1 hfs
      clear hx hz
      have k0 : (0 : Int) ≤ (k : Int) := by omega
      have k1 : (k : Int) < (n : Int) := by omega
      by_cases hq : x = i
      · have q : (i == x) = true := by simpa using hq.symm
        rw [if_pos hq] at hfs
        have Hs := Lib.hid (HI.out.trans hfs)
        clear hq hfs
        go_wp2
        go_ret
        exact ⟨by rw [Hs.out]; rfl, rfl⟩
      · have q : (i == x) = false := by simpa using fun e => hq e.symm
        rw [if_neg hq] at hfs
        have Hs := Lib.hid (HI.out.trans hfs)
        clear hq hfs
        go_wp2
        go_round
        case rel => exact ⟨k + 1, by omega, by go_num, Hs.out⟩
        case measure => simp [intOf]; omega
    · obtain rfl : k = n := by omega
      have Hs := Lib.hid (show Zs.find zs i 0 = -1 by rw [HI.out, List.drop_eq_nil_of_le (by rw [HL.out]; exact Nat.le_refl _)]; rfl)
      go_wp2
      go_ret
      exact ⟨by rw [Hs.out]; rfl, rfl⟩

end Go.Proofs.Ytkccnlcghlkioaa
