/- Contracts (ReadVarS). -/
import Derived.Test.YtpdpkcadolcbmaaVarS
import Derived.BigQuiet
namespace Go.Proofs.Ytpdpkcadolcbmaa
open Go.RowKit
set_option linter.unusedVariables false

set_option maxHeartbeats 400000 in
set_option maxRecDepth 100000 in
theorem specReadVar_any (s : ByteArray) (hs : s.size ≤ maxLen) (w : World) :
    Calls Try.prog 61 #[.string s] w fun e w' => e = .returned (.tuple #[.int .i64 (Num.rvN s), .int .i64 (Num.rvK s)]) ∧ Below w.heap.size w w' := by
  unfold maxLen at hs
  go_enter Try.func61, Try.ntmps61
  go_wp2
  go_loopw [4] (fun kv wr => ∃ k : Nat, 1 ≤ k ∧ kv = .int .i64 k ∧ (k : Int) ≤ 8 ∧ k ≤ s.size + 1 ∧ (∀ j, 1 ≤ j → j < k → ¬ Num.good s.data.toList j) ∧ Below w.heap.size w wr) (fun i _ => 8 - (intOf i).toNat)
  case atStart => exact ⟨1, Nat.le_refl _, rfl, by omega, by omega, fun j h1 h2 => by omega, Below.refl _ _⟩
  case round =>
    obtain ⟨k, hk1, rfl, hk8, hks, hno, hb⟩ := hrel
    have Hno := Lib.hid hno
    clear hno
    by_cases hlt : k ≤ 7 ∧ k ≤ s.size
    · obtain ⟨h7, hk⟩ := hlt
      go_wp2
      go_loop [5, 6] (fun nv iv => ∃ i : Nat, i ≤ k ∧ iv = .int .i64 ((i : Int) - 1) ∧ nv = .int .i64 (Num.val7 ((s.data.toList.take k).drop i))) (fun _ i => (intOf i + 1).toNat)
      case atStart => exact ⟨k, Nat.le_refl _, rfl, by rw [List.drop_eq_nil_of_le (List.length_take_le _ _)]; rfl⟩
      case round =>
        obtain ⟨i, hi, rfl, rfl⟩ := hrel
        by_cases hp : 0 < i
        · have hi1 : i - 1 < k := by omega
          have hbt : s[i - 1].toNat < 256 := s[i - 1].toNat_lt
          have hsm := Num.val7_small6 ((s.data.toList.take k).drop i) (by simp; omega)
          have hdr := Num.val7_drop s k (i - 1) hi1 hk
          rw [show i - 1 + 1 = i by omega] at hdr
          have Hdr := Lib.hid hdr
          clear hdr
          have hidx : ((i : Int) - 1).toNat = i - 1 := by omega
          go_wp2
          go_round
          case rel =>
            refine ⟨i - 1, by omega, by rw [show ((i : Int) - 1 - 1) = ((i - 1 : Nat) : Int) - 1 by omega], ?_⟩
            rw [Hdr.out]
            go_num
          case measure => simp [intOf]; omega
        · obtain rfl : i = 0 := by omega
          have hv := Num.val7_small ((s.data.toList.take k).drop 0) (by simp; omega)
          go_wp2
          go_region_law ((go_simp; go_at_call 52; refine (specVar_any _ _).mono ?_; rintro e w' ⟨rfl, hb1⟩))
          go_wp2
          · have ht : (Num.varR (Num.val7 (s.data.toList.take k) : Nat) == (s.extract 0 k).toList) = true := by assumption
            have hg : Num.good s.data.toList k := by simpa [Num.good_test h7] using ht
            obtain ⟨e1, e2⟩ := Num.rv_good h7 hk hg
            go_ret2
            refine ⟨by rw [e1, e2]; rfl, ?_⟩
            exact hb.drew.trans (hb1.mono (by have := hb.size; simpa using this))
          · have ht : (Num.varR (Num.val7 (s.data.toList.take k) : Nat) == (s.extract 0 k).toList) = false := by assumption
            have hg : ¬ Num.good s.data.toList k := by simpa [Num.good_test h7] using ht
            go_roundw
            case rel =>
              refine ⟨k + 1, by omega, by go_num, by omega, by omega, fun j h1 h2 => ?_, hb.drew.trans (hb1.mono (by have := hb.size; simpa using this))⟩
              rcases Nat.lt_succ_iff_lt_or_eq.1 h2 with h2 | rfl
              · exact Hno.out j h1 h2
              · exact hg
            case measure => simp [intOf]; omega
    · have hn := Num.rv_none (s := s) (fun j h1 h2 h3 => Hno.out j h1 (by omega))
      by_cases h7 : k ≤ 7
      · have hks2 : (s.size : Int) < k := by omega
        clear hlt
        have Hn := Lib.hid hn
        clear hn
        go_wp2
        go_ret2
        exact ⟨by rw [Hn.out.1, Hn.out.2]; rfl, hb⟩
      · clear hlt
        have Hn := Lib.hid hn
        clear hn
        go_wp2
        go_ret2
        exact ⟨by rw [Hn.out.1, Hn.out.2]; rfl, hb⟩

end Go.Proofs.Ytpdpkcadolcbmaa
