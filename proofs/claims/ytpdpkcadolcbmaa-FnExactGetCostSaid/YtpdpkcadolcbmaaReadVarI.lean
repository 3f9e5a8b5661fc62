/- Contracts (ReadVarI). -/
import Derived.Test.YtpdpkcadolcbmaaVarI
import Derived.BigQuiet
namespace Go.Proofs.Ytpdpkcadolcbmaa
open Go.RowKit
set_option linter.unusedVariables false

set_option maxHeartbeats 400000 in
theorem implVar_max (w : World) :
    Calls Try.prog 60 #[.int .i64 562949953421311] w fun e w' => e = .returned (.string ⟨#[255, 255, 255, 255, 255, 255, 127]⟩) ∧ Below w.heap.size w w' := by
  refine (implVar_any 562949953421311 w).mono ?_
  rintro e w' ⟨rfl, hb⟩
  exact ⟨by rw [show Num.varR 562949953421311 = [255, 255, 255, 255, 255, 255, 127] by decide +kernel], hb⟩

set_option maxHeartbeats 400000 in
set_option maxRecDepth 100000 in
theorem varSize_any (s : ByteArray) (hs : s.size ≤ maxLen) (w : World) :
    Calls Try.prog 66 #[.string s] w fun e w' => e = .returned (.int .i64 (Num.vsize s.data.toList)) ∧ Below w.heap.size w w' := by
  unfold maxLen at hs
  go_enter Try.func66, Try.ntmps66
  go_wp2_with fail
  refine (implVar_max _).mono ?_
  rintro e w1 ⟨rfl, hb1⟩
  go_wp2
  go_loop [4] (fun iv => ∃ k : Nat, k ≤ 7 ∧ k ≤ s.size ∧ iv = .int .i64 k ∧ ∀ j (h : j < s.size), j < k → 128 ≤ s[j].toNat) (fun i => 7 - (intOf i).toNat)
  case atStart => exact ⟨0, by omega, by omega, rfl, fun j h hj => absurd hj (Nat.not_lt_zero _)⟩
  case round =>
    obtain ⟨k, h7, hk, rfl, hall⟩ := hrel
    have Hall := Lib.hid hall
    clear hall
    by_cases hlt : k < s.size
    · by_cases hl7 : (k : Int) < 7
      · by_cases hbt : s[k].toNat < 128
        · have Hv := Lib.hid (Num.vsize_hit (by omega) hlt Hall.out hbt)
          go_wp2
          go_ret
          exact ⟨by rw [Hv.out]; exact Kit.ret_int (by omega), hb1⟩
        · go_wp2
          go_round
          case rel =>
            refine ⟨k + 1, by omega, by omega, by go_num, fun j hj hjk => ?_⟩
            rcases Nat.lt_succ_iff_lt_or_eq.1 hjk with hjk | rfl
            · exact Hall.out j hj hjk
            · omega
          case measure => simp [intOf]; omega
      · have Hv := Lib.hid (Num.vsize_miss h7 hk (Or.inl (by omega)) Hall.out)
        go_wp2
        go_ret
        exact ⟨by rw [Hv.out]; rfl, hb1⟩
    · have Hv := Lib.hid (Num.vsize_miss h7 hk (Or.inr (by omega)) Hall.out)
      go_wp2
      go_ret
      exact ⟨by rw [Hv.out]; rfl, hb1⟩

set_option maxHeartbeats 400000 in
set_option maxRecDepth 100000 in
theorem implReadVar_any (s : ByteArray) (hs : s.size ≤ maxLen) (w : World) :
    Calls Try.prog 62 #[.string s] w fun e w' => e = .returned (.tuple #[.int .i64 (Num.rvN s), .int .i64 (Num.rvK s)]) ∧ Below w.heap.size w w' := by
  have hsl := hs
  have hvl := Num.vsize_le s.data.toList
  obtain ⟨k, hkd⟩ : ∃ k, k = Num.vsize s.data.toList := ⟨_, rfl⟩
  rw [← hkd] at hvl
  obtain ⟨h7, hk⟩ := hvl
  have hk : k ≤ s.size := by simpa using hk
  have Hkd := Lib.hid hkd
  unfold maxLen at hs
  go_enter Try.func62, Try.ntmps62
  go_wp2_with fail
  refine (varSize_any s hsl _).mono ?_
  rintro e w1 ⟨rfl, hb1⟩
  rw [← hkd]
  clear hkd
  go_wp2
  go_loop [5, 6] (fun nv iv => ∃ i : Nat, i ≤ k ∧ iv = .int .i64 ((i : Int) - 1) ∧ nv = .int .i64 (Num.val7 ((s.data.toList.take k).drop i))) (fun _ i => (intOf i + 1).toNat)
  case atStart => exact ⟨k, Nat.le_refl _, rfl, by rw [List.drop_eq_nil_of_le (List.length_take_le _ _)]; rfl⟩
  case round =>
    obtain ⟨i, hi, rfl, rfl⟩ := hrel
    by_cases hp : 0 < i
    · have hi1 : i - 1 < k := by omega
      have hbt : s[i - 1].toNat < 256 := s[i - 1].toNat_lt
      have hsm := Num.val7_small6 ((s.data.toList.take k).drop i) (by simp; omega)
      have hdr := Num.val7_drop s k (i - 1) hi1 hk
      rw [show i - 1 + 1 = i by omega] at hdr
      have Hdr := Lib.hid hdr
      clear hdr
      have hidx : ((i : Int) - 1).toNat = i - 1 := by omega
      have hand := Kit.and127 s[i - 1].toNat hbt
      have hor : bits .or .i64 ((Num.val7 ((s.data.toList.take k).drop i) : Int) * 128) ((s[i - 1].toNat : Int) % 128) = (Num.val7 ((s.data.toList.take k).drop i) : Int) * 128 + (s[i - 1].toNat : Int) % 128 := by
        have h := Kit.or128 (Num.val7 ((s.data.toList.take k).drop i)) (s[i - 1].toNat % 128) (by omega) (by omega)
        simpa using h
      go_wp2
      go_round
      case rel =>
        refine ⟨i - 1, by omega, by rw [show ((i : Int) - 1 - 1) = ((i - 1 : Nat) : Int) - 1 by omega], ?_⟩
        rw [Hdr.out]
        go_num
      case measure => simp [intOf]; omega
    · obtain rfl : i = 0 := by omega
      have hv := Num.val7_small ((s.data.toList.take k).drop 0) (by simp; omega)
      have hsz1 := hb1.size
      go_wp2
      go_region_law ((go_simp; go_at_call 60; refine (implVar_any _ _).mono ?_; rintro e w' ⟨rfl, hb2⟩))
      go_wp2
      · have ht : (!Num.varR (Num.val7 (s.data.toList.take k) : Nat) == (s.extract 0 k).toList) = true := by assumption
        have hg : ¬ Num.good s.data.toList k := by
          rw [Num.good_test h7] at ht
          simpa using ht
        have h0 : Num.rvK s = 0 := by unfold Num.rvK; rw [← Hkd.out, if_neg hg]
        have h1 : Num.rvN s = 0 := by unfold Num.rvN; rw [h0]; rfl
        go_ret2
        exact ⟨by rw [h0, h1]; rfl, hb1.drew.trans (hb2.mono hsz1)⟩
      · have ht : (!Num.varR (Num.val7 (s.data.toList.take k) : Nat) == (s.extract 0 k).toList) = false := by assumption
        have hg : Num.good s.data.toList k := by
          rw [Num.good_test h7] at ht
          simpa using ht
        obtain ⟨e1, e2⟩ := Num.rv_good h7 hk hg
        go_ret2
        exact ⟨by rw [e1, e2]; rfl, hb1.drew.trans (hb2.mono hsz1)⟩

end Go.Proofs.Ytpdpkcadolcbmaa
