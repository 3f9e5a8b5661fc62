/- Contracts (ReadFixedI). -/
import Derived.Test.YtbdhhmcebjpgeaaDoorWidthI
namespace Go.Proofs.YtbdhhmcebjpgeaaDoor
open Go.RowKit
set_option linter.unusedVariables false

set_option maxHeartbeats 400000 in
theorem implReadFixed_no (s : ByteArray) (wd : Int) (hs : s.size ≤ maxLen) (h : ¬ (1 ≤ wd ∧ wd ≤ 7 ∧ wd ≤ s.size)) (w : World) :
    Calls Tryd.prog 12 #[.string s, .int .i64 wd] w fun e w' => e = .returned (.tuple #[.int .i64 0, .bool false]) ∧ w = w' := by
  unfold maxLen at hs
  by_cases hw : 1 ≤ wd ∧ wd ≤ 7
  · have h0 : (s.size : Int) < wd := by omega
    clear h
    go_enter Tryd.func12, Tryd.ntmps12
    go_wp2_with (go_at_call 24; refine (widthOk_any _ _).mono ?_; rintro e w' ⟨rfl, rfl⟩)
    go_ret2
    exact ⟨rfl, rfl⟩
  · clear h
    go_enter Tryd.func12, Tryd.ntmps12
    go_wp2_with (go_at_call 24; refine (widthOk_any _ _).mono ?_; rintro e w' ⟨rfl, rfl⟩)
    go_ret2
    exact ⟨rfl, rfl⟩

set_option maxHeartbeats 400000 in
theorem implReadFixed_yes (s : ByteArray) (d : Nat) (hs : s.size ≤ maxLen) (hw : 1 ≤ (d : Int) ∧ (d : Int) ≤ 7) (hd : d ≤ s.size) (w : World) :
    Calls Tryd.prog 12 #[.string s, .int .i64 d] w fun e w' => e = .returned (.tuple #[.int .i64 (Num.rd (s.data.toList.take d)), .bool true]) ∧ w = w' := by
  unfold maxLen at hs
  have hdd : decide (s.size < d) = false := by simp; omega
  go_enter Tryd.func12, Tryd.ntmps12
  go_wp2_with (go_at_call 24; refine (widthOk_any _ _).mono ?_; rintro e w' ⟨rfl, rfl⟩)
  go_loop [6, 7] (fun nv iv => ∃ k : Nat, k ≤ d ∧ iv = .int .i64 k ∧ nv = .int .i64 (Num.rd (s.data.toList.take k))) (fun _ i => (d - intOf i).toNat)
  case atStart => exact ⟨0, by omega, rfl, rfl⟩
  case round =>
    obtain ⟨k, hk, rfl, rfl⟩ := hrel
    by_cases hlt : k < d
    · have hsm := Num.rd_small (s.data.toList.take k) (by simp; omega)
      have hbt : s[k].toNat < 256 := s[k].toNat_lt
      have hor := Kit.or256 (Num.rd (s.data.toList.take k)) s[k].toNat (by omega) hbt
      have hsn := Lib.hid (Num.rd_snoc (s.data.toList.take k) s[k])
      have hts := Lib.hid (Kit.take_snoc s k (by omega))
      go_wp2
      go_round
      case rel =>
        refine ⟨k + 1, by omega, by go_num, ?_⟩
        rw [hts.out, hsn.out]; go_num
      case measure => simp [intOf]; omega
    · obtain rfl : k = d := by omega
      go_wp2
      go_ret2
      exact ⟨rfl, rfl⟩

/-- ReadFixed of impl, at whatever arguments -/
theorem implReadFixed_any (s : ByteArray) (wd : Int) (hs : s.size ≤ maxLen) (w : World) :
    Calls Tryd.prog 12 #[.string s, .int .i64 wd] w fun e w' => e = .returned (.tuple #[.int .i64 (Num.readN s wd), .bool (Num.readB s wd)]) ∧ w = w' := by
  by_cases h : 1 ≤ wd ∧ wd ≤ 7 ∧ wd ≤ s.size
  · obtain ⟨d, rfl⟩ := Int.eq_ofNat_of_zero_le (show 0 ≤ wd by omega)
    refine (implReadFixed_yes s d hs (by omega) (by omega) w).mono ?_
    rintro e w' ⟨rfl, rfl⟩
    have hb : Num.readB s d = true := by simp only [Num.readB]; simpa using h
    exact ⟨by simp [Num.readN, hb], rfl⟩
  · refine (implReadFixed_no s wd hs h w).mono ?_
    rintro e w' ⟨rfl, rfl⟩
    have hb : Num.readB s wd = false := by simp only [Num.readB]; simpa using h
    exact ⟨by simp [Num.readN, hb], rfl⟩

end Go.Proofs.YtbdhhmcebjpgeaaDoor
