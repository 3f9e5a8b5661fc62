/- The contracts of ReadFixed, the model's and the program's. -/
import Derived.Test.YtbdhhmcebjpgeaaFixed
namespace Go.Proofs.Ytbdhhmcebjpgeaa
open Go.RowKit
set_option linter.unusedVariables false

/-- bytes as a number, the most significant first -/
def Num.rd (l : List UInt8) : Nat := l.foldl (fun n b => n * 256 + b.toNat) 0
theorem Num.rd_snoc (l : List UInt8) (b : UInt8) : Num.rd (l ++ [b]) = Num.rd l * 256 + b.toNat := by
  simp [Num.rd]
theorem Num.rd_lt (l : List UInt8) : Num.rd l < 2 ^ (8 * l.length) := by
  refine Kit.snoc_rec (P := fun l => Num.rd l < 2 ^ (8 * l.length)) (by simp [Num.rd]) (fun l b ih => ?_) l
  rw [Num.rd_snoc]
  have hb : b.toNat < 256 := b.toNat_lt
  simp only [List.length_append, List.length_singleton, Nat.mul_add, Nat.pow_add]
  omega
theorem Num.rd_small (l : List UInt8) (h : l.length ≤ 6) : Num.rd l ≤ 281474976710655 := by
  have h1 := Num.rd_lt l
  have h2 : 2 ^ (8 * l.length) ≤ 2 ^ 48 := Nat.pow_le_pow_right (by omega) (by omega)
  omega
/-- the answer of ReadFixed -/
def Num.readB (s : ByteArray) (wd : Int) : Bool := decide (1 ≤ wd ∧ wd ≤ 7 ∧ wd ≤ s.size)
def Num.readN (s : ByteArray) (wd : Int) : Nat := if Num.readB s wd then Num.rd (s.data.toList.take wd.toNat) else 0

set_option maxHeartbeats 400000 in
theorem specReadFixed_no (s : ByteArray) (wd : Int) (hs : s.size ≤ maxLen) (h : ¬ (1 ≤ wd ∧ wd ≤ 7 ∧ wd ≤ s.size)) (w : World) :
    Calls Try.prog 11 #[.string s, .int .i64 wd] w fun e w' => e = .returned (.tuple #[.int .i64 0, .bool false]) ∧ w = w' := by
  unfold maxLen at hs
  by_cases hw : 1 ≤ wd ∧ wd ≤ 7
  · have h0 : (s.size : Int) < wd := by omega
    clear h
    go_enter Try.func11, Try.ntmps11
    go_wp2_with (go_at_call 21; refine (l1In_any _ _ _ _).mono ?_; rintro e w' ⟨rfl, rfl⟩)
    go_ret2
    exact ⟨rfl, rfl⟩
  · clear h
    go_enter Try.func11, Try.ntmps11
    go_wp2_with (go_at_call 21; refine (l1In_any _ _ _ _).mono ?_; rintro e w' ⟨rfl, rfl⟩)
    go_ret2
    exact ⟨rfl, rfl⟩

set_option maxHeartbeats 400000 in
theorem specReadFixed_yes (s : ByteArray) (d : Nat) (hs : s.size ≤ maxLen) (hw : 1 ≤ (d : Int) ∧ (d : Int) ≤ 7) (hd : d ≤ s.size) (w : World) :
    Calls Try.prog 11 #[.string s, .int .i64 d] w fun e w' => e = .returned (.tuple #[.int .i64 (Num.rd (s.data.toList.take d)), .bool true]) ∧ w = w' := by
  unfold maxLen at hs
  have hdd : decide (s.size < d) = false := by simp; omega
  go_enter Try.func11, Try.ntmps11
  go_wp2_with (go_at_call 21; refine (l1In_any _ _ _ _).mono ?_; rintro e w' ⟨rfl, rfl⟩)
  go_loop [6, 7] (fun nv iv => ∃ k : Nat, k ≤ d ∧ iv = .int .i64 k ∧ nv = .int .i64 (Num.rd (s.data.toList.take k))) (fun _ i => (d - intOf i).toNat)
  case atStart => exact ⟨0, by omega, rfl, rfl⟩
  case round =>
    obtain ⟨k, hk, rfl, rfl⟩ := hrel
    by_cases hlt : k < d
    · have hsm := Num.rd_small (s.data.toList.take k) (by simp; omega)
      have hbt : s[k].toNat < 256 := s[k].toNat_lt
      have hor := Kit.or256 (Num.rd (s.data.toList.take k)) s[k].toNat (by omega) hbt
      have hsn := Lib.hid (Num.rd_snoc (s.data.toList.take k) s[k])
      have hts := Lib.hid (Kit.take_snoc s k (by omega))
      go_wp2
      go_round
      case rel =>
        refine ⟨k + 1, by omega, by go_num, ?_⟩
        rw [hts.out, hsn.out]; go_num
      case measure => simp [intOf]; omega
    · obtain rfl : k = d := by omega
      go_wp2
      go_ret2
      exact ⟨rfl, rfl⟩

/-- ReadFixed of spec, at whatever arguments -/
theorem specReadFixed_any (s : ByteArray) (wd : Int) (hs : s.size ≤ maxLen) (w : World) :
    Calls Try.prog 11 #[.string s, .int .i64 wd] w fun e w' => e = .returned (.tuple #[.int .i64 (Num.readN s wd), .bool (Num.readB s wd)]) ∧ w = w' := by
  by_cases h : 1 ≤ wd ∧ wd ≤ 7 ∧ wd ≤ s.size
  · obtain ⟨d, rfl⟩ := Int.eq_ofNat_of_zero_le (show 0 ≤ wd by omega)
    refine (specReadFixed_yes s d hs (by omega) (by omega) w).mono ?_
    rintro e w' ⟨rfl, rfl⟩
    have hb : Num.readB s d = true := by simp only [Num.readB]; simpa using h
    exact ⟨by simp [Num.readN, hb], rfl⟩
  · refine (specReadFixed_no s wd hs h w).mono ?_
    rintro e w' ⟨rfl, rfl⟩
    have hb : Num.readB s wd = false := by simp only [Num.readB]; simpa using h
    exact ⟨by simp [Num.readN, hb], rfl⟩

set_option maxHeartbeats 400000 in
theorem implReadFixed_no (s : ByteArray) (wd : Int) (hs : s.size ≤ maxLen) (h : ¬ (1 ≤ wd ∧ wd ≤ 7 ∧ wd ≤ s.size)) (w : World) :
    Calls Try.prog 12 #[.string s, .int .i64 wd] w fun e w' => e = .returned (.tuple #[.int .i64 0, .bool false]) ∧ w = w' := by
  unfold maxLen at hs
  by_cases hw : 1 ≤ wd ∧ wd ≤ 7
  · have h0 : (s.size : Int) < wd := by omega
    clear h
    go_enter Try.func12, Try.ntmps12
    go_wp2_with (go_at_call 22; refine (widthOk_any _ _).mono ?_; rintro e w' ⟨rfl, rfl⟩)
    go_ret2
    exact ⟨rfl, rfl⟩
  · clear h
    go_enter Try.func12, Try.ntmps12
    go_wp2_with (go_at_call 22; refine (widthOk_any _ _).mono ?_; rintro e w' ⟨rfl, rfl⟩)
    go_ret2
    exact ⟨rfl, rfl⟩

set_option maxHeartbeats 400000 in
theorem implReadFixed_yes (s : ByteArray) (d : Nat) (hs : s.size ≤ maxLen) (hw : 1 ≤ (d : Int) ∧ (d : Int) ≤ 7) (hd : d ≤ s.size) (w : World) :
    Calls Try.prog 12 #[.string s, .int .i64 d] w fun e w' => e = .returned (.tuple #[.int .i64 (Num.rd (s.data.toList.take d)), .bool true]) ∧ w = w' := by
  unfold maxLen at hs
  have hdd : decide (s.size < d) = false := by simp; omega
  go_enter Try.func12, Try.ntmps12
  go_wp2_with (go_at_call 22; refine (widthOk_any _ _).mono ?_; rintro e w' ⟨rfl, rfl⟩)
  go_loop [6, 7] (fun nv iv => ∃ k : Nat, k ≤ d ∧ iv = .int .i64 k ∧ nv = .int .i64 (Num.rd (s.data.toList.take k))) (fun _ i => (d - intOf i).toNat)
  case atStart => exact ⟨0, by omega, rfl, rfl⟩
  case round =>
    obtain ⟨k, hk, rfl, rfl⟩ := hrel
    by_cases hlt : k < d
    · have hsm := Num.rd_small (s.data.toList.take k) (by simp; omega)
      have hbt : s[k].toNat < 256 := s[k].toNat_lt
      have hor := Kit.or256 (Num.rd (s.data.toList.take k)) s[k].toNat (by omega) hbt
      have hsn := Lib.hid (Num.rd_snoc (s.data.toList.take k) s[k])
      have hts := Lib.hid (Kit.take_snoc s k (by omega))
      go_wp2
      go_round
      case rel =>
        refine ⟨k + 1, by omega, by go_num, ?_⟩
        rw [hts.out, hsn.out]; go_num
      case measure => simp [intOf]; omega
    · obtain rfl : k = d := by omega
      go_wp2
      go_ret2
      exact ⟨rfl, rfl⟩

/-- ReadFixed of impl, at whatever arguments -/
theorem implReadFixed_any (s : ByteArray) (wd : Int) (hs : s.size ≤ maxLen) (w : World) :
    Calls Try.prog 12 #[.string s, .int .i64 wd] w fun e w' => e = .returned (.tuple #[.int .i64 (Num.readN s wd), .bool (Num.readB s wd)]) ∧ w = w' := by
  by_cases h : 1 ≤ wd ∧ wd ≤ 7 ∧ wd ≤ s.size
  · obtain ⟨d, rfl⟩ := Int.eq_ofNat_of_zero_le (show 0 ≤ wd by omega)
    refine (implReadFixed_yes s d hs (by omega) (by omega) w).mono ?_
    rintro e w' ⟨rfl, rfl⟩
    have hb : Num.readB s d = true := by simp only [Num.readB]; simpa using h
    exact ⟨by simp [Num.readN, hb], rfl⟩
  · refine (implReadFixed_no s wd hs h w).mono ?_
    rintro e w' ⟨rfl, rfl⟩
    have hb : Num.readB s wd = false := by simp only [Num.readB]; simpa using h
    exact ⟨by simp [Num.readN, hb], rfl⟩

set_option maxHeartbeats 400000 in
theorem exactReadFixed_walk (s : ByteArray) (wd : Int) (hs : s.size ≤ maxLen) (_hwd : (Lit.int .i64 wd).wf = true) (w : World) :
    Calls Try.prog 4 #[.string s, .int .i64 wd] w fun e w' => e = .returned (.bool true) ∧ Below w.heap.size w w' := by
  have hs1 : s.size ≤ 9223372036854775807 := hs
  go_enter Try.func4, Try.ntmps4
  go_wp2_with (first | (go_at_call 11; refine (specReadFixed_any _ _ hs _).mono ?_; rintro e w' ⟨rfl, rfl⟩) | (go_at_call 12; refine (implReadFixed_any _ _ hs _).mono ?_; rintro e w' ⟨rfl, rfl⟩))
  all_goals go_ret
  all_goals exact ⟨rfl, Below.refl _ _⟩

end Go.Proofs.Ytbdhhmcebjpgeaa
