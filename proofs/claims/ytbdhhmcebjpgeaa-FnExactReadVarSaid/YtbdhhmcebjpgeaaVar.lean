/- The contracts of Var, the model's and the program's. -/
import Derived.Test.YtbdhhmcebjpgeaaReadFixed
namespace Go.Proofs.Ytbdhhmcebjpgeaa
open Go.RowKit
set_option linter.unusedVariables false

/-- the varint of a number below 128^(f+1) -/
def Num.varF : Nat → Nat → List UInt8
  | 0, q => [UInt8.ofNat q]
  | f + 1, q => if q < 128 then [UInt8.ofNat q] else UInt8.ofNat (128 + q % 128) :: Num.varF f (q / 128)
/-- what Var gives -/
def Num.varR (n : Int) : List UInt8 := if 0 ≤ n ∧ n ≤ 562949953421311 then Num.varF 6 n.toNat else []
theorem Num.varF_small (f q : Nat) (h : q < 128) : Num.varF f q = [UInt8.ofNat q] := by
  cases f <;> simp [Num.varF, h]
theorem Num.varF_big (f q : Nat) (h : 128 ≤ q) : Num.varF (f + 1) q = UInt8.ofNat (128 + q % 128) :: Num.varF f (q / 128) := by
  rw [Num.varF, if_neg (by omega)]

/-- what holds at each round's head: f bytes at most come behind those that are gathered -/
def Num.VarAt (m f q : Nat) (acc : List UInt8) : Prop := acc.length + f = 6 ∧ q < 128 ^ (f + 1) ∧ acc ++ Num.varF f q = Num.varF 6 m
theorem Num.VarAt.start {m : Nat} (h : m ≤ 562949953421311) : Num.VarAt m 6 m [] := ⟨rfl, by omega, by simp⟩
theorem Num.VarAt.len {m f q : Nat} {acc : List UInt8} (h : Num.VarAt m f q acc) : acc.length ≤ 6 := by have := h.1; omega
theorem Num.VarAt.step {m f q : Nat} {acc : List UInt8} (h : Num.VarAt m f q acc) (hq : 128 ≤ q) :
    ∃ f', f = f' + 1 ∧ Num.VarAt m f' (q / 128) (acc ++ [UInt8.ofNat (128 + q % 128)]) := by
  obtain ⟨h1, h2, h3⟩ := h
  cases f with
  | zero => omega
  | succ f =>
    refine ⟨f, rfl, by simp; omega, ?_, ?_⟩
    · rw [Nat.pow_succ] at h2
      exact Nat.div_lt_of_lt_mul (by omega)
    · rw [Num.varF_big f q hq] at h3
      simpa using h3
theorem Num.VarAt.stop {m f q : Nat} {acc : List UInt8} (h : Num.VarAt m f q acc) (hq : q < 128) : acc ++ [UInt8.ofNat q] = Num.varF 6 m := by
  have := h.2.2
  rwa [Num.varF_small f q hq] at this
theorem Num.VarAt.le {m f q : Nat} {acc : List UInt8} (h : Num.VarAt m f q acc) : q ≤ 562949953421311 := by
  obtain ⟨h1, h2, _⟩ := h
  have : 128 ^ (f + 1) ≤ 128 ^ 7 := Nat.pow_le_pow_right (by omega) (by omega)
  omega

set_option maxHeartbeats 400000 in
theorem specVar_no (n : Int) (h : ¬ (0 ≤ n ∧ n ≤ 562949953421311)) (w : World) :
    Calls Try.prog 13 #[.int .i64 n] w fun e w' => e = .returned (.string ⟨#[]⟩) ∧ w = w' := by
  go_enter Try.func13, Try.ntmps13
  go_wp2_with (go_at_call 21; refine (l1In_any _ _ _ _).mono ?_; rintro e w' ⟨rfl, rfl⟩)
  go_ret
  exact ⟨rfl, rfl⟩

set_option maxHeartbeats 400000 in
set_option maxRecDepth 100000 in
theorem specVar_yes (m : Nat) (h : 0 ≤ (m : Int) ∧ (m : Int) ≤ 562949953421311) (w : World) :
    Calls Try.prog 13 #[.int .i64 m] w fun e w' => e = .returned (.string ⟨(Num.varF 6 m).toArray⟩) ∧ Below w.heap.size w w' := by
  obtain ⟨i0, hi, hz0, hz1, hz2⟩ := info_parts info_u8
  go_enter Try.func13, Try.ntmps13
  go_wp2_with (go_at_call 21; refine (l1In_any _ _ _ _).mono ?_; rintro e w' ⟨rfl, rfl⟩)
  go_loopw [0, 3] (fun nv ov wr => ∃ f q acc, nv = .int .i64 ((q : Nat) : Int) ∧ wr.ownsRow w.heap.size 5 1 ov acc.length (Kit.bcells acc) ∧ Num.VarAt m f q acc ∧ Below w.heap.size w wr) (fun n _ _ => (intOf n).toNat)
  case atStart =>
    refine ⟨6, m, [], rfl, ?_, Num.VarAt.start (by omega), (Below.refl _ _).alloc (Nat.le_refl _) _⟩
    exact World.ownsRow_lit w #[] 0 (Nat.le_refl _) (Nat.zero_le _) rfl
  case round =>
    obtain ⟨f, q, acc, rfl, hown, hat, hb⟩ := hrel
    have hle : (q : Int) ≤ 562949953421311 := by have := hat.le; omega
    have hal := hat.len
    have hsz := hb.size
    by_cases hq : 128 ≤ q
    · obtain ⟨f', rfl, hat'⟩ := hat.step hq
      have Hat := Lib.hid hat'
      clear hat hat'
      go_wp2_with (at_builtin; refine Kit.append_byte wr rfl _ _ 36 rfl w.heap.size 5 i0 Try.underlying36 hi hz0 hz1 hz2 u3 acc.length acc rfl hown rfl (128 + (q : Int) % 128) (by omega) (by omega) rfl (by omega) hsz ?_; intro v' w1 hown' hgrow)
      have hb' := Kit.below_own hb hown hgrow
      rw [show (128 + (q : Int) % 128).toNat = 128 + q % 128 by omega] at hown'
      go_roundw
      case rel => exact ⟨f', q / 128, acc ++ [UInt8.ofNat (128 + q % 128)], by go_num, by simpa using hown', Hat.out, hb'⟩
      case measure => simp [intOf]; omega
    · have Hst := Lib.hid (hat.stop (by omega))
      clear hat
      go_wp2_with (at_builtin; refine Kit.append_byte wr rfl _ _ 36 rfl w.heap.size 5 i0 Try.underlying36 hi hz0 hz1 hz2 u3 acc.length acc rfl hown rfl (q : Int) (by omega) (by omega) rfl (by omega) hsz ?_; intro v' w1 hown' hgrow; have hcv := Kit.conv_own (P := Try.prog) Try.underlying36 Try.underlying5 Try.underlying9 hown' (by simp))
      have hb' := Kit.below_own hb hown hgrow
      go_ret
      exact ⟨by rw [Hst.out]; rfl, hb'⟩

set_option maxHeartbeats 400000 in
theorem implVar_no (n : Int) (h : ¬ (0 ≤ n ∧ n ≤ 562949953421311)) (w : World) :
    Calls Try.prog 14 #[.int .i64 n] w fun e w' => e = .returned (.string ⟨#[]⟩) ∧ w = w' := by
  by_cases h0 : n < 0
  · clear h
    go_enter Try.func14, Try.ntmps14
    go_wp2
    go_ret
    exact ⟨rfl, rfl⟩
  · have h1 : 562949953421311 < n := by omega
    clear h
    go_enter Try.func14, Try.ntmps14
    go_wp2
    go_ret
    exact ⟨rfl, rfl⟩

set_option maxHeartbeats 400000 in
set_option maxRecDepth 100000 in
theorem implVar_yes (m : Nat) (h0 : 0 ≤ (m : Int)) (h : (m : Int) ≤ 562949953421311) (w : World) :
    Calls Try.prog 14 #[.int .i64 m] w fun e w' => e = .returned (.string ⟨(Num.varF 6 m).toArray⟩) ∧ Below w.heap.size w w' := by
  obtain ⟨i0, hi, hz0, hz1, hz2⟩ := info_parts info_u8
  go_enter Try.func14, Try.ntmps14
  go_wp2
  go_loopw [0, 3] (fun nv ov wr => ∃ f q acc, nv = .int .i64 ((q : Nat) : Int) ∧ wr.ownsRow w.heap.size 5 1 ov acc.length (Kit.bcells acc) ∧ Num.VarAt m f q acc ∧ Below w.heap.size w wr) (fun n _ _ => (intOf n).toNat)
  case atStart => exact ⟨6, m, [], rfl, World.ownsRow_nil _ _ _ _, Num.VarAt.start (by omega), Below.refl _ _⟩
  case round =>
    obtain ⟨f, q, acc, rfl, hown, hat, hb⟩ := hrel
    have hle : (q : Int) ≤ 562949953421311 := by have := hat.le; omega
    have hal := hat.len
    have hsz := hb.size
    by_cases hq : 128 ≤ q
    · obtain ⟨f', rfl, hat'⟩ := hat.step hq
      have Hat := Lib.hid hat'
      clear hat hat'
      have hand := i64_and127 (q : Int)
      have hor := u8_or128_right ((q : Int) % 128) (by omega) (by omega)
      go_wp2_with (at_builtin; go_loud (refine Kit.append_byte wr rfl _ _ 36 rfl w.heap.size 5 i0 Try.underlying36 hi hz0 hz1 hz2 u3 acc.length acc rfl hown rfl ((q : Int) % 128 + 128) (by omega) (by omega) rfl (by omega) hsz ?_); intro v' w1 hown' hgrow)
      have hb' := Kit.below_own hb hown hgrow
      rw [show ((q : Int) % 128 + 128).toNat = 128 + q % 128 by omega] at hown'
      go_roundw
      case rel => exact ⟨f', q / 128, acc ++ [UInt8.ofNat (128 + q % 128)], by go_num, by simpa using hown', Hat.out, hb'⟩
      case measure => simp [intOf]; omega
    · have Hst := Lib.hid (hat.stop (by omega))
      clear hat
      go_wp2_with (at_builtin; refine Kit.append_byte wr rfl _ _ 36 rfl w.heap.size 5 i0 Try.underlying36 hi hz0 hz1 hz2 u3 acc.length acc rfl hown rfl (q : Int) (by omega) (by omega) rfl (by omega) hsz ?_; intro v' w1 hown' hgrow; have hcv := Kit.conv_own (P := Try.prog) Try.underlying36 Try.underlying5 Try.underlying9 hown' (by simp))
      have hb' := Kit.below_own hb hown hgrow
      go_ret
      exact ⟨by rw [Hst.out]; rfl, hb'⟩

/-- Var, at whatever number -/
theorem specVar_any (n : Int) (w : World) :
    Calls Try.prog 13 #[.int .i64 n] w fun e w' => e = .returned (.string ⟨(Num.varR n).toArray⟩) ∧ Below w.heap.size w w' := by
  unfold Num.varR
  by_cases h : 0 ≤ n ∧ n ≤ 562949953421311
  · obtain ⟨m, rfl⟩ := Int.eq_ofNat_of_zero_le h.1
    rw [if_pos h, Int.toNat_natCast]
    exact specVar_yes m h w
  · rw [if_neg h]
    refine (specVar_no n h w).mono ?_
    rintro e w' ⟨rfl, rfl⟩
    exact ⟨rfl, Below.refl _ _⟩
theorem implVar_any (n : Int) (w : World) :
    Calls Try.prog 14 #[.int .i64 n] w fun e w' => e = .returned (.string ⟨(Num.varR n).toArray⟩) ∧ Below w.heap.size w w' := by
  unfold Num.varR
  by_cases h : 0 ≤ n ∧ n ≤ 562949953421311
  · obtain ⟨m, rfl⟩ := Int.eq_ofNat_of_zero_le h.1
    rw [if_pos h, Int.toNat_natCast]
    exact implVar_yes m h.1 h.2 w
  · rw [if_neg h]
    refine (implVar_no n h w).mono ?_
    rintro e w' ⟨rfl, rfl⟩
    exact ⟨rfl, Below.refl _ _⟩

set_option maxHeartbeats 400000 in
theorem exactVar_walk (n : Int) (_hn : (Lit.int .i64 n).wf = true) (w : World) :
    Calls Try.prog 5 #[.int .i64 n] w fun e w' => e = .returned (.bool true) ∧ Below w.heap.size w w' := by
  go_enter Try.func5, Try.ntmps5
  go_wp2_with fail
  refine (specVar_any n _).mono ?_
  rintro e w1 ⟨rfl, hb1⟩
  go_wp2_with fail
  refine (implVar_any n _).mono ?_
  rintro e w2 ⟨rfl, hb2⟩
  go_wp2
  go_ret
  exact ⟨rfl, hb1.trans (hb2.mono hb1.size)⟩

end Go.Proofs.Ytbdhhmcebjpgeaa
