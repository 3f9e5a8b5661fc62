/- The contracts of Hex, the model's and the program's. -/
import Derived.Test.YtbdhhmcebjpgeaaVar
import Derived.StillTailTactics
namespace Go.Proofs.Ytbdhhmcebjpgeaa
open Go.RowKit
set_option linter.unusedVariables false

/-- the digit of a number below 16 -/
def Num.hexd (k : Nat) : UInt8 := if k < 10 then UInt8.ofNat (48 + k) else UInt8.ofNat (87 + k)
/-- what Hex gives -/
def Num.hexL : List UInt8 → List UInt8
  | [] => []
  | b :: l => Num.hexd (b.toNat / 16) :: Num.hexd (b.toNat % 16) :: Num.hexL l
theorem Num.hexL_snoc (l : List UInt8) (b : UInt8) : Num.hexL (l ++ [b]) = Num.hexL l ++ [Num.hexd (b.toNat / 16), Num.hexd (b.toNat % 16)] := by
  induction l with
  | nil => rfl
  | cons a l ih => simp [Num.hexL, ih]
theorem Num.hexL_length (l : List UInt8) : (Num.hexL l).length = 2 * l.length := by
  induction l with
  | nil => rfl
  | cons a l ih => simp [Num.hexL, ih]; omega

theorem Num.hexIdx : ∀ n : Fin 16, (ByteArray.mk #[48, 49, 50, 51, 52, 53, 54, 55, 56, 57, 97, 98, 99, 100, 101, 102])[n.1]'n.2 = Num.hexd n.1 := by decide

theorem Num.hexAt (n : Nat) (h : n < (ByteArray.mk #[48, 49, 50, 51, 52, 53, 54, 55, 56, 57, 97, 98, 99, 100, 101, 102]).size) : (ByteArray.mk #[48, 49, 50, 51, 52, 53, 54, 55, 56, 57, 97, 98, 99, 100, 101, 102])[n]'h = Num.hexd n :=
  Num.hexIdx ⟨n, h⟩

set_option maxHeartbeats 400000 in
theorem l1Digit_any (k : Nat) (h0 : 0 ≤ (k : Int)) (hk : (k : Int) < 16) (w : World) :
    Calls Try.prog 24 #[.int .i64 k] w fun e w' => e = .returned (.int .u8 (Num.hexd k).toNat) ∧ w = w' := by
  go_enter Try.func24, Try.ntmps24
  go_wp2
  go_ret
  have := Num.hexIdx ⟨k, by omega⟩
  exact ⟨by rw [← this]; rfl, rfl⟩

set_option maxHeartbeats 400000 in
set_option maxRecDepth 100000 in
theorem implHex_any (s : ByteArray) (hs : s.size ≤ 1048576) (w : World) :
    Calls Try.prog 18 #[.string s] w fun e w' => e = .returned (.string ⟨(Num.hexL s.data.toList).toArray⟩) ∧ Below w.heap.size w w' := by
  obtain ⟨i0, hi, hz0, hz1, hz2⟩ := info_parts info_u8
  go_enter Try.func18, Try.ntmps18
  go_wp2_with (at_make; refine wpList_make_own _ rfl _ _ 36 rfl w.heap.size 5 i0 (.int .u8 0) 1 Try.underlying36 hi hz0 hz1 _ _ _ (2 * s.size) rfl rfl (by omega) (by rw [hz2]; omega) (by unfold maxLen; omega) (Nat.le_refl _) ?_; intro w1 hown1 hgrow1)
  have hb1 : Below w.heap.size w w1 := (Below.refl _ w).grown hgrow1 (Nat.le_refl _) (fun _ h => by cases h)
  go_loopw [3, 4] (fun ov iv wr => ∃ k : Nat, k ≤ s.size ∧ iv = .int .i64 k ∧ wr.ownsRow w.heap.size 5 1 ov (2 * k) (Kit.bcells (Num.hexL (s.data.toList.take k))) ∧ Below w.heap.size w wr) (fun _ i _ => s.size - (intOf i).toNat)
  case atStart => exact ⟨0, by omega, rfl, hown1, hb1⟩
  case round =>
    obtain ⟨k, hk, rfl, hown, hb⟩ := hrel
    have hsz := hb.size
    by_cases hlt : k < s.size
    · have hbt : s[k].toNat < 256 := s[k].toNat_lt
      have hlen : (Num.hexL (s.data.toList.take k)).length = 2 * k := by rw [Num.hexL_length]; simp; omega
      have Hlen := Lib.hid hlen
      clear hlen
      have hq : 0 ≤ (s[k].toNat : Int) / 16 ∧ (s[k].toNat : Int) / 16 < 16 := by omega
      have hand := Kit.and15 s[k].toNat hbt
      have hr : 0 ≤ (s[k].toNat : Int) % 16 ∧ (s[k].toNat : Int) % 16 < 16 := by omega
      have hsn := Lib.hid (Num.hexL_snoc (s.data.toList.take k) s[k])
      have hts := Lib.hid (Kit.take_snoc s k (by omega))
      go_wp2
      go_region_law ((refine Kit.step_append_two wr.drew rfl _ _ 36 rfl w.heap.size 5 i0 Try.underlying36 hi hz0 hz1 hz2 u3 (2 * k) (Num.hexL (s.data.toList.take k)) rfl hown.drew Hlen.out.symm _ _ rfl (by rw [Hlen.out]; omega) hsz ?_; intro v' w2 hown' hgrow))
      all_goals
        have hb' := Kit.below_own hb.drew hown.drew hgrow
        rw [Num.hexAt, Num.hexAt, show ((s[k].toNat : Int) / 16).toNat = s[k].toNat / 16 by omega, show ((s[k].toNat : Int) % 16).toNat = s[k].toNat % 16 by omega, ← hsn.out, ← hts.out] at hown'
        go_wp2
        go_roundw
        case rel => exact ⟨k + 1, by omega, by go_num, hown', hb'⟩
        case measure => simp [intOf]; omega
    · have hfull := Kit.take_full s k (by omega)
      have hcv := Kit.conv_own (P := Try.prog) Try.underlying36 Try.underlying5 Try.underlying9 hown (by rw [Num.hexL_length]; simp; omega)
      rw [hfull] at hcv
      clear hfull
      go_wp2
      go_ret
      exact ⟨rfl, hb⟩

theorem l1Digit_int (x : Int) (h0 : 0 ≤ x) (hk : x < 16) (w : World) :
    Calls Try.prog 24 #[.int .i64 x] w fun e w' => e = .returned (.int .u8 (Num.hexd x.toNat).toNat) ∧ w = w' := by
  obtain ⟨k, rfl⟩ := Int.eq_ofNat_of_zero_le h0
  rw [Int.toNat_natCast]
  exact l1Digit_any k h0 hk w

set_option maxHeartbeats 1000000 in
set_option maxRecDepth 100000 in
theorem specHex_any (s : ByteArray) (hs : s.size ≤ 1048576) (w : World) :
    Calls Try.prog 17 #[.string s] w fun e w' => e = .returned (.string ⟨(Num.hexL s.data.toList).toArray⟩) ∧ Below w.heap.size w w' := by
  obtain ⟨i0, hi, hz0, hz1, hz2⟩ := info_parts info_u8
  go_enter Try.func17, Try.ntmps17
  go_wp2
  go_loopw [3, 4] (fun ov iv wr => ∃ k : Nat, k ≤ s.size ∧ iv = .int .i64 k ∧ wr.ownsRow w.heap.size 5 1 ov (2 * k) (Kit.bcells (Num.hexL (s.data.toList.take k))) ∧ Below w.heap.size w wr) (fun _ i _ => s.size - (intOf i).toNat)
  case atStart => exact ⟨0, by omega, rfl, World.ownsRow_lit w #[] 0 (Nat.le_refl _) (Nat.zero_le _) rfl, (Below.refl _ _).alloc (Nat.le_refl _) _⟩
  case round =>
    obtain ⟨k, hk, rfl, hown, hb⟩ := hrel
    have hsz := hb.size
    by_cases hlt : k < s.size
    · have hbt : s[k].toNat < 256 := s[k].toNat_lt
      have hlen : (Num.hexL (s.data.toList.take k)).length = 2 * k := by rw [Num.hexL_length]; simp; omega
      have Hlen := Lib.hid hlen
      clear hlen
      have hsn := Lib.hid (Num.hexL_snoc (s.data.toList.take k) s[k])
      have hts := Lib.hid (Kit.take_snoc s k (by omega))
      go_wp2
      have e1 := Kit.w64 (x := (s[k].toNat : Int)) (by omega) (by omega)
      have e2 := Kit.tdiv_nat s[k].toNat 16
      have e3 := Kit.tmod_nat s[k].toNat 16
      have e4 := Kit.w64 (x := (s[k].toNat : Int) / 16) (by omega) (by omega)
      have hq : 0 ≤ (s[k].toNat : Int) / 16 ∧ (s[k].toNat : Int) / 16 < 16 := by clear e1 e2 e3 e4; omega
      have hr : 0 ≤ (s[k].toNat : Int) % 16 ∧ (s[k].toNat : Int) % 16 < 16 := by clear e1 e2 e3 e4; omega
      go_region_law ((first
        | (refine Kit.step_append_two wr.drew rfl _ _ 36 rfl w.heap.size 5 i0 Try.underlying36 hi hz0 hz1 hz2 u3 (2 * k) (Num.hexL (s.data.toList.take k)) rfl hown.drew Hlen.out.symm _ _ rfl (by rw [Hlen.out]; omega) hsz ?_; intro v' w2 hown' hgrow)
        | (go_simp; go_at_call 24; refine (l1Digit_int _ (by first | exact hq.1 | exact hr.1) (by first | exact hq.2 | exact hr.2) _).mono ?_; rintro e w' ⟨rfl, rfl⟩)))
      all_goals
        clear e1 e2 e3 e4
        have hb' := Kit.below_own hb.drew hown.drew hgrow
        rw [show ((s[k].toNat : Int) / 16).toNat = s[k].toNat / 16 by omega, show ((s[k].toNat : Int) % 16).toNat = s[k].toNat % 16 by omega, ← hsn.out, ← hts.out] at hown'
        go_wp2
        go_roundw
        case rel => exact ⟨k + 1, by omega, by go_num, hown', hb'⟩
        case measure => simp [intOf]; omega
    · have hfull := Kit.take_full s k (by omega)
      have hcv := Kit.conv_own (P := Try.prog) Try.underlying36 Try.underlying5 Try.underlying9 hown (by rw [Num.hexL_length]; simp; omega)
      rw [hfull] at hcv
      clear hfull
      go_wp2
      go_ret
      exact ⟨rfl, hb⟩

set_option maxHeartbeats 400000 in
theorem exactHex_walk (s : ByteArray) (hs : s.size ≤ maxLen) (w : World) :
    Calls Try.prog 7 #[.string s] w fun e w' => e = .returned (.bool true) ∧ Below w.heap.size w w' := by
  unfold maxLen at hs
  by_cases hbig : (1048576 : Int) < s.size
  · go_enter Try.func7, Try.ntmps7
    go_wp2
    go_ret
    exact ⟨rfl, Below.refl _ _⟩
  · have h2 : s.size ≤ 1048576 := by omega
    go_enter Try.func7, Try.ntmps7
    go_wp2_with fail
    refine (specHex_any s h2 _).mono ?_
    rintro e w1 ⟨rfl, hb1⟩
    go_wp2_with fail
    refine (implHex_any s h2 _).mono ?_
    rintro e w2 ⟨rfl, hb2⟩
    go_wp2
    go_ret
    exact ⟨rfl, hb1.trans (hb2.mono hb1.size)⟩

end Go.Proofs.Ytbdhhmcebjpgeaa
