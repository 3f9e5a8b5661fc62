/- Contracts (UnhexI). -/
import Derived.Test.YtbdhhmcebjpgeaaDoorC1P
import Derived.Test.YtbdhhmcebjpgeaaDoorBase
import Derived.Test.YtbdhhmcebjpgeaaDoorShelf
namespace Go.Proofs.YtbdhhmcebjpgeaaDoor
open Go.RowKit
set_option linter.unusedVariables false

theorem indexHex_any (b : UInt8) (w : World) :
    Calls Tryd.prog 28 #[.string ⟨#[48, 49, 50, 51, 52, 53, 54, 55, 56, 57, 97, 98, 99, 100, 101, 102]⟩, .int .u8 b.toNat] w fun e w' => e = .returned (.int .i64 (Num.fromHex b)) ∧ w = w' := by
  refine (Tryd.strings_IndexByte ⟨#[48, 49, 50, 51, 52, 53, 54, 55, 56, 57, 97, 98, 99, 100, 101, 102]⟩ b.toNat w).mono ?_
  rintro e w' ⟨rfl, rfl⟩
  have h := Num.idxHex ⟨b.toNat, b.toNat_lt⟩
  have hb : UInt8.ofNat b.toNat = b := UInt8.ofNat_toNat
  rw [hb] at h
  refine ⟨?_, rfl⟩
  rw [← h]
  rw [Int.toNat_natCast]
  show Ending.returned (.int .i64 (Lib.indexByte _ (UInt8.ofNat b.toNat))) = _
  rw [hb]

set_option maxHeartbeats 400000 in
theorem implUnhex_odd (s : ByteArray) (hs : (s.size : Int) ≤ 1048576) (h : ((s.size : Int) % 2 != 0) = true) (w : World) :
    Calls Tryd.prog 15 #[.string s] w fun e w' => e = .returned (.tuple #[.string ⟨#[]⟩, .bool false]) ∧ w = w' := by
  go_enter Tryd.func15, Tryd.ntmps15
  go_wp2
  go_ret2
  exact ⟨rfl, rfl⟩

set_option maxHeartbeats 400000 in
set_option maxRecDepth 100000 in
theorem implUnhex_even (s : ByteArray) (hs : (s.size : Int) ≤ 1048576) (n : Nat) (hn : s.size = 2 * n) (h : ((s.size : Int) % 2 != 0) = false) (w : World) :
    Calls Tryd.prog 15 #[.string s] w fun e w' => e = .returned (.tuple #[.string ⟨((Num.unhex s.data.toList).getD []).toArray⟩, .bool (Num.unhex s.data.toList).isSome]) ∧ Below w.heap.size w w' := by
  obtain ⟨i0, hi, hz0, hz1, hz2⟩ := info_parts info_u8
  have Hn := Lib.hid hn
  clear hn
  go_enter Tryd.func15, Tryd.ntmps15
  go_wp2_with (at_make; refine wpList_make_own _ rfl _ _ 22 rfl w.heap.size 5 i0 (.int .u8 0) 1 Tryd.underlying22 hi hz0 hz1 _ _ _ (s.size / 2) rfl rfl (by omega) (by rw [hz2]; omega) (by unfold maxLen; omega) (Nat.le_refl _) ?_; intro w1 hown1 hgrow1)
  have hb1 : Below w.heap.size w w1 := (Below.refl _ w).grown hgrow1 (Nat.le_refl _) (fun _ h => by cases h)
  go_loopw [4, 5] (fun ov iv wr => ∃ (k : Nat) (acc : List UInt8), k ≤ n ∧ acc.length = k ∧ iv = .int .i64 (2 * (k : Int)) ∧ wr.ownsRow w.heap.size 5 1 ov k (Kit.bcells acc) ∧ Num.unhex (s.data.toList.take (2 * k)) = some acc ∧ Below w.heap.size w wr) (fun _ i _ => s.size - (intOf i).toNat)
  case atStart => exact ⟨0, [], Nat.zero_le _, rfl, rfl, hown1, rfl, hb1⟩
  case round =>
    obtain ⟨k, acc, hk, hla, rfl, hown, hac, hb⟩ := hrel
    have hsz := hb.size
    have Hla := Lib.hid hla
    have Hac := Lib.hid hac
    clear hla hac
    have hss : s.size ≤ 2 * n := by have := Hn.out; omega
    have hss2 : 2 * n ≤ s.size := by have := Hn.out; omega
    by_cases hlt : k < n
    · have b1 := Num.fromHex_bd s[2 * k]
      have b2 := Num.fromHex_bd s[2 * k + 1]
      have hlt2 : 2 * k + 1 < s.size := by omega
      by_cases h1 : Num.fromHex s[2 * k] < 0
      · have Hbad := Lib.hid (Num.unhex_bad hlt2 Hac.out (Or.inl h1))
        go_wp2_with (first | (go_at_call 28; refine (indexHex_any _ _).mono ?_; rintro e w' ⟨rfl, rfl⟩))
        go_ret2
        exact ⟨by rw [Hbad.out]; rfl, hb⟩
      · by_cases h2 : Num.fromHex s[2 * k + 1] < 0
        · have Hbad := Lib.hid (Num.unhex_bad hlt2 Hac.out (Or.inr h2))
          go_wp2_with (first | (go_at_call 28; refine (indexHex_any _ _).mono ?_; rintro e w' ⟨rfl, rfl⟩))
          go_ret2
          exact ⟨by rw [Hbad.out]; rfl, hb⟩
        · have Hst := Lib.hid (Num.unhex_step hlt2 Hac.out (by omega) (by omega))
          have hor := Kit.or16i (x := Num.fromHex s[2 * k]) (y := Num.fromHex s[2 * k + 1]) (by omega) (by omega) (by omega) (by omega)
          go_wp2_with (first | (go_at_call 28; refine (indexHex_any _ _).mono ?_; rintro e w' ⟨rfl, rfl⟩) | (at_builtin; go_loud (refine Kit.append_byte wr rfl _ _ 22 rfl w.heap.size 5 i0 Tryd.underlying22 hi hz0 hz1 hz2 u4 k acc rfl hown Hla.out.symm (16 * Num.fromHex s[2 * k] + Num.fromHex s[2 * k + 1]) (by omega) (by omega) rfl (by rw [Hla.out]; omega) hsz ?_); intro v' w1 hown' hgrow))
          have hb' := Kit.below_own hb hown hgrow
          go_roundw
          case rel => exact ⟨k + 1, _, by omega, by rw [List.length_append, Hla.out]; rfl, by go_num, hown', Hst.out, hb'⟩
          case measure => simp [intOf]; omega
    · have hfull := Kit.take_full s (2 * k) (by omega)
      rw [hfull] at Hac
      have hcv := Kit.conv_own (P := Tryd.prog) Tryd.underlying22 Tryd.underlying5 Tryd.underlying9 hown Hla.out.symm
      clear hfull
      go_wp2
      go_ret2
      exact ⟨by rw [Hac.out]; rfl, hb⟩

theorem implUnhex_any (s : ByteArray) (hs : s.size ≤ 1048576) (w : World) :
    Calls Tryd.prog 15 #[.string s] w fun e w' => e = .returned (.tuple #[.string ⟨(Num.unhexS s).toArray⟩, .bool (Num.unhexB s)]) ∧ Below w.heap.size w w' := by
  by_cases ho : s.size % 2 = 1
  · have hno := Num.unhex_odd (s.size / 2) s.data.toList (by simp; omega)
    refine (implUnhex_odd s (by omega) (by simp; omega) w).mono ?_
    rintro e w' ⟨rfl, rfl⟩
    exact ⟨by unfold Num.unhexS Num.unhexB; rw [hno]; rfl, Below.refl _ _⟩
  · exact implUnhex_even s (by omega) (s.size / 2) (by omega) (by simp; omega) w

end Go.Proofs.YtbdhhmcebjpgeaaDoor
