/- The contract of Dec, the model's: the decimal numeral (Lib.itoa) of whatever int. -/
import Derived.Test.YtbdhhmcebjpgeaaDoorRows
import Derived.Test.YtbdhhmcebjpgeaaDoorKit
import Derived.Lib.ItoaLen
import Derived.Lib.ItoaMem
namespace Go.Proofs.YtbdhhmcebjpgeaaDoor
open Go.RowKit
set_option linter.unusedVariables false

def Num.DecAt (u q : Nat) (acc : List UInt8) : Prop := (q ≠ 0 ∧ Lib.decDigits q ++ acc = Lib.decDigits u) ∨ (q = 0 ∧ acc = Lib.decDigits u)
theorem Num.DecAt.step {u q : Nat} {acc : List UInt8} (h : Num.DecAt u q acc) (hq : q ≠ 0) : Num.DecAt u (q / 10) (UInt8.ofNat (48 + q % 10) :: acc) := by
  rcases h with ⟨_, h⟩ | ⟨h, _⟩
  · by_cases h10 : q < 10
    · right
      rw [Lib.decDigits, dif_pos h10] at h
      refine ⟨by omega, ?_⟩
      rw [Nat.mod_eq_of_lt h10]
      simpa using h
    · left
      rw [Lib.decDigits, dif_neg h10] at h
      exact ⟨by omega, by simpa using h⟩
  · exact absurd h hq
theorem Num.DecAt.len {u q : Nat} {acc : List UInt8} (h : Num.DecAt u q acc) (hu : u < 18446744073709551616) : acc.length ≤ 20 := by
  have hl := Lib.decDigits_length u
  have hn := Lib.nDigits_le20 u hu
  rcases h with ⟨_, h⟩ | ⟨_, h⟩
  · rw [← h] at hl
    simp at hl
    omega
  · rw [h]; omega
theorem Num.DecAt.done {u : Nat} {acc : List UInt8} (h : Num.DecAt u 0 acc) : acc = Lib.decDigits u := by
  rcases h with ⟨h, _⟩ | ⟨_, h⟩
  · exact absurd rfl h
  · exact h

set_option maxHeartbeats 400000 in
theorem specDec_zero (w : World) :
    Calls Tryd.prog 18 #[.int .i64 0] w fun e w' => e = .returned (.string ⟨#[48]⟩) ∧ w = w' := by
  go_enter Tryd.func18, Tryd.ntmps18
  go_wp2
  go_ret
  exact ⟨rfl, rfl⟩

set_option maxHeartbeats 400000 in
theorem specDec_pos (u : Nat) (hu : 1 ≤ (u : Int)) (hu2 : (u : Int) ≤ 9223372036854775807) (w : World) :
    Calls Tryd.prog 18 #[.int .i64 u] w fun e w' => e = .returned (.string ⟨(Lib.decDigits u).toArray⟩) ∧ Below w.heap.size w w' := by
  have hz : ((u : Int) == 0) = false := by simp; omega
  have hneg : decide ((u : Int) < 0) = false := by simp
  go_enter Tryd.func18, Tryd.ntmps18
  go_wp2
  go_loopw [0, 3] (fun nv ov wr => ∃ (q : Nat) (acc : List UInt8), nv = .int .i64 q ∧ (q : Int) ≤ 9223372036854775807 ∧ ov = .string ⟨acc.toArray⟩ ∧ Num.DecAt u q acc ∧ Below w.heap.size w wr) (fun n _ _ => (intOf n).toNat)
  case atStart => exact ⟨u, [], rfl, by omega, rfl, Or.inl ⟨by omega, by simp⟩, Below.refl _ _⟩
  case round =>
    obtain ⟨q, acc, rfl, hq2, rfl, hat, hb⟩ := hrel
    have hal := hat.len (by omega)
    by_cases hq : 1 ≤ (q : Int)
    · have Hat := Lib.hid (hat.step (by omega))
      clear hat
      have hne : ((q : Int) != 0) = true := by simp; omega
      obtain ⟨b, hbd⟩ : ∃ b : UInt8, b = UInt8.ofNat (48 + q % 10) := ⟨_, rfl⟩
      have hbn : (b.toNat : Int) = 48 + (q : Int) % 10 := by rw [hbd, UInt8.toNat_ofNat']; omega
      rw [← hbd] at Hat
      clear hbd
      have hcv := Kit.conv1b (P := Tryd.prog) wr 22 9 5 (48 + (q : Int) % 10) b hbn Tryd.underlying22 Tryd.underlying5 Tryd.underlying9
      go_wp2
      go_roundw
      case rel =>
        exact ⟨q / 10, b :: acc, by go_num, by omega, by rw [Kit.cons_bytes], Hat.out, hb.alloc hb.size _⟩
      case measure => simp [intOf]; omega
    · obtain rfl : q = 0 := by omega
      have hd := Lib.hid hat.done
      clear hat
      go_wp2
      go_ret
      exact ⟨by rw [hd.out]; rfl, hb⟩

set_option maxHeartbeats 400000 in
theorem specDec_neg (u : Nat) (hu : 1 ≤ (u : Int)) (hu2 : (u : Int) ≤ 9223372036854775808) (w : World) :
    Calls Tryd.prog 18 #[.int .i64 (-(u : Int))] w fun e w' => e = .returned (.string ⟨(45 :: Lib.decDigits u).toArray⟩) ∧ Below w.heap.size w w' := by
  have hz : ((-(u : Int)) == 0) = false := by simp; omega
  have hneg : decide (-(u : Int) < 0) = true := by simp; omega
  go_enter Tryd.func18, Tryd.ntmps18
  go_wp2
  go_loopw [0, 3] (fun nv ov wr => ∃ (q : Nat) (acc : List UInt8), nv = .int .i64 (-(q : Int)) ∧ (q : Int) ≤ 9223372036854775808 ∧ ov = .string ⟨acc.toArray⟩ ∧ Num.DecAt u q acc ∧ Below w.heap.size w wr) (fun n _ _ => (-(intOf n)).toNat)
  case atStart => exact ⟨u, [], rfl, by omega, rfl, Or.inl ⟨by omega, by simp⟩, Below.refl _ _⟩
  case round =>
    obtain ⟨q, acc, rfl, hq2, rfl, hat, hb⟩ := hrel
    have hal := hat.len (by omega)
    by_cases hq : 1 ≤ (q : Int)
    · have Hat := Lib.hid (hat.step (by omega))
      clear hat
      have hne : ((-(q : Int)) != 0) = true := by simp; omega
      have e2 : (-(q : Int)).tdiv 10 = -((q : Int) / 10) := by rw [Int.neg_tdiv, Kit.tdiv_nat]
      obtain ⟨b, hbd⟩ : ∃ b : UInt8, b = UInt8.ofNat (48 + q % 10) := ⟨_, rfl⟩
      have hbn : (b.toNat : Int) = 48 + (q : Int) % 10 := by rw [hbd, UInt8.toNat_ofNat']; omega
      rw [← hbd] at Hat
      clear hbd
      by_cases hm : q % 10 = 0
      · have e1 : (-(q : Int)).tmod 10 = 0 := by rw [Int.neg_tmod, Kit.tmod_nat]; omega
        have hcv := Kit.conv1b (P := Tryd.prog) wr 22 9 5 48 b (by omega) Tryd.underlying22 Tryd.underlying5 Tryd.underlying9
        clear hm hbn
        go_wp2
        go_roundw
        case rel => exact ⟨q / 10, b :: acc, by go_num, by omega, by rw [Kit.cons_bytes], Hat.out, hb.alloc hb.size _⟩
        case measure => simp [intOf]; omega
      · have e1 : (-(q : Int)).tmod 10 = -((q : Int) % 10) := by rw [Int.neg_tmod, Kit.tmod_nat]
        have hm2 : 0 < (q : Int) % 10 := by omega
        have hcv := Kit.conv1b (P := Tryd.prog) wr 22 9 5 (48 + (q : Int) % 10) b hbn Tryd.underlying22 Tryd.underlying5 Tryd.underlying9
        clear hm hbn
        go_wp2
        go_roundw
        case rel => exact ⟨q / 10, b :: acc, by go_num, by omega, by rw [Kit.cons_bytes], Hat.out, hb.alloc hb.size _⟩
        case measure => simp [intOf]; omega
    · obtain rfl : q = 0 := by omega
      have hd := Lib.hid hat.done
      clear hat
      go_wp2
      go_ret
      exact ⟨by rw [hd.out, Kit.cons_bytes]; rfl, hb⟩

/-- Dec, the model's: at whatever int -/
theorem specDec_any (n : Int) (h0 : -9223372036854775808 ≤ n) (h1 : n ≤ 9223372036854775807) (w : World) :
    Calls Tryd.prog 18 #[.int .i64 n] w fun e w' => e = .returned (.string ⟨(Lib.itoa n).toArray⟩) ∧ Below w.heap.size w w' := by
  by_cases hn : n < 0
  · obtain ⟨u, hu⟩ := Int.eq_ofNat_of_zero_le (show 0 ≤ -n by omega)
    obtain rfl : n = -(u : Int) := by omega
    rw [Lib.itoa_neg u (by omega)]
    exact specDec_neg u (by omega) (by omega) w
  · obtain ⟨u, rfl⟩ := Int.eq_ofNat_of_zero_le (show 0 ≤ n by omega)
    rw [Lib.itoa_nonneg u]
    by_cases hz : u = 0
    · subst hz
      refine (specDec_zero w).mono ?_
      rintro e w' ⟨rfl, rfl⟩
      exact ⟨by rw [Lib.decDigits, dif_pos (by decide)]; rfl, Below.refl _ _⟩
    · exact specDec_pos u (by omega) h1 w
end Go.Proofs.YtbdhhmcebjpgeaaDoor
