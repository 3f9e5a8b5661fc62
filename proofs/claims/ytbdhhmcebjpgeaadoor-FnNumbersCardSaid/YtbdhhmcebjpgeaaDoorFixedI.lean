/- Contracts (FixedI). -/
import Derived.Test.YtbdhhmcebjpgeaaDoorWidthI
namespace Go.Proofs.YtbdhhmcebjpgeaaDoor
open Go.RowKit
set_option linter.unusedVariables false

set_option maxHeartbeats 400000 in
theorem implFixed_no (n wd : Int) (h : n < 0 ∨ wd < 1 ∨ 7 < wd) (w : World) :
    Calls Tryd.prog 11 #[.int .i64 n, .int .i64 wd] w fun e w' => e = .returned (.string ⟨#[]⟩) ∧ w = w' := by
  by_cases hw : 1 ≤ wd ∧ wd ≤ 7
  · have h0 : n < 0 := by omega
    go_enter Tryd.func11, Tryd.ntmps11
    go_wp2_with (go_at_call 24; refine (widthOk_any _ _).mono ?_; rintro e w' ⟨rfl, rfl⟩)
    go_ret
    exact ⟨rfl, rfl⟩
  · go_enter Tryd.func11, Tryd.ntmps11
    go_wp2_with (go_at_call 24; refine (widthOk_any _ _).mono ?_; rintro e w' ⟨rfl, rfl⟩)
    go_ret
    exact ⟨rfl, rfl⟩

set_option maxHeartbeats 400000 in
theorem implFixed_big (m d : Nat) (hw : (1 : Int) ≤ d ∧ (d : Int) ≤ 7) (hn2 : (m : Int) ≤ 9223372036854775807) (hbig : ((m : Int) / 2 ^ (8 * d) != 0) = true) (w : World) :
    Calls Tryd.prog 11 #[.int .i64 m, .int .i64 d] w fun e w' => e = .returned (.string ⟨#[]⟩) ∧ w = w' := by
  have h0 : 0 ≤ (m : Int) := by omega
  go_enter Tryd.func11, Tryd.ntmps11
  go_wp2_with (go_at_call 24; refine (widthOk_any _ _).mono ?_; rintro e w' ⟨rfl, rfl⟩)
  go_ret
  exact ⟨rfl, rfl⟩

set_option maxHeartbeats 400000 in
theorem implFixed_fits (m d : Nat) (hw : (1 : Int) ≤ d ∧ (d : Int) ≤ 7) (hn2 : (m : Int) ≤ 9223372036854775807) (hbig : ((m : Int) / 2 ^ (8 * d) != 0) = false) (w : World) :
    Calls Tryd.prog 11 #[.int .i64 m, .int .i64 d] w fun e w' => e = .returned (.string ⟨(Num.fix m d).toArray⟩) ∧ Below w.heap.size w w' := by
  have h0 : 0 ≤ (m : Int) := by omega
  obtain ⟨i0, hi, hz0, hz1, hz2⟩ := info_parts info_u8
  obtain ⟨w1, hmk, hown1, hg1⟩ := run_make_full (P := Tryd.prog) w w.heap.size 22 5 i0 (.int .u8 0) 1 Tryd.underlying22 hi hz0 hz1 .i64 .i64 d (by rw [hz2]; omega) (by unfold maxLen; omega) (Nat.le_refl _)
  have hb1 : Below w.heap.size w w1 := (Below.refl _ w).grown hg1 (Nat.le_refl _) (fun _ h => by cases h)
  rw [Num.made_cells m d] at hown1
  clear hg1 hi hz0 hz1 hz2
  go_enter Tryd.func11, Tryd.ntmps11
  go_wp2_with (go_at_call 24; refine (widthOk_any _ _).mono ?_; rintro e w' ⟨rfl, rfl⟩)
  clear hmk
  go_loopw [0, 6] (fun nv iv wr => ∃ k : Nat, (k : Int) ≤ d ∧ iv = .int .i64 (d - 1 - k : Int) ∧ nv = .int .i64 (Num.dn m k) ∧ wr.ownsRow w.heap.size 5 1 (.slice (some ⟨w.heap.size, 0, none⟩) d d) d (Num.fixCells m d k) ∧ Below w.heap.size w wr) (fun _ i _ => (intOf i + 1).toNat)
  case atStart => exact ⟨0, by omega, by go_num, rfl, hown1, hb1⟩
  case round =>
    obtain ⟨k, hk, rfl, rfl, hown, hb⟩ := hrel
    have hdn := Num.dn_le m k
    by_cases hlt : k < d
    · have hcell : wr.cell? ⟨w.heap.size, d - 1 - k, none⟩ = some (.int .u8 0) := by
        rw [hown.cellAt _ (by omega)]; exact Num.fixCells_at m (by omega)
      have hfr := hown.frozenAt (d - 1 - k)
      go_wp2
      go_roundw
      case rel =>
        obtain ⟨hs, hg⟩ := hown.stored (d - 1 - k) (.int .u8 ((Num.dn m k : Int) % 256))
        rw [Num.fixCells_set m hlt] at hs
        exact ⟨k + 1, by omega, by go_num, by go_num, hs, hb.setCell (Nat.le_refl _) _⟩
      case measure => simp [intOf]; omega
    · obtain rfl : k = d := by omega
      have hcv := run_convert_bytes_back (P := Tryd.prog) wr 22 9 5 ⟨w.heap.size, 0, none⟩ k (Num.fix m k) Tryd.underlying22 Tryd.underlying5 Tryd.underlying9 (Num.fixCells_full hown)
      rw [Num.fix_length] at hcv
      go_wp2
      go_ret
      exact ⟨rfl, hb⟩

/-- Fixed, the program's: at whatever arguments -/
theorem implFixed_any (n wd : Int) (hn2 : n ≤ 9223372036854775807) (w : World) :
    Calls Tryd.prog 11 #[.int .i64 n, .int .i64 wd] w fun e w' => e = .returned (.string ⟨(Num.fixR n wd).toArray⟩) ∧ Below w.heap.size w w' := by
  by_cases h : n < 0 ∨ wd < 1 ∨ 7 < wd
  · refine (implFixed_no n wd h w).mono ?_
    rintro e w' ⟨rfl, rfl⟩
    exact ⟨by rw [Num.fixR_no h], Below.refl _ _⟩
  · obtain ⟨m, rfl⟩ := Int.eq_ofNat_of_zero_le (show 0 ≤ n by omega)
    obtain ⟨d, rfl⟩ := Int.eq_ofNat_of_zero_le (show 0 ≤ wd by omega)
    have hp : ((m : Int) / 2 ^ (8 * d)) = ((m / 2 ^ (8 * d) : Nat) : Int) := by simp
    cases hb : ((m : Int) / 2 ^ (8 * d) != 0) with
    | true =>
      refine (implFixed_big m d (by omega) hn2 hb w).mono ?_
      rintro e w' ⟨rfl, rfl⟩
      refine ⟨?_, Below.refl _ _⟩
      rw [Num.fixR_big]
      rw [bne_iff_ne, hp] at hb
      rw [Int.toNat_natCast, Num.dn_pow]
      omega
    | false =>
      refine (implFixed_fits m d (by omega) hn2 hb w).mono ?_
      rintro e w' ⟨rfl, hbl⟩
      refine ⟨?_, hbl⟩
      rw [Num.fixR_yes (by omega) (by omega), Int.toNat_natCast]
      rw [bne_eq_false_iff_eq, hp] at hb
      rw [Int.toNat_natCast, Num.dn_pow]
      omega

end Go.Proofs.YtbdhhmcebjpgeaaDoor
