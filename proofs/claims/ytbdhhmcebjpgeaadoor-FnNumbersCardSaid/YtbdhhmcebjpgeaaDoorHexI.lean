/- Contracts (HexI). -/
import Derived.Test.YtbdhhmcebjpgeaaDoorC1P
import Derived.Test.YtbdhhmcebjpgeaaDoorBase
namespace Go.Proofs.YtbdhhmcebjpgeaaDoor
open Go.RowKit
set_option linter.unusedVariables false

set_option maxHeartbeats 400000 in
set_option maxRecDepth 100000 in
theorem implHex_any (s : ByteArray) (hs : s.size ≤ 1048576) (w : World) :
    Calls Tryd.prog 16 #[.string s] w fun e w' => e = .returned (.string ⟨(Num.hexL s.data.toList).toArray⟩) ∧ Below w.heap.size w w' := by
  obtain ⟨i0, hi, hz0, hz1, hz2⟩ := info_parts info_u8
  go_enter Tryd.func16, Tryd.ntmps16
  go_wp2_with (at_make; refine wpList_make_own _ rfl _ _ 22 rfl w.heap.size 5 i0 (.int .u8 0) 1 Tryd.underlying22 hi hz0 hz1 _ _ _ (2 * s.size) rfl rfl (by omega) (by rw [hz2]; omega) (by unfold maxLen; omega) (Nat.le_refl _) ?_; intro w1 hown1 hgrow1)
  have hb1 : Below w.heap.size w w1 := (Below.refl _ w).grown hgrow1 (Nat.le_refl _) (fun _ h => by cases h)
  go_loopw [3, 4] (fun ov iv wr => ∃ k : Nat, k ≤ s.size ∧ iv = .int .i64 k ∧ wr.ownsRow w.heap.size 5 1 ov (2 * k) (Kit.bcells (Num.hexL (s.data.toList.take k))) ∧ Below w.heap.size w wr) (fun _ i _ => s.size - (intOf i).toNat)
  case atStart => exact ⟨0, by omega, rfl, hown1, hb1⟩
  case round =>
    obtain ⟨k, hk, rfl, hown, hb⟩ := hrel
    have hsz := hb.size
    by_cases hlt : k < s.size
    · have hbt : s[k].toNat < 256 := s[k].toNat_lt
      have hlen : (Num.hexL (s.data.toList.take k)).length = 2 * k := by rw [Num.hexL_length]; simp; omega
      have Hlen := Lib.hid hlen
      clear hlen
      have hq : 0 ≤ (s[k].toNat : Int) / 16 ∧ (s[k].toNat : Int) / 16 < 16 := by omega
      have hand := Kit.and15 s[k].toNat hbt
      have hr : 0 ≤ (s[k].toNat : Int) % 16 ∧ (s[k].toNat : Int) % 16 < 16 := by omega
      have hsn := Lib.hid (Num.hexL_snoc (s.data.toList.take k) s[k])
      have hts := Lib.hid (Kit.take_snoc s k (by omega))
      go_wp2
      go_region_law ((refine Kit.step_append_two wr.drew rfl _ _ 22 rfl w.heap.size 5 i0 Tryd.underlying22 hi hz0 hz1 hz2 u3 (2 * k) (Num.hexL (s.data.toList.take k)) rfl hown.drew Hlen.out.symm _ _ rfl (by rw [Hlen.out]; omega) hsz ?_; intro v' w2 hown' hgrow))
      all_goals
        have hb' := Kit.below_own hb.drew hown.drew hgrow
        rw [Num.hexAt, Num.hexAt, show ((s[k].toNat : Int) / 16).toNat = s[k].toNat / 16 by omega, show ((s[k].toNat : Int) % 16).toNat = s[k].toNat % 16 by omega, ← hsn.out, ← hts.out] at hown'
        go_wp2
        go_roundw
        case rel => exact ⟨k + 1, by omega, by go_num, hown', hb'⟩
        case measure => simp [intOf]; omega
    · have hfull := Kit.take_full s k (by omega)
      have hcv := Kit.conv_own (P := Tryd.prog) Tryd.underlying22 Tryd.underlying5 Tryd.underlying9 hown (by rw [Num.hexL_length]; simp; omega)
      rw [hfull] at hcv
      clear hfull
      go_wp2
      go_ret
      exact ⟨rfl, hb⟩

end Go.Proofs.YtbdhhmcebjpgeaaDoor
