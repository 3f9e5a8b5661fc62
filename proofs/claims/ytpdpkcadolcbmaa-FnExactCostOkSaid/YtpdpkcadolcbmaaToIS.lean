/- Contracts (ToIS). -/
import Derived.Test.YtpdpkcadolcbmaaPart
import Derived.Outline
namespace Go.Proofs.Ytpdpkcadolcbmaa
open Go.RowKit
set_option linter.unusedVariables false

set_option maxHeartbeats 1600000 in
set_option maxRecDepth 100000 in
theorem toIntS_any (A : Option Addr) (n c : Nat) (zs : List Int) (w : World) (h : IntIn w w.heap.size A n zs) (hn : n ≤ 1048576) :
    Calls Try.prog 46 #[.slice A n c] w fun e w' => e = .returned (.slice (some ⟨w.heap.size, 0, none⟩) n n) ∧ w'.ownsRow w.heap.size 3 1 (.slice (some ⟨w.heap.size, 0, none⟩) n n) n (ints zs) ∧ Below w.heap.size w w' := by
  have H := Lib.hid h
  have HL := Lib.hid h.1
  clear h
  obtain ⟨i0, hi, hz0, hz1, hz2⟩ := info_parts info_intZ
  have Hi := Lib.hid hi
  clear hi
  have HZ0 := Lib.hid (show List.replicate n (0 : Int) = Zs.part zs 0 by rw [Zs.part_zero, HL.out])
  go_enter Try.func46, Try.ntmps46
  go_wp2_with (at_make; go_loud (refine wpList_make_full _ rfl _ _ 24 rfl w.heap.size 3 i0 (.int .i64 0) 1 Try.underlying24 Hi.out hz0 hz1 _ _ _ _ n rfl rfl rfl rfl (by rw [hz2]; omega) (by unfold maxLen; omega) (Nat.le_refl _) ?_); intro w2 hown2 hgrow2)
  have hb2 : Below w.heap.size w w2 := (Below.refl _ w).grown hgrow2 (Nat.le_refl _) (fun _ h => by cases h)
  rw [made_zeros 0 n, HZ0.out] at hown2
  have HO2 := Lib.hid hown2
  have HB2 := Lib.hid hb2
  clear hown2 hgrow2 hb2
  go_wp2
  go_loopw [4] (fun iv wr => ∃ k : Nat, k ≤ n ∧ iv = .int .i64 k ∧ wr.ownsRow w.heap.size 3 1 (.slice (some ⟨w.heap.size, 0, none⟩) n n) n (ints (Zs.part zs k)) ∧ Below w.heap.size w wr) (fun i _ => n - (intOf i).toNat)
  case atStart => exact ⟨0, Nat.zero_le _, rfl, HO2.out, HB2.out⟩
  case round =>
    clear HO2 HB2
    obtain ⟨k, hk, rfl, hown, hB⟩ := hrel
    have Ho := Lib.hid hown
    have HB := Lib.hid hB
    clear hown hB
    by_cases hlt : k < n
    · obtain ⟨ad, rfl, _, c1⟩ := (H.out.below HB.out).at_ hlt
      have c0 := own_int Ho.out (k := k) (by rw [Zs.part_length zs k (by rw [HL.out]; exact hk), HL.out]; exact hlt)
      have f0 := Ho.out.frozenAt k
      have b2 : (0 : Int) ≤ (k : Int) := by omega
      have b3 : (k : Int) < (n : Int) := by omega
      go_wp2
      go_roundw
      case rel =>
        refine ⟨k + 1, by omega, by go_num, ?_, HB.out.setCell (Nat.le_refl _) _⟩
        have := (Ho.out.stored k (.int .i64 (Zs.at zs k))).1
        rw [ints_set, Zs.part_set zs k (by rw [HL.out]; exact hlt)] at this
        exact this
      case measure => simp [intOf]; omega
    · obtain rfl : k = n := by omega
      rw [show Zs.part zs k = zs by rw [← HL.out]; exact Zs.part_all zs] at Ho
      go_wp2
      go_ret
      exact ⟨rfl, Ho.out, HB.out⟩
/-- the like, where the answer lies left open -/
theorem toIntS_own (A : Option Addr) (n c : Nat) (zs : List Int) (w : World) (h : IntIn w w.heap.size A n zs) (hn : n ≤ 1048576) :
    Calls Try.prog 46 #[.slice A n c] w fun e w' => ∃ A' c', e = .returned (.slice A' n c') ∧ w'.ownsRow w.heap.size 3 1 (.slice A' n c') n (ints zs) ∧ Below w.heap.size w w' :=
  (toIntS_any A n c zs w h hn).mono fun _ _ ⟨h1, h2, h3⟩ => ⟨_, _, h1, h2, h3⟩

end Go.Proofs.Ytpdpkcadolcbmaa
