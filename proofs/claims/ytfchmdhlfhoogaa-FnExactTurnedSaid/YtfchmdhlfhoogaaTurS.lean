/- Contracts (TurS). -/
import Derived.Test.YtfchmdhlfhoogaaTur
import Derived.Test.YtfchmdhlfhoogaaRes
import Derived.Test.YtfchmdhlfhoogaaDr
import Derived.Test.YtfchmdhlfhoogaaRows
import Derived.Outline
namespace Go.Proofs.Ytfchmdhlfhoogaa
open Go.RowKit
set_option linter.unusedVariables false

theorem info_prS : (Try.prog.info? 117).map (fun i => (i.zero, i.size, i.bytes)) = some (some (.agg #[.int .i64 0, .int .i64 0]), 2, 16) := by kernel_rfl
set_option maxHeartbeats 800000 in
set_option maxRecDepth 100000 in
theorem specTurned_any (A : Option Addr) (n c : Nat) (xs : Tr) (w : World) (h : NdIn w w.heap.size A n xs) (hn : n ≤ 1048576) :
    Calls Try.prog 57 #[.slice A n c] w (OwnNodes 117 (Tr.turn xs) w) := by
  have H := Lib.hid h
  clear h
  have HL := Lib.hid H.out.1
  obtain ⟨i0, hi, hz0, hz1, hz2⟩ := info_parts info_prS
  go_enter Try.func57, Try.ntmps57
  go_wp2
  go_loopw [4, 3] (fun kv ov wr => ∃ k : Nat, k ≤ n ∧ kv = .int .i64 k ∧ wr.ownsRow w.heap.size 117 2 ov (Tr.turnTo xs k).length (Tr.cells (Tr.turnTo xs k)) ∧ Below w.heap.size w wr) (fun k _ _ => n - (intOf k).toNat)
  case atStart => exact ⟨0, by omega, rfl, by rw [show Tr.turnTo xs 0 = [] by simp [Tr.turnTo]]; exact World.ownsRow_lit w #[] 0 (Nat.le_refl _) (Nat.zero_le _) rfl, (Below.refl _ _).alloc (Nat.le_refl _) _⟩
  case round =>
    obtain ⟨k, hk, rfl, hown, hB⟩ := hrel
    have hz := Lib.hid (H.out.to_below hB)
    have hsz2 := hB.size
    have Ho := Lib.hid hown
    have HB := Lib.hid hB
    clear hown hB
    by_cases hlt : k < n
    · obtain ⟨ad, rfl, hb, hl, hd⟩ := hz.out.at_ (k := k) hlt
      have Hs := Lib.hid (Tr.turnTo_succ xs (k := k) (by rw [HL.out]; exact hlt))
      have Hlen := Lib.hid (Tr.turnTo_length xs (k := k) (by rw [HL.out]; exact hk))
      have hk0 : (0 : Int) ≤ (k : Int) := by omega
      have hklt : (k : Int) < (n : Int) := by omega
      go_wp2
      go_region_law ((refine step_append_node wr.drew rfl _ _ 58 rfl w.heap.size 117 i0 Try.underlying58 hi hz0 hz1 hz2 u3 (Tr.turnTo xs k).length (Tr.turnTo xs k) rfl Ho.out.drew rfl (Tr.d xs k) (Tr.l xs k) rfl (by rw [Hlen.out]; omega) hsz2 ?_; intro v' w3 hown3 hgrow3))
      all_goals
        have hb3 := Kit.below_own HB.out.drew Ho.out.drew hgrow3
        go_wp2
        go_roundw
        case rel => exact ⟨k + 1, by omega, by go_num, by rw [Hs.out]; exact hown3, hb3⟩
        case measure => simp [intOf]; omega
    · obtain rfl : k = n := by omega
      have Ht := Lib.hid (show Tr.turnTo xs k = Tr.turn xs by rw [← HL.out]; exact Tr.turnTo_all xs)
      rw [Ht.out] at Ho
      obtain ⟨A', c', rfl⟩ := own_slice Ho.out
      go_wp2
      go_ret
      exact ⟨A', c', rfl, Ho.out, HB.out⟩

end Go.Proofs.Ytfchmdhlfhoogaa
