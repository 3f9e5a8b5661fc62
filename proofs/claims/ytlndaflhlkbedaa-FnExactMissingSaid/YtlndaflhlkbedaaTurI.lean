/- Contracts (TurI). -/
import Derived.Test.YtlndaflhlkbedaaTur
import Derived.Test.YtlndaflhlkbedaaNdPt
import Derived.Test.YtlndaflhlkbedaaRes
import Derived.Test.YtlndaflhlkbedaaDr
import Derived.Test.YtlndaflhlkbedaaRows
import Derived.Outline
namespace Go.Proofs.Ytlndaflhlkbedaa
open Go.RowKit
set_option linter.unusedVariables false

theorem info_prI : (Try.prog.info? 55).map (fun i => (i.zero, i.size, i.bytes)) = some (some (.agg #[.int .i64 0, .int .i64 0]), 2, 16) := by kernel_rfl
set_option maxHeartbeats 800000 in
set_option maxRecDepth 100000 in
theorem implTurned_any (A : Option Addr) (n c : Nat) (xs : Tr) (w : World) (h : NdIn w w.heap.size A n xs) (hn : n ≤ 1048576) :
    Calls Try.prog 45 #[.slice A n c] w (OwnNodes 55 (Tr.turn xs) w) := by
  have H := Lib.hid h
  clear h
  have HL := Lib.hid H.out.1
  have HT := Lib.hid ((Tr.turn_length xs).trans HL.out)
  obtain ⟨i0, hi, hz0, hz1, hz2⟩ := info_parts info_prI
  go_enter Try.func45, Try.ntmps45
  go_wp2_with (at_make; refine wpList_make_full _ rfl _ _ 43 rfl w.heap.size 55 i0 (.agg #[.int .i64 0, .int .i64 0]) 2 Try.underlying43 hi hz0 hz1 _ _ _ _ n rfl rfl rfl rfl (by rw [hz2]; omega) (by unfold maxLen; omega) (Nat.le_refl _) ?_; intro w1 hown1 hgrow1)
  have hb1 : Below w.heap.size w w1 := (Below.refl _ w).grown hgrow1 (Nat.le_refl _) (fun _ h => by cases h)
  rw [made_nodes, ← HT.out, ← Tr.part_none, HT.out] at hown1
  go_loopw [11] (fun iv wr => ∃ k : Nat, k ≤ n ∧ iv = .int .i64 k ∧ wr.ownsRow w.heap.size 55 2 (.slice (some ⟨w.heap.size, 0, none⟩) n n) n (Tr.cells (Tr.part (Tr.turn xs) k)) ∧ Below w.heap.size w wr) (fun i _ => n - (intOf i).toNat)
  case atStart => exact ⟨0, by omega, rfl, hown1, hb1⟩
  case round =>
    obtain ⟨k, hk, rfl, hown, hB⟩ := hrel
    have hsz := hB.size
    by_cases hlt : k < n
    · obtain ⟨ad, rfl, hb, hl, hd⟩ := (H.out.below hB).at_ hlt
      obtain ⟨wz, hwz⟩ : ∃ wz, wz = wr.alloc (.cells #[.int .i64 (Tr.l xs k), .int .i64 (Tr.d xs k)] 55) := ⟨_, rfl⟩
      have hb2 := Lib.hid (show Below wr.heap.size wr wz by rw [hwz]; exact (Below.refl _ _).alloc (Nat.le_refl _) _)
      have Ho := Lib.hid (own_below hown hb2.out)
      have HB := Lib.hid hB
      have HZ := Lib.hid hwz
      have c0 := own_even Ho.out (k := k) (by rw [Tr.part_length _ _ (by rw [HT.out]; omega), HT.out]; omega)
      have c1 := own_odd Ho.out (k := k) (by rw [Tr.part_length _ _ (by rw [HT.out]; omega), HT.out]; omega)
      have f0 := Ho.out.frozenAt (k * 2)
      have f1 := Ho.out.frozenAt (k * 2 + 1)
      have p0 : wz.cell? ⟨wr.heap.size, 0, none⟩ = some (.int .i64 (Tr.l xs k)) := by rw [hwz]; simp
      have p1 : wz.cell? ⟨wr.heap.size, 1, none⟩ = some (.int .i64 (Tr.d xs k)) := by rw [hwz]; simp
      rw [hwz] at c0 c1 f0 f1 p0 p1
      clear hown hB hwz
      go_wp2
      rw [← HZ.out]
      go_roundw
      case rel =>
        refine ⟨k + 1, by omega, by go_num, ?_, ?_⟩
        · have := own_set Ho.out k (Tr.d xs k) (Tr.l xs k)
          rw [← Tr.turn_l xs (by rw [HL.out]; exact hlt), ← Tr.turn_d xs (by rw [HL.out]; exact hlt), Tr.part_set (Tr.turn xs) k (by rw [HT.out]; exact hlt)] at this
          rw [← Tr.turn_l xs (by rw [HL.out]; exact hlt), ← Tr.turn_d xs (by rw [HL.out]; exact hlt)]
          exact this
        · exact ((HB.out.trans (hb2.out.mono hsz)).setCell (Nat.le_refl _) _).setCell (Nat.le_refl _) _
      case measure => simp [intOf]; omega
    · obtain rfl : k = n := by omega
      rw [← HT.out, Tr.part_full, HT.out] at hown
      rw [← HT.out] at hown
      go_wp2
      go_ret
      exact ⟨some ⟨w.heap.size, 0, none⟩, k, by rw [HT.out]; rfl, by rw [HT.out] at hown ⊢; exact hown, hB⟩

end Go.Proofs.Ytlndaflhlkbedaa
