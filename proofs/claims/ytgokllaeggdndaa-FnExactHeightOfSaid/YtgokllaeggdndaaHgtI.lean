/- Contracts (HgtI). -/
import Derived.Test.YtgokllaeggdndaaTreeOkI
import Derived.Outline
namespace Go.Proofs.Ytgokllaeggdndaa
open Go.RowKit
set_option linter.unusedVariables false

set_option maxHeartbeats 800000 in
set_option maxRecDepth 100000 in
theorem implHeightOf_any (A : Option Addr) (n c : Nat) (xs : Tr) (w : World) (h : NdIn w w.heap.size A n xs) (hn : n ≤ 1048576) (hnc : n ≤ c) :
    Calls Try.prog 31 #[.slice A n c] w fun e w' => e = .returned (.int .i64 (Tr.heightOf xs)) ∧ Below w.heap.size w w' := by
  have H := Lib.hid h
  clear h
  have HL := Lib.hid H.out.1
  rcases hok : Tr.ok xs with _ | _
  · have Hf := Lib.hid (show Tr.heightOf xs = 0 by simp [Tr.heightOf, hok])
    have Hok := Lib.hid hok
    clear hok
    go_enter Try.func31, Try.ntmps31
    go_wp2_with fail
    refine (implTreeOk_any _ _ _ xs _ H.out hn hnc).mono ?_
    rintro e w1 ⟨rfl, hd⟩
    rw [Hok.out]
    go_wp2
    go_ret
    exact ⟨Kit.ret_int Hf.out.symm, hd⟩
  · have Hf := Lib.hid (show Tr.heightOf xs = Tr.heightTo xs xs.length by simp [Tr.heightOf, hok])
    have hbd := Lib.hid fun k => Tr.ok_at (xs := xs) hok (k := k)
    have hn1 : 1 ≤ n := by have := (Tr.ok_iff.1 hok).2; rw [HL.out] at this; omega
    have Hok := Lib.hid hok
    clear hok
    go_enter Try.func31, Try.ntmps31
    go_wp2_with fail
    refine (implTreeOk_any _ _ _ xs _ H.out hn hnc).mono ?_
    rintro e w1 ⟨rfl, hb1⟩
    have H1 := Lib.hid (H.out.below hb1)
    have hsz1 := hb1.size
    have Hb1 := Lib.hid hb1
    clear hb1
    rw [Hok.out]
    go_wp2
    go_loopw [11, 3] (fun kv nv wr => ∃ (k : Nat) (m : Int), k ≤ n ∧ kv = .int .i64 k ∧ nv = .int .i64 m ∧ 0 ≤ m ∧ m ≤ 12 ∧ (0 < k → Tr.heightTo xs k = m + 1) ∧ (k = 0 → m = 0) ∧ Below w.heap.size w wr) (fun k _ _ => n - (intOf k).toNat)
    case atStart => exact ⟨0, 0, by omega, rfl, rfl, by omega, by omega, fun h => absurd h (by omega), fun _ => rfl, Hb1.out⟩
    case round =>
      obtain ⟨k, m, hk, rfl, rfl, hm0, hm12, hm, hmz, hB⟩ := hrel
      have Hm := Lib.hid hm
      have Hmz := Lib.hid hmz
      have HB := Lib.hid hB
      have hsz := hB.size
      clear hm hmz hB
      have hk0 : (0 : Int) ≤ (k : Int) := by omega
      by_cases hlt : k < n
      · obtain ⟨ad, rfl, hb, hl, hd⟩ := (H.out.below HB.out).at_ hlt
        have hdb := (hbd.out k (by rw [HL.out]; exact hlt)).2.1
        go_wp2
        go_roundw
        case rel => exact ⟨k + 1, max m (Tr.d xs k), by omega, by go_num, by rw [max_if], by omega, by omega, fun _ => by
            show max (Tr.heightTo xs k) (Tr.d xs k + 1) = _
            rcases Nat.eq_zero_or_pos k with h0 | h0
            · have := Hmz.out h0
              subst h0
              show max 0 (Tr.d xs 0 + 1) = _
              omega
            · rw [Hm.out h0]; omega, fun h => absurd h (by omega), HB.out.alloc HB.out.size _⟩
        case measure => simp [intOf]; omega
      · obtain rfl : k = n := by omega
        go_wp2
        go_ret
        exact ⟨Kit.ret_int (by rw [Hf.out, HL.out, Hm.out (by omega)]), HB.out⟩

end Go.Proofs.Ytgokllaeggdndaa
