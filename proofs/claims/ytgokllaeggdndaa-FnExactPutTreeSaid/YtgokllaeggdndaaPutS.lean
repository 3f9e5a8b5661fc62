/- Contracts (PutS). -/
import Derived.Test.YtgokllaeggdndaaVarB
import Derived.Test.YtgokllaeggdndaaTreeOkS
import Derived.Outline
import Derived.Deep.RegionHeld3
namespace Go.Proofs.Ytgokllaeggdndaa
open Go.RowKit
set_option linter.unusedVariables false

set_option maxHeartbeats 800000 in
set_option maxRecDepth 100000 in
theorem specPutTree_any (A : Option Addr) (n c : Nat) (xs : Tr) (w : World) (h : NdIn w w.heap.size A n xs) (hn : n ≤ 1048576) :
    Calls Try.prog 34 #[.slice A n c] w fun e w' => e = .returned (.string (Tr.put xs)) ∧ Below w.heap.size w w' := by
  have H := Lib.hid h
  clear h
  have HL := Lib.hid H.out.1
  rcases hok : Tr.ok xs with _ | _
  · have Hf := Lib.hid (Tr.put_no hok)
    have Hok := Lib.hid hok
    clear hok
    go_enter Try.func34, Try.ntmps34
    go_wp2_with fail
    refine (specTreeOk_any _ _ _ xs _ H.out hn).mono ?_
    rintro e w1 ⟨rfl, hb1⟩
    have hb1 := hb1.toBelow (B := w.heap.size)
    rw [Hok.out]
    go_wp2
    go_ret
    exact ⟨by rw [Hf.out]; rfl, hb1⟩
  · have Hf := Lib.hid (Tr.put_yes hok)
    have hle := (Tr.ok_iff.1 hok).2
    rw [HL.out] at hle
    have Hok := Lib.hid hok
    clear hok
    obtain ⟨ad, rfl, had⟩ := H.out.2.1 (by omega)
    go_enter Try.func34, Try.ntmps34
    go_wp2_with fail
    refine (specTreeOk_any _ _ _ xs _ H.out hn).mono ?_
    rintro e w1 ⟨rfl, hb1⟩
    have hb1 := hb1.toBelow (B := w.heap.size)
    have HB1 := Lib.hid hb1
    clear hb1
    rw [Hok.out]
    go_wp2_with fail
    refine (specVarB_any _ _).mono ?_
    rintro e w2 ⟨rfl, hb2⟩
    have HB2 := Lib.hid (HB1.out.trans (hb2.mono HB1.out.size))
    clear hb2 HB1
    go_wp2
    go_loopw [4, 3] (fun iv sv wr => ∃ k : Nat, k ≤ n ∧ iv = .int .i64 k ∧ sv = .string (Tr.putTo xs k) ∧ Below w.heap.size w wr) (fun i _ _ => n - (intOf i).toNat)
    case atStart => exact ⟨0, Nat.zero_le _, rfl, by rw [Tr.putTo, HL.out], HB2.out⟩
    case round =>
      obtain ⟨k, hk, rfl, rfl, hB⟩ := hrel
      have hsz := hB.size
      have HB := Lib.hid hB
      clear hB
      by_cases hlt : k < n
      · obtain ⟨hl, hd⟩ := (H.out.below HB.out).here hlt
        have z1 := Tr.putTo_size xs k
        have z2 := Num.varB_size (Tr.l xs k)
        have z3 := Num.varB_size (Tr.d xs k)
        have y1 : ¬ 9223372036854775807 < (Tr.putTo xs k).size + (Num.varB (Tr.l xs k)).size := by omega
        have y2 : ¬ 9223372036854775807 < (Tr.putTo xs k).size + (Num.varB (Tr.l xs k)).size + (Num.varB (Tr.d xs k)).size := by omega
        have Hs := Lib.hid (Tr.putTo_two xs k)
        have k0 : (0 : Int) ≤ (k : Int) := by omega
        have k1 : (k : Int) < (n : Int) := by omega
        clear z1 z2 z3
        go_wp2_with fail
        have S0 := Lib.hid (show wr.drew.cell? (ad.add (k * 2)) = some (.int .i64 (Tr.l xs k)) ∧ wr.drew.cell? ⟨(ad.add (k * 2)).block, (ad.add (k * 2)).off + 1, none⟩ = some (.int .i64 (Tr.d xs k)) ∧ PutG w.heap.size w (ad.add (k * 2)) ⟨(ad.add (k * 2)).block, (ad.add (k * 2)).off + 1, none⟩ wr.drew from ⟨hl, hd, Nat.le_refl _, HB.out.drew, by rw [block_of_add]; exact Nat.lt_of_lt_of_le had hsz, by show (ad.add (k * 2)).block < _; rw [block_of_add]; exact Nat.lt_of_lt_of_le had hsz⟩)
        go_region_held3 (fun wq => wq.cell? (ad.add (k * 2)) = some (.int .i64 (Tr.l xs k)) ∧ wq.cell? ⟨(ad.add (k * 2)).block, (ad.add (k * 2)).off + 1, none⟩ = some (.int .i64 (Tr.d xs k)) ∧ PutG w.heap.size w (ad.add (k * 2)) ⟨(ad.add (k * 2)).block, (ad.add (k * 2)).off + 1, none⟩ wq) (first | exact S0.out | (refine put_keep ?_ hb; assumption)) (first | (go_at_call 47; refine (specVarB_any _ _).mono ?_; rintro e w' ⟨rfl, hb⟩))
        all_goals
          have HG := Lib.hid (show PutG w.heap.size w (ad.add (k * 2)) ⟨(ad.add (k * 2)).block, (ad.add (k * 2)).off + 1, none⟩ w' by (first | (rename_i q; exact q.2.2) | (rename_i q _; exact q.2.2)))
          go_wp2
          go_roundw
          case rel => exact ⟨k + 1, by omega, by go_num, rfl, HG.out.2.1⟩
          case measure => simp [intOf]; omega
      · obtain rfl : k = n := by omega
        go_wp2
        go_ret
        exact ⟨by rw [Hf.out, HL.out]; rfl, HB.out⟩

end Go.Proofs.Ytgokllaeggdndaa
