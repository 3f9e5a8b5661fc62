/- Contracts (ParI). -/
import Derived.Test.YtkpogjfaimpkdaaHasI
import Derived.Outline
namespace Go.Proofs.Ytkpogjfaimpkdaa
open Go.RowKit
set_option linter.unusedVariables false

set_option maxHeartbeats 800000 in
set_option maxRecDepth 100000 in
theorem implParentOf_any (A : Option Addr) (n c : Nat) (xs : Tr) (i : Int) (w : World) (h : NdIn w w.heap.size A n xs) (hn : n ≤ 1048576) (hnc : n ≤ c) :
    Calls Try.prog 18 #[.slice A n c, .int .i64 i] w fun e w' => e = .returned (.int .i64 (Tr.parentOf xs i)) ∧ Below w.heap.size w w' := by
  have H := Lib.hid h
  clear h
  have HL := Lib.hid H.out.1
  rcases hok : Tr.has xs i with _ | _
  · have Hf := Lib.hid (show Tr.parentOf xs i = -1 by simp [Tr.parentOf, hok])
    have Hok := Lib.hid hok
    clear hok
    go_enter Try.func18, Try.ntmps18
    go_wp2_with fail
    refine (hasNode_any _ _ _ xs _ _ H.out hn hnc).mono ?_
    rintro e w1 ⟨rfl, hd⟩
    rw [Hok.out]
    go_wp2
    go_ret
    exact ⟨Kit.ret_int Hf.out.symm, hd⟩
  · have h1 := (Tr.has_iff.1 hok).2
    rw [HL.out] at h1
    have Hf := Lib.hid (show Tr.parentOf xs i = Tr.back xs (Tr.d xs i.toNat) i.toNat by simp [Tr.parentOf, hok])
    have Hok := Lib.hid hok
    clear hok
    obtain ⟨j, rfl⟩ := Int.eq_ofNat_of_zero_le h1.1
    have hj : j < n := by omega
    clear h1
    rw [Int.toNat_natCast] at Hf
    go_enter Try.func18, Try.ntmps18
    go_wp2_with fail
    refine (hasNode_any _ _ _ xs _ _ H.out hn hnc).mono ?_
    rintro e w1 ⟨rfl, hd1⟩
    have Hd1 := Lib.hid hd1
    have H1 := Lib.hid (H.out.below Hd1.out)
    clear hd1
    rw [Hok.out]
    go_wp2
    go_loopw [5] (fun kv wr => ∃ z : Int, -1 ≤ z ∧ z < j ∧ kv = .int .i64 z ∧ Tr.back xs (Tr.d xs j) j = Tr.back xs (Tr.d xs j) (z + 1).toNat ∧ Drawn w1 wr) (fun k _ => (intOf k + 1).toNat)
    case atStart => exact ⟨(j : Int) - 1, by omega, by omega, by go_num, by rw [show ((j : Int) - 1 + 1).toNat = j by omega], Drawn.refl _⟩
    case round =>
      obtain ⟨z, hz, hzj, rfl, hback, hD⟩ := hrel
      have Hb := Lib.hid hback
      clear hback
      have hj0 : (0 : Int) ≤ (j : Int) := by omega
      by_cases h0 : 0 ≤ z
      · obtain ⟨k, rfl⟩ := Int.eq_ofNat_of_zero_le h0
        clear h0
        have hlt : k < n := by omega
        have hk0 : (0 : Int) ≤ (k : Int) := by omega
        obtain ⟨ad, rfl, hb, hl, hd⟩ := (H1.out.drawn hD).at_ hlt
        obtain ⟨hl', hd'⟩ := (H1.out.drawn hD).here hj
        clear hl hl'
        have Hk := Lib.hid (show Tr.back xs (Tr.d xs j) ((k : Int) + 1).toNat = if Tr.d xs k < Tr.d xs j then (k : Int) else Tr.back xs (Tr.d xs j) k by
          rw [show ((k : Int) + 1).toNat = k + 1 by omega]; rfl)
        by_cases hgt : Tr.d xs k < Tr.d xs j
        · have hg : decide (Tr.d xs j ≤ Tr.d xs k) = false := by simpa using hgt
          have Hg := Lib.hid hgt
          clear hgt
          go_wp2
          go_quiet (fail)
          go_wp2
          go_ret
          exact ⟨Kit.ret_int (by rw [Hf.out, Hb.out, Hk.out, if_pos Hg.out]), Drawn.below Hd1.out (hD.drewN _)⟩
        · have hg : decide (Tr.d xs j ≤ Tr.d xs k) = true := by simp; omega
          have Hg := Lib.hid hgt
          clear hgt
          go_wp2
          go_quiet (fail)
          go_wp2
          go_roundw
          case rel => exact ⟨(k : Int) - 1, by omega, by omega, by go_num, by rw [Hb.out, Hk.out, if_neg (by have := Hg.out; omega), show ((k : Int) - 1 + 1).toNat = k by omega], hD.drewN _⟩
          case measure => simp [intOf] <;> omega
      · obtain rfl : z = -1 := by omega
        clear h0
        go_wp2
        go_quiet (fail)
        go_wp2
        go_ret
        exact ⟨Kit.ret_int (by rw [Hf.out, Hb.out]; rfl), Drawn.below Hd1.out (hD.drewN _)⟩

end Go.Proofs.Ytkpogjfaimpkdaa
