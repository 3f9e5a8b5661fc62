/- Contracts (CelI). -/
import Derived.Test.YtkccnlcghlkioaaCel
import Derived.Test.YtkccnlcghlkioaaKeyI
import Derived.Test.YtkccnlcghlkioaaLeafI
import Derived.Outline
namespace Go.Proofs.Ytkccnlcghlkioaa
open Go.RowKit
set_option linter.unusedVariables false

set_option maxHeartbeats 1600000 in
set_option maxRecDepth 100000 in
theorem keySizes_any (A : Option Addr) (n c : Nat) (xs : Tr) (w : World) (h : NdIn w w.heap.size A n xs) (hn : n ≤ 1048576) (hnc : n ≤ c) :
    Calls Try.prog 54 #[.slice A n c] w fun e w' => e = .returned (.int .i64 (Tr.keySz xs)) ∧ Below w.heap.size w w' := by
  cases hok : Tr.ok xs with
  | false =>
    have Hf := Lib.hid (Tr.keySz_no hok)
    have Hk := Lib.hid (show (Zs.up (Tr.krs xs)).length = 0 by rw [Tr.krs_no hok]; rfl)
    have H := Lib.hid h
    clear h hok
    go_enter Try.func54, Try.ntmps54
    go_wp2_with fail
    refine (implLeftLeaf_any _ _ _ xs _ H.out hn hnc).mono ?_
    rintro e w1 ⟨A1, c1, rfl, o1, b1⟩
    have H1 := Lib.hid (H.out.to_below b1)
    have B1 := Lib.hid b1
    clear o1 b1
    go_wp2_with fail
    refine (implKeyRoots_any _ _ _ xs _ H1.out hn hnc).mono ?_
    rintro e w2 ⟨A2, c2, rfl, o2, b2⟩
    have B2 := Lib.hid (B1.out.trans (b2.mono B1.out.size))
    rw [Hk.out]
    clear o2 b2
    go_wp2
    go_loopw [12, 4] (fun kv sv wr => kv = .int .i64 0 ∧ sv = .int .i64 0 ∧ wr = w2) (fun _ _ _ => 0)
    case atStart => exact ⟨rfl, rfl, rfl⟩
    case round =>
      obtain ⟨rfl, rfl, rfl⟩ := hrel
      go_wp2
      go_ret
      exact ⟨Kit.ret_int Hf.out.symm, B2.out⟩
  | true =>
    have HOK := Lib.hid hok
    have hln := h.1
    obtain ⟨x1, x24⟩ := Tr.len24 hok
    have hkl := Tr.krs_le hok
    have HBd := Lib.hid (fun j => Tr.keyTo_bound hok j)
    have HL := Lib.hid (show (Zs.up (Tr.lfs xs)).length = xs.length by rw [Zs.up_length, Tr.lfs_len hok])
    have HK := Lib.hid (Zs.up_length (Tr.krs xs))
    have H := Lib.hid h
    clear h hok
    go_enter Try.func54, Try.ntmps54
    go_wp2_with fail
    refine (implLeftLeaf_any _ _ _ xs _ H.out hn hnc).mono ?_
    rintro e w1 ⟨A1, c1, rfl, o1, b1⟩
    have H1 := Lib.hid (H.out.to_below b1)
    have I1 := Lib.hid (IntIn.of_own o1)
    have B1 := Lib.hid b1
    clear o1 b1
    rw [HL.out] at I1 ⊢
    go_wp2_with fail
    refine (implKeyRoots_any _ _ _ xs _ H1.out hn hnc).mono ?_
    rintro e w2 ⟨A2, c2, rfl, o2, b2⟩
    have I2 := Lib.hid (IntIn.of_own o2)
    have I1 := Lib.hid (I1.out.to_below b2)
    have B2 := Lib.hid (B1.out.trans (b2.mono B1.out.size))
    rw [HK.out] at I2 ⊢
    clear o2 b2
    go_wp2
    go_loopw [12, 4] (fun kv sv wr => ∃ k : Nat, k ≤ (Tr.krs xs).length ∧ kv = .int .i64 k ∧ sv = .int .i64 (Tr.keyTo xs k) ∧ Drawn w2 wr) (fun k _ _ => (Tr.krs xs).length - (intOf k).toNat)
    case atStart => exact ⟨0, Nat.zero_le _, rfl, rfl, Drawn.refl _⟩
    case round =>
      obtain ⟨k, hk, rfl, rfl, hD⟩ := hrel
      have HD := Lib.hid hD
      clear hD
      by_cases hlt : k < (Tr.krs xs).length
      · obtain ⟨ad2, rfl, _, r1⟩ := (I2.out.drawn HD.out).at_ hlt
        rw [Tr.kr_up hlt] at r1
        have hil := Tr.krs_lt HOK.out (Tr.kr_mem hlt)
        obtain ⟨ad1, rfl, _, r2⟩ := (I1.out.drawn HD.out).at_ hil
        rw [Tr.la_up HOK.out hil] at r2
        have bz := Tr.kz_bound HOK.out hlt
        have bt := HBd.out k hk
        obtain ⟨i, hi⟩ : ∃ i, i = Tr.kr xs k := ⟨_, rfl⟩
        obtain ⟨q, hq⟩ : ∃ q, q = Tr.la xs i := ⟨_, rfl⟩
        have hqi : q ≤ i := by rw [hq]; exact (Tr.la_nest HOK.out i (by rw [hi]; exact hil)).1
        rw [← hi] at r1 r2 hil
        rw [← hq] at r2
        have Hz := Lib.hid (show Tr.keyTo xs (k + 1) = Tr.keyTo xs k + ((i : Int) - (q : Int) + 1) by simp only [Tr.keyTo, Tr.kz]; rw [← hi, ← hq])
        have k1 : (0 : Int) ≤ (k : Int) := by omega
        have k2 : (k : Int) < ((Tr.krs xs).length : Int) := by omega
        have k3 : (0 : Int) ≤ (i : Int) := by omega
        have k4 : (i : Int) < (xs.length : Int) := by omega
        obtain ⟨s, hs⟩ : ∃ s, s = Tr.keyTo xs k := ⟨_, rfl⟩
        rw [← hs] at bt
        have HS := Lib.hid hs
        clear hi hq bz
        rw [← hs]
        clear hs
        go_wp2
        go_roundw
        case rel => exact ⟨k + 1, by omega, by go_num, by rw [Hz.out, HS.out], HD.out⟩
        case measure => simp [intOf]; omega
      · have hke : k = (Tr.krs xs).length := by omega
        have Hv := Lib.hid (show Tr.keySz xs = Tr.keyTo xs k by rw [hke]; rfl)
        clear hke
        go_wp2
        go_ret
        exact ⟨Kit.ret_int Hv.out.symm, Drawn.below B2.out HD.out⟩
set_option maxHeartbeats 1600000 in
set_option maxRecDepth 100000 in
theorem implCellsIn_any (A A' : Option Addr) (n n' c c' : Nat) (xs ys : Tr) (w : World) (h : NdIn w w.heap.size A n xs) (h' : NdIn w w.heap.size A' n' ys) (hn : n ≤ 1048576) (hn' : n' ≤ 1048576) (hc : n ≤ c) (hc' : n' ≤ c') :
    Calls Try.prog 24 #[.slice A n c, .slice A' n' c'] w fun e w' => e = .returned (.int .i64 (Tr.cells8 xs ys)) ∧ Below w.heap.size w w' := by
  have H := Lib.hid h
  have H' := Lib.hid h'
  have b1 := Tr.keySz_bound xs
  have b2 := Tr.keySz_bound ys
  have hm : 0 ≤ Tr.keySz xs * Tr.keySz ys ∧ Tr.keySz xs * Tr.keySz ys ≤ 576 * 576 := ⟨Int.mul_nonneg b1.1 b2.1, Int.mul_le_mul b1.2 b2.2 b2.1 (by omega)⟩
  have a1 : IntKind.i64.wrap (Tr.keySz xs * Tr.keySz ys) = Tr.keySz xs * Tr.keySz ys := Kit.w64 (by omega) (by omega)
  clear h h'
  go_enter Try.func24, Try.ntmps24
  go_wp2_with fail
  refine (keySizes_any _ _ _ xs _ H.out hn hc).mono ?_
  rintro e w1 ⟨rfl, b1⟩
  have H1 := Lib.hid (H'.out.to_below b1)
  have B1 := Lib.hid b1
  clear b1
  go_wp2_with fail
  refine (keySizes_any _ _ _ ys _ H1.out hn' hc').mono ?_
  rintro e w2 ⟨rfl, b2⟩
  have B2 := Lib.hid (B1.out.trans (b2.mono B1.out.size))
  clear b2
  go_wp2
  go_ret
  exact ⟨rfl, B2.out⟩

end Go.Proofs.Ytkccnlcghlkioaa
