/- Contracts (CelS). -/
import Derived.Test.YtkccnlcghlkioaaCel
import Derived.Test.YtkccnlcghlkioaaKeyS
import Derived.Test.YtkccnlcghlkioaaLeafS
import Derived.Outline
namespace Go.Proofs.Ytkccnlcghlkioaa
open Go.RowKit
set_option linter.unusedVariables false

theorem Tr.krs_ok {xs : Tr} {k : Nat} (h : k < (Tr.krs xs).length) : Tr.ok xs = true := by
  cases e : Tr.ok xs with
  | true => rfl
  | false => rw [Tr.krs_no e] at h; simp at h
set_option maxHeartbeats 1600000 in
set_option maxRecDepth 100000 in
theorem specCellsIn_any (A A' : Option Addr) (n n' c c' : Nat) (xs ys : Tr) (w : World) (h : NdIn w w.heap.size A n xs) (h' : NdIn w w.heap.size A' n' ys) (hn : n ≤ 1048576) (hn' : n' ≤ 1048576) :
    Calls Try.prog 27 #[.slice A n c, .slice A' n' c'] w fun e w' => e = .returned (.int .i64 (Tr.cells8 xs ys)) ∧ Below w.heap.size w w' := by
  have H := Lib.hid h
  have H' := Lib.hid h'
  have KX := Lib.hid (Zs.up_length (Tr.krs xs))
  have KY := Lib.hid (Zs.up_length (Tr.krs ys))
  have SY := Lib.hid (Tr.keySz_bound ys)
  have SX := Lib.hid (Tr.keySz_bound xs)
  have hkl : ∀ zs : Tr, (Tr.krs zs).length ≤ 24 := fun zs => by
    cases e : Tr.ok zs with
    | false => rw [Tr.krs_no e]; simp
    | true => have := Tr.krs_le e; have := (Tr.len24 e).2; omega
  have klx := hkl xs
  have kly := hkl ys
  clear h h' hkl
  go_enter Try.func27, Try.ntmps27
  go_wp2_with fail
  refine (specKeyRoots_any _ _ _ xs _ H.out hn).mono ?_
  rintro e w1 ⟨A1, c1, rfl, o1, b1⟩
  have I1 := Lib.hid (IntIn.of_own o1)
  have H1 := Lib.hid (H.out.to_below b1)
  have H1' := Lib.hid (H'.out.to_below b1)
  have B1 := Lib.hid b1
  clear o1 b1
  rw [KX.out] at I1 ⊢
  go_wp2_with fail
  refine (specKeyRoots_any _ _ _ ys _ H1'.out hn').mono ?_
  rintro e w2 ⟨A2, c2, rfl, o2, b2⟩
  have I2 := Lib.hid (IntIn.of_own o2)
  have I1 := Lib.hid (I1.out.to_below b2)
  have H2 := Lib.hid (H1.out.to_below b2)
  have H2' := Lib.hid (H1'.out.to_below b2)
  have B2 := Lib.hid (B1.out.trans (b2.mono B1.out.size))
  clear o2 b2
  rw [KY.out] at I2 ⊢
  go_wp2_with fail
  refine (specLeftLeaf_any _ _ _ xs _ H2.out hn).mono ?_
  rintro e w3 ⟨A3, c3, rfl, o3, b3⟩
  have I3 := Lib.hid (IntIn.of_own o3)
  have I1 := Lib.hid (I1.out.to_below b3)
  have I2 := Lib.hid (I2.out.to_below b3)
  have H3' := Lib.hid (H2'.out.to_below b3)
  have B3 := Lib.hid (B2.out.trans (b3.mono B2.out.size))
  clear o3 b3
  go_wp2_with fail
  refine (specLeftLeaf_any _ _ _ ys _ H3'.out hn').mono ?_
  rintro e w4 ⟨A4, c4, rfl, o4, b4⟩
  have I4 := Lib.hid (IntIn.of_own o4)
  have I1 := Lib.hid (I1.out.to_below b4)
  have I2 := Lib.hid (I2.out.to_below b4)
  have I3 := Lib.hid (I3.out.to_below b4)
  have B4 := Lib.hid (B3.out.trans (b4.mono B3.out.size))
  clear o4 b4
  go_wp2
  go_loopw [10, 5] (fun kv sv wr => ∃ k : Nat, k ≤ (Tr.krs xs).length ∧ kv = .int .i64 k ∧ sv = .int .i64 (Tr.keyTo xs k * Tr.keySz ys) ∧ Drawn w4 wr) (fun k _ _ => (Tr.krs xs).length - (intOf k).toNat)
  case atStart => exact ⟨0, Nat.zero_le _, rfl, by simp [Tr.keyTo], Drawn.refl _⟩
  case round =>
    obtain ⟨k, hk, rfl, rfl, hD⟩ := hrel
    have HD := Lib.hid hD
    clear hD
    obtain ⟨s, hs⟩ : ∃ s, s = Tr.keyTo xs k * Tr.keySz ys := ⟨_, rfl⟩
    rw [← hs]
    by_cases hlt : k < (Tr.krs xs).length
    · have ox := Tr.krs_ok hlt
      have bk := Tr.keyTo_bound ox k hk
      have bs : 0 ≤ s ∧ s ≤ 331776 := by
        rw [hs]
        have b2 := SY.out
        exact ⟨Int.mul_nonneg bk.1 b2.1, Int.le_trans (Int.mul_le_mul (show _ ≤ (576 : Int) by omega) b2.2 b2.1 (by omega)) (by omega)⟩
      obtain ⟨ad1, rfl, _, r1⟩ := (I1.out.drawn HD.out).at_ hlt
      rw [Tr.kr_up hlt] at r1
      have hil := Tr.krs_lt ox (Tr.kr_mem hlt)
      have ilen : (Zs.up (Tr.lfs xs)).length = xs.length := by rw [Zs.up_length, Tr.lfs_len ox]
      obtain ⟨ad3, rfl, _, r3⟩ := (I3.out.drawn HD.out).at_ (k := Tr.kr xs k) (by rw [ilen]; exact hil)
      rw [Tr.la_up ox hil] at r3
      have bz := Tr.kz_bound ox hlt
      have x24 := (Tr.len24 ox).2
      obtain ⟨i, hi⟩ : ∃ i, i = Tr.kr xs k := ⟨_, rfl⟩
      obtain ⟨q, hq⟩ : ∃ q, q = Tr.la xs i := ⟨_, rfl⟩
      have hqi : q ≤ i := by rw [hq]; exact (Tr.la_nest ox i (by rw [hi]; exact hil)).1
      rw [← hi] at r1 r3 hil
      rw [← hq] at r3
      have hz : Tr.kz xs k = (i : Int) - (q : Int) + 1 := by unfold Tr.kz; rw [← hi, ← hq]
      have HZ := Lib.hid hz
      have HS := Lib.hid hs
      have i24 : i < 24 := by omega
      have k1 : (0 : Int) ≤ (k : Int) := by omega
      have k2 : (k : Int) < ((Tr.krs xs).length : Int) := by omega
      have k3 : (0 : Int) ≤ (i : Int) := by omega
      have k4 : (i : Int) < ((Zs.up (Tr.lfs xs)).length : Int) := by rw [ilen]; omega
      have r1' := (HD.out.cell _).symm.trans r1
      have r3' := (HD.out.cell _).symm.trans r3
      clear hi hq bz r1 r3 hs hz ilen hil
      go_wp2
      go_loopw [11, 5] (fun lv sv wr => ∃ l : Nat, l ≤ (Tr.krs ys).length ∧ lv = .int .i64 l ∧ sv = .int .i64 (s + ((i : Int) - (q : Int) + 1) * Tr.keyTo ys l) ∧ Drawn w4 wr) (fun l _ _ => (Tr.krs ys).length - (intOf l).toNat)
      case atStart => exact ⟨0, Nat.zero_le _, rfl, by simp [Tr.keyTo], HD.out⟩
      case round =>
        clear HD
        obtain ⟨l, hl, rfl, rfl, hD⟩ := hrel
        have HD := Lib.hid hD
        clear hD
        obtain ⟨t, ht⟩ : ∃ t, t = s + ((i : Int) - (q : Int) + 1) * Tr.keyTo ys l := ⟨_, rfl⟩
        rw [← ht]
        by_cases hlt2 : l < (Tr.krs ys).length
        · have oy := Tr.krs_ok hlt2
          have bl := Tr.keyTo_bound oy l hl
          have bt : 0 ≤ t ∧ t ≤ 1000000 := by
            rw [ht]
            have m1 : 0 ≤ ((i : Int) - (q : Int) + 1) * Tr.keyTo ys l := Int.mul_nonneg (by omega) bl.1
            have m2 : ((i : Int) - (q : Int) + 1) * Tr.keyTo ys l ≤ 24 * 576 := Int.mul_le_mul (by omega) (by omega) bl.1 (by omega)
            omega
          obtain ⟨ad2, rfl, _, r2⟩ := (I2.out.drawn HD.out).at_ hlt2
          rw [Tr.kr_up hlt2] at r2
          have hjl := Tr.krs_lt oy (Tr.kr_mem hlt2)
          have jlen : (Zs.up (Tr.lfs ys)).length = ys.length := by rw [Zs.up_length, Tr.lfs_len oy]
          obtain ⟨ad4, rfl, _, r4⟩ := (I4.out.drawn HD.out).at_ (k := Tr.kr ys l) (by rw [jlen]; exact hjl)
          rw [Tr.la_up oy hjl] at r4
          have y24 := (Tr.len24 oy).2
          obtain ⟨j, hj⟩ : ∃ j, j = Tr.kr ys l := ⟨_, rfl⟩
          obtain ⟨r, hr⟩ : ∃ r, r = Tr.la ys j := ⟨_, rfl⟩
          have hrj : r ≤ j := by rw [hr]; exact (Tr.la_nest oy j (by rw [hj]; exact hjl)).1
          rw [← hj] at r2 r4 hjl
          rw [← hr] at r4
          have hz : Tr.kz ys l = (j : Int) - (r : Int) + 1 := by unfold Tr.kz; rw [← hj, ← hr]
          have r1 := (HD.out.cell _).trans r1'
          have r3 := (HD.out.cell _).trans r3'
          obtain ⟨z, hzz⟩ : ∃ z, z = ((i : Int) - (q : Int) + 1) * ((j : Int) - (r : Int) + 1) := ⟨_, rfl⟩
          have bz : 0 ≤ z ∧ z ≤ 576 := by
            rw [hzz]
            exact ⟨Int.mul_nonneg (by omega) (by omega), Int.le_trans (Int.mul_le_mul (show _ ≤ (24 : Int) by omega) (show _ ≤ (24 : Int) by omega) (by omega) (by omega)) (by omega)⟩
          have a1 : IntKind.i64.wrap (((i : Int) - (q : Int) + 1) * ((j : Int) - (r : Int) + 1)) = z := by rw [← hzz]; exact Kit.w64 (by omega) (by omega)
          have hk1 : Tr.keyTo ys (l + 1) = Tr.keyTo ys l + ((j : Int) - (r : Int) + 1) := by simp only [Tr.keyTo]; rw [hz]
          have HN := Lib.hid (show t + z = s + ((i : Int) - (q : Int) + 1) * Tr.keyTo ys (l + 1) by rw [hk1, Int.mul_add ((i : Int) - (q : Int) + 1) (Tr.keyTo ys l) ((j : Int) - (r : Int) + 1), ← Int.add_assoc, ← ht, ← hzz])
          have j24 : j < 24 := by omega
          clear hk1
          have l1 : (0 : Int) ≤ (l : Int) := by omega
          have l2 : (l : Int) < ((Tr.krs ys).length : Int) := by omega
          have l3 : (0 : Int) ≤ (j : Int) := by omega
          have l4 : (j : Int) < ((Zs.up (Tr.lfs ys)).length : Int) := by rw [jlen]; omega
          have l5 : IntKind.i64.wrap (t + z) = t + z := Kit.w64 (by omega) (by omega)
          clear hj hr hz hzz ht jlen hjl bl
          go_wp2
          go_quiet (fail)
          go_wp2
          go_roundw
          case rel => exact ⟨l + 1, by omega, by go_num, by rw [HN.out], HD.out.drewN _⟩
          case measure => simp [intOf]; omega
        · have hle : l = (Tr.krs ys).length := by omega
          have HN := Lib.hid (show t = Tr.keyTo xs (k + 1) * Tr.keySz ys by rw [ht, HS.out, ← HZ.out, hle]; simp only [Tr.keyTo]; rw [Int.add_mul]; rfl)
          clear hle ht
          go_wp2
          go_roundw
          case rel => exact ⟨k + 1, by omega, by go_num, by rw [HN.out], HD.out⟩
          case measure => simp [intOf]; omega
    · have hke : k = (Tr.krs xs).length := by omega
      have Hv := Lib.hid (show Tr.cells8 xs ys = s by rw [hs, hke]; rfl)
      clear hke hs
      go_wp2
      go_ret
      exact ⟨Kit.ret_int Hv.out.symm, Drawn.below B4.out HD.out⟩

end Go.Proofs.Ytkccnlcghlkioaa
