/- Contracts (KidS). -/
import Derived.Test.YtkccnlcghlkioaaEndOfS
import Derived.Test.YtkccnlcghlkioaaRes
import Derived.Outline
namespace Go.Proofs.Ytkccnlcghlkioaa
open Go.RowKit
set_option linter.unusedVariables false

theorem info_intS : (Try.prog.info? 3).map (fun i => (i.zero, i.size, i.bytes)) = some (some (.int .i64 0), 1, 8) := by kernel_rfl

set_option maxHeartbeats 800000 in
set_option maxRecDepth 100000 in
theorem specKidsOf_any (A : Option Addr) (n c : Nat) (xs : Tr) (i : Int) (w : World) (h : NdIn w w.heap.size A n xs) (hn : n ≤ 1048576) :
    Calls Try.prog 100 #[.slice A n c, .int .i64 i] w (OwnInts 3 (Tr.kidsI xs i) w) := by
  have H := Lib.hid h
  clear h
  have HL := Lib.hid H.out.1
  obtain ⟨i0, hi, hz0, hz1, hz2⟩ := info_parts info_intS
  rcases hok : Tr.has xs i with _ | _
  · have Hf := Lib.hid (Tr.kidsI_no hok)
    have Hok := Lib.hid hok
    clear hok
    go_enter Try.func100, Try.ntmps100
    go_wp2
    refine wp_loop_rounds 1 ?_
    rw [rounds_succ]
    go_wp2_with fail
    refine (l3At_any _ _ _ xs _ _ ((H.out.to_below ((Below.refl _ _).alloc (Nat.le_refl _) _))) hn).mono ?_
    rintro e w1 ⟨rfl, hd1⟩
    have HB := Lib.hid (Drawn.below ((Below.refl w.heap.size w).alloc (Nat.le_refl _) _) hd1)
    have Ho := Lib.hid (own_drawn (World.ownsRow_lit (e := 3) (size := 1) w #[] 0 (Nat.le_refl _) (Nat.zero_le _) rfl) hd1)
    clear hd1
    rw [Hok.out]
    go_wp2
    go_ret
    exact ⟨_, _, by rw [Hf.out]; rfl, by rw [Hf.out]; exact Ho.out, HB.out⟩
  · have h1 := (Tr.has_iff.1 hok).2
    have h0 := (Tr.has_iff.1 hok).1
    rw [HL.out] at h1
    have hbd := Lib.hid fun k => Tr.ok_at (xs := xs) h0 (k := k)
    obtain ⟨j, rfl⟩ := Int.eq_ofNat_of_zero_le h1.1
    have hj : j < n := by omega
    have Hf := Lib.hid (Tr.kidsI_yes hok)
    have He := Lib.hid (Tr.endOf_yes hok)
    have hE := Tr.endN_spec xs j (by rw [HL.out]; exact hj)
    have hE1 := hE.1
    have hE2 := hE.2.1
    rw [HL.out] at hE2
    have Hok := Lib.hid hok
    clear hok h1 h0 hE
    go_enter Try.func100, Try.ntmps100
    go_wp2
    go_loopw [6, 5] (fun kv ov wr => ∃ k : Nat, j < k ∧ k ≤ Tr.endN xs j ∧ kv = .int .i64 k ∧ wr.ownsRow w.heap.size 3 1 ov (Tr.kidsZ xs j k).length (ints (Tr.kidsZ xs j k)) ∧ Below w.heap.size w wr) (fun k _ _ => n - (intOf k).toNat)
    case atStart => exact ⟨j + 1, by omega, by omega, by go_num, by rw [Tr.kidsZ_start]; exact World.ownsRow_lit w #[] 0 (Nat.le_refl _) (Nat.zero_le _) rfl, (Below.refl _ _).alloc (Nat.le_refl _) _⟩
    case round =>
      obtain ⟨k, hjk, hk, rfl, hown, hB⟩ := hrel
      have hz := Lib.hid (H.out.to_below hB)
      have Ho := Lib.hid hown
      have HB := Lib.hid hB
      clear hown hB
      go_wp2_with fail
      refine (l3At_any _ _ _ xs _ _ hz.out hn).mono ?_
      rintro e w1 ⟨rfl, hd1⟩
      have hz := Lib.hid (hz.out.to_drawn hd1)
      have Ho := Lib.hid (own_drawn Ho.out hd1)
      have HB := Lib.hid (Drawn.below HB.out hd1)
      clear hd1
      rw [Hok.out]
      go_wp2_with fail
      refine (specEndOf_any _ _ _ xs _ _ hz.out hn).mono ?_
      rintro e w2 ⟨rfl, hd2⟩
      have hz := Lib.hid (hz.out.to_drawn hd2)
      have Ho := Lib.hid (own_drawn Ho.out hd2)
      have HB := Lib.hid (Drawn.below HB.out hd2)
      have hsz2 := HB.out.size
      clear hd2
      rw [He.out]
      by_cases hlt : k < Tr.endN xs j
      · obtain ⟨ad, rfl, hb, hl, hd⟩ := hz.out.at_ (k := k) (by omega)
        obtain ⟨hl', hd'⟩ := hz.out.here hj
        clear hl hl'
        have Hs := Lib.hid (Tr.kidsZ_succ xs j k hjk)
        have hlen := Tr.kidsZ_len xs j k
        have hk0 : (0 : Int) ≤ (k : Int) := by omega
        have hj0 : (0 : Int) ≤ (j : Int) := by omega
        have hbj := (hbd.out j (by rw [HL.out]; exact hj)).2.1
        have a5 : IntKind.i64.wrap (Tr.d xs j + 1) = Tr.d xs j + 1 := Kit.w64 (by omega) (by omega)
        by_cases hq : Tr.d xs k = Tr.d xs j + 1
        · have q : (Tr.d xs k == Tr.d xs j + 1) = true := by simpa using hq
          have Hq := Lib.hid hq
          clear hq
          go_wp2
          go_quiet (fail)
          clear a5
          go_wp2_with (at_builtin; go_loud (refine append_int (World.drewN w2 nq) rfl _ _ 25 rfl w.heap.size 3 i0 Try.underlying25 hi hz0 hz1 hz2 u5 (Tr.kidsZ xs j k).length (Tr.kidsZ xs j k) rfl (Ho.out : World.ownsRow (World.drewN w2 nq) _ _ _ _ _ _) rfl (k : Int) rfl (by omega) hsz2 ?_; intro v1 w3 hown3 hgrow3))
          have hb3 := Kit.below_own (below_drewN HB.out _) (Ho.out : World.ownsRow (World.drewN w2 nq) _ _ _ _ _ _) hgrow3
          go_roundw
          case rel => exact ⟨k + 1, by omega, by omega, by go_num, by rw [Hs.out, if_pos Hq.out]; exact hown3, hb3⟩
          case measure => simp [intOf]; omega
        · have q : (Tr.d xs k == Tr.d xs j + 1) = false := by simpa using hq
          have Hq := Lib.hid hq
          clear hq
          go_wp2
          go_quiet (fail)
          clear a5
          go_wp2
          go_roundw
          case rel => exact ⟨k + 1, by omega, by omega, by go_num, by rw [Hs.out, if_neg (by have := Hq.out; omega)]; exact (Ho.out : World.ownsRow (World.drewN w2 nq) _ _ _ _ _ _), below_drewN HB.out _⟩
          case measure => simp [intOf]; omega
      · obtain rfl : k = Tr.endN xs j := by omega
        obtain ⟨A', c', rfl⟩ := own_slice Ho.out
        go_wp2
        go_ret
        exact ⟨A', c', by rw [Hf.out]; rfl, by rw [Hf.out]; exact Ho.out, HB.out⟩

end Go.Proofs.Ytkccnlcghlkioaa
