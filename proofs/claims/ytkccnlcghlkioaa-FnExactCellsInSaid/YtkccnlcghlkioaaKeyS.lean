/- Contracts (KeyS). -/
import Derived.Test.YtkccnlcghlkioaaLeafS
namespace Go.Proofs.Ytkccnlcghlkioaa
open Go.RowKit
set_option linter.unusedVariables false

theorem Tr.lfs_at {xs : Tr} {k : Nat} (hk : k < (Tr.lfs xs).length) : Zs.at (Zs.up (Tr.lfs xs)) k = ((Tr.lfs xs).getD k 0 : Nat) := by
  simp [Zs.at, Zs.up, List.getD_eq_getElem?_getD, hk]
set_option maxHeartbeats 3200000 in
set_option maxRecDepth 100000 in
theorem specKeyRoots_any (A : Option Addr) (n c : Nat) (xs : Tr) (w : World) (h : NdIn w w.heap.size A n xs) (hn : n ≤ 1048576) :
    Calls Try.prog 56 #[.slice A n c] w (OwnInts 3 (Zs.up (Tr.krs xs)) w) := by
  have H := Lib.hid h
  clear h
  obtain ⟨i0, hi, hz0, hz1, hz2⟩ := info_parts info_intP
  have Hi := Lib.hid hi
  clear hi
  have hml := Tr.post_len_le xs
  rw [H.out.1, ← Tr.lfs_length] at hml
  obtain ⟨m, hm⟩ : ∃ m, m = (Tr.lfs xs).length := ⟨_, rfl⟩
  have HM := Lib.hid hm
  rw [← hm] at hml
  obtain ⟨F, hF⟩ : ∃ F, F = Tr.lfs xs := ⟨_, rfl⟩
  have HF := Lib.hid hF
  have HAt := Lib.hid (fun k => Tr.lfs_at (xs := xs) (k := k))
  have HS := Lib.hid (fun k => Tr.krTo_succ xs k)
  have HLe := Lib.hid (fun k => Tr.krTo_le xs k)
  have HK := Lib.hid (show Tr.krs xs = Tr.krTo xs m by rw [hm]; rfl)
  clear hm hF
  have Ho := Lib.hid (World.ownsRow_lit (base := w.heap.size) (e := 3) (size := 1) w #[] 0 (Nat.le_refl _) (Nat.zero_le _) rfl)
  have HB := Lib.hid ((Below.refl w.heap.size w).alloc (Nat.le_refl _) (.cells #[] 3))
  have H1 := Lib.hid ((H.out.below HB.out).more HB.out.size)
  go_enter Try.func56, Try.ntmps56
  have hpre := HB.out.size
  go_wp2_with fail
  refine (specLeftLeaf_any _ _ _ xs _ H1.out hn).mono ?_
  rintro e w1 ⟨A1, c1, rfl, ho, hb⟩
  have HB := Lib.hid (HB.out.trans (hb.mono hpre))
  have O1 := Lib.hid ho
  rw [Zs.up_length, ← HM.out] at O1 ⊢
  have P1 := Lib.hid (apart_of O1.out (own_base Ho.out (Nat.zero_le _)) (Nat.le_refl _))
  have Ho := Lib.hid (own_below Ho.out hb)
  have O1 := Lib.hid (own_base O1.out (show w.heap.size ≤ _ by simp))
  clear hb ho
  go_wp2
  go_loopw [5, 3] (fun kv ov wr => ∃ k : Nat, k ≤ m ∧ kv = .int .i64 k ∧ wr.ownsRow w.heap.size 3 1 ov (Zs.up (Tr.krTo xs k)).length (ints (Zs.up (Tr.krTo xs k))) ∧ wr.ownsRow w.heap.size 3 1 (.slice A1 m c1) m (ints (Zs.up (Tr.lfs xs))) ∧ Apart (.slice A1 m c1) ov ∧ Below w.heap.size w wr) (fun k _ _ => m - (intOf k).toNat)
  case atStart => exact ⟨0, Nat.zero_le _, rfl, Ho.out, O1.out, P1.out, HB.out⟩
  case round =>
    clear Ho HB O1 P1 hpre
    obtain ⟨k, hk, rfl, hown, ho1, hp1, hB⟩ := hrel
    have Ho := Lib.hid hown
    have O1 := Lib.hid ho1
    have P1 := Lib.hid hp1
    have HB := Lib.hid hB
    clear hown ho1 hp1 hB
    obtain ⟨Ao, co, rfl⟩ := own_slice Ho.out
    by_cases hlt : k < m
    · obtain ⟨g1, rfl, _, _⟩ := own_form O1.out (by omega)
      have k0 : (0 : Int) ≤ (k : Int) := by omega
      have k1 : (k : Int) < (m : Int) := by omega
      have a1 : IntKind.i64.wrap ((k : Int) + 1) = (k : Int) + 1 := Kit.w64 (by omega) (by omega)
      obtain ⟨x, hx⟩ : ∃ x : Int, x = ((F.getD k 0 : Nat) : Int) := ⟨_, rfl⟩
      have hck := own_int O1.out (k := k) (by rw [Zs.up_length, ← HM.out]; exact hlt)
      rw [HAt.out k (by rw [← HM.out]; exact hlt), ← HF.out, ← hx] at hck
      have Hx := Lib.hid hx
      clear hx
      go_wp2
      go_loopw [6, 7] (fun lv jv wr' => ∃ j : Nat, k < j ∧ j ≤ m ∧ lv = .bool (Zs.lastTo F k j) ∧ jv = .int .i64 j ∧ Drawn wr wr') (fun _ j _ => m - (intOf j).toNat)
      case atStart => exact ⟨k + 1, by omega, by omega, by rw [Zs.lastTo_start], by go_num, Drawn.refl _⟩
      case round =>
        obtain ⟨j, hj1, hj2, rfl, rfl, hD⟩ := hrel
        have HD := Lib.hid hD
        have O1 := Lib.hid (own_drawn O1.out hD)
        have Ho := Lib.hid (own_drawn Ho.out hD)
        have HB := Lib.hid (Drawn.below HB.out hD)
        have hck' : wr.cell? ⟨g1, k, none⟩ = some (.int .i64 x) := by obtain ⟨q, rfl⟩ := hD; exact hck
        clear hD
        by_cases hjm : j < m
        · have j0 : (0 : Int) ≤ (j : Int) := by omega
          have j1 : (j : Int) < (m : Int) := by omega
          have a2 : IntKind.i64.wrap ((j : Int) + 1) = (j : Int) + 1 := Kit.w64 (by omega) (by omega)
          obtain ⟨y, hy⟩ : ∃ y : Int, y = ((F.getD j 0 : Nat) : Int) := ⟨_, rfl⟩
          have hcj := own_int O1.out (k := j) (by rw [Zs.up_length, ← HM.out]; exact hjm)
          rw [HAt.out j (by rw [← HM.out]; exact hjm), ← HF.out, ← hy] at hcj
          have hs := Zs.lastTo_succ F k j hj1
          have hne : decide (F.getD j 0 ≠ F.getD k 0) = (y != x) := by
            rw [hy, Hx.out, Bool.eq_iff_iff]
            simp
            omega
          rw [hne] at hs
          have Hs := Lib.hid hs
          clear hs hne hy
          cases hb0 : Zs.lastTo F k j with
          | false =>
            rw [hb0] at Hs
            go_wp2
            go_quiet (fail)
            go_wp2
            go_roundw
            case rel => exact ⟨j + 1, by omega, by omega, by rw [Hs.out]; rfl, by go_num, HD.out.drewN _⟩
            case measure => simp [intOf]; omega
          | true =>
            rw [hb0] at Hs
            cases hq : (y != x) with
            | false =>
              rw [hq] at Hs
              go_wp2
              go_quiet (fail)
              go_wp2
              go_roundw
              case rel => exact ⟨j + 1, by omega, by omega, by rw [Hs.out]; rfl, by go_num, HD.out.drewN _⟩
              case measure => simp [intOf]; omega
            | true =>
              rw [hq] at Hs
              go_wp2
              go_quiet (fail)
              go_wp2
              go_roundw
              case rel => exact ⟨j + 1, by omega, by omega, by rw [Hs.out]; rfl, by go_num, HD.out.drewN _⟩
              case measure => simp [intOf]; omega
        · obtain rfl : j = m := by omega
          have hs := HS.out k
          rw [← HF.out, HF.out, ← HM.out, ← HF.out] at hs
          have hle := HLe.out k
          have hsx := HB.out.size
          cases hb0 : Zs.lastTo F k j with
          | false =>
            rw [hb0, if_neg (by simp)] at hs
            have Hs := Lib.hid hs
            clear hs
            go_wp2
            go_roundw
            case rel => exact ⟨k + 1, by omega, by go_num, by rw [Hs.out]; exact Ho.out, O1.out, P1.out, HB.out⟩
            case measure => simp [intOf]; omega
          | true =>
            rw [hb0, if_pos rfl] at hs
            have Hs := Lib.hid hs
            clear hs
            go_wp2_with (at_builtin; go_loud (refine append_int_at wr rfl _ _ 25 rfl w.heap.size 3 i0 Try.underlying25 Hi.out hz0 hz1 hz2 (.slice Ao (Zs.up (Tr.krTo xs k)).length co) (Zs.up (Tr.krTo xs k)).length (Zs.up (Tr.krTo xs k)) rfl Ho.out rfl (k : Int) rfl (by rw [Zs.up_length]; omega) hsx ?_); intro v' w3 hown hgrow hwhere)
            have hb3 := Kit.below_own HB.out Ho.out hgrow
            have O1' := Lib.hid (World.ownsRow.kept (World.ownsRow.alloc O1.out _) hgrow P1.out)
            have P1' := Lib.hid (P1.out.grew (World.ownsRow.alloc O1.out (.cells #[.int .i64 (k : Int)] 3)) (by simpa using hwhere))
            rw [show Zs.up (Tr.krTo xs k) ++ [(k : Int)] = Zs.up (Tr.krTo xs (k + 1)) by rw [Hs.out, Zs.up_append]; rfl] at hown
            go_roundw
            case rel => exact ⟨k + 1, by omega, by go_num, hown, O1'.out, P1'.out, hb3⟩
            case measure => simp [intOf]; omega
    · obtain rfl : k = m := by omega
      go_wp2
      go_ret
      exact ⟨Ao, co, by rw [show (Zs.up (Tr.krs xs)).length = (Zs.up (Tr.krTo xs k)).length by rw [HK.out]]; rfl, by rw [HK.out]; exact Ho.out, HB.out⟩

end Go.Proofs.Ytkccnlcghlkioaa
