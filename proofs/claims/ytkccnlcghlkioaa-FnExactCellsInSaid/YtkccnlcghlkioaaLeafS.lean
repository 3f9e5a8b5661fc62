/- Contracts (LeafS). -/
import Derived.Test.YtkccnlcghlkioaaRankS
import Derived.Test.YtkccnlcghlkioaaEndOfS
import Derived.BigQuiet
namespace Go.Proofs.Ytkccnlcghlkioaa
open Go.RowKit
set_option linter.unusedVariables false

theorem apart_of {w : World} {base size n m size' : Nat} {e e' : TypeId} {a b : Value} {xs ys : List Value} {w2 : World} (ha : w2.ownsRow base e size a n xs) (hb : w.ownsRow 0 e' size' b m ys) (h : w.heap.size ≤ base) : Apart a b := by
  rcases hq : a.ownBlock with _ | g
  · exact .inl hq
  · refine .inr ?_
    rw [hq]
    intro e
    have h1 := (ha.lt g hq).1
    have h2 := (hb.lt g e.symm).2
    omega
theorem Tr.rks_at {xs : Tr} {i : Nat} (hi : i < (Tr.post xs).length) : Zs.at (Zs.up (Tr.rks xs)) i = (Tr.rk xs i : Int) := by
  simp [Zs.at, Zs.up, Tr.rks, List.getD_eq_getElem?_getD, hi]
theorem Tr.post_z {xs : Tr} {k i : Nat} (h : (Tr.post xs)[k]? = some i) : Zs.at (Zs.up (Tr.post xs)) k = (i : Int) := by simp [Zs.at, Zs.up, List.getD_eq_getElem?_getD, h]
theorem Tr.lfs_z {xs : Tr} {k i : Nat} (h : (Tr.post xs)[k]? = some i) : Zs.up ((Tr.lfs xs).take (k + 1)) = Zs.up ((Tr.lfs xs).take k) ++ [((i - Tr.dn xs i : Nat) : Int)] := by
  have hk := (List.getElem?_eq_some_iff.1 h).1
  have e : (Tr.lfs xs)[k]? = some (i - Tr.dn xs i) := by simp [Tr.lfs, h]
  rw [List.take_add_one, e, Zs.up_append]
  rfl
theorem endOf_at (A : Option Addr) (n c : Nat) (xs : Tr) (j : Nat) (hok : Tr.ok xs = true) (hj : j < xs.length) (hn : n ≤ 1048576) (w : World) (h : NdIn w w.heap.size A n xs) :
    Calls Try.prog 55 #[.slice A n c, .int .i64 j] w fun e w' => e = .returned (.int .i64 ((Tr.endN xs j : Nat) : Int)) ∧ Drawn w w' := by
  have := specEndOf_any A n c xs j w h hn
  rw [Tr.endOf_yes (Tr.has_iff.2 ⟨hok, by omega, by omega⟩)] at this
  exact this
set_option maxHeartbeats 3200000 in
set_option maxRecDepth 100000 in
theorem specLeftLeaf_any (A : Option Addr) (n c : Nat) (xs : Tr) (w : World) (h : NdIn w w.heap.size A n xs) (hn : n ≤ 1048576) :
    Calls Try.prog 57 #[.slice A n c] w (OwnInts 3 (Zs.up (Tr.lfs xs)) w) := by
  have H := Lib.hid h
  clear h
  have HL := Lib.hid H.out.1
  obtain ⟨i0, hi, hz0, hz1, hz2⟩ := info_parts info_intP
  have Hi := Lib.hid hi
  clear hi
  have hml := Tr.post_len_le xs
  rw [H.out.1] at hml
  obtain ⟨m, hm⟩ : ∃ m, m = (Tr.post xs).length := ⟨_, rfl⟩
  have HM := Lib.hid hm
  rw [← hm] at hml
  have HP := Lib.hid (fun k => Tr.post_at (xs := xs) (k := k))
  clear hm
  have Ho := Lib.hid (World.ownsRow_lit (base := w.heap.size) (e := 3) (size := 1) w #[] 0 (Nat.le_refl _) (Nat.zero_le _) rfl)
  have HB := Lib.hid ((Below.refl w.heap.size w).alloc (Nat.le_refl _) (.cells #[] 3))
  have H1 := Lib.hid ((H.out.below HB.out).more HB.out.size)
  go_enter Try.func57, Try.ntmps57
  have hpre := HB.out.size
  go_wp2_with fail
  refine (specPostOrder_any _ _ _ xs _ H1.out hn).mono ?_
  rintro e w1 ⟨A1, c1, rfl, ho, hb⟩
  have HB := Lib.hid (HB.out.trans (hb.mono hpre))
  have O1 := Lib.hid ho
  rw [Zs.up_length, ← HM.out] at O1 ⊢
  have P1 := Lib.hid (apart_of O1.out (own_base Ho.out (Nat.zero_le _)) (Nat.le_refl _))
  have Ho := Lib.hid (own_below Ho.out hb)
  clear hb ho
  have H1 := Lib.hid ((H.out.below HB.out).more HB.out.size)
  have hpre := HB.out.size
  go_wp2_with fail
  refine (specRankOf_any _ _ _ xs _ H1.out hn).mono ?_
  rintro e w2 ⟨A2, c2, rfl, ho, hb⟩
  have HB := Lib.hid (HB.out.trans (hb.mono hpre))
  have O2 := Lib.hid ho
  rw [Zs.up_length, Tr.rks_length, ← HM.out] at O2 ⊢
  have P2 := Lib.hid (apart_of O2.out (own_base Ho.out (Nat.zero_le _)) (Nat.le_refl _))
  have Ho := Lib.hid (own_below Ho.out hb)
  have O1 := Lib.hid (own_base (own_below O1.out hb) (show w.heap.size ≤ _ by simp))
  have O2 := Lib.hid (own_base O2.out hpre)
  have hsx := HB.out.size
  clear hb ho
  go_wp2
  go_loopw [6, 3] (fun kv ov wr => ∃ k : Nat, k ≤ m ∧ kv = .int .i64 k ∧ wr.ownsRow w.heap.size 3 1 ov (Zs.up ((Tr.lfs xs).take k)).length (ints (Zs.up ((Tr.lfs xs).take k))) ∧ wr.ownsRow w.heap.size 3 1 (.slice A1 m c1) m (ints (Zs.up (Tr.post xs))) ∧ wr.ownsRow w.heap.size 3 1 (.slice A2 m c2) m (ints (Zs.up (Tr.rks xs))) ∧ Apart (.slice A1 m c1) ov ∧ Apart (.slice A2 m c2) ov ∧ Below w.heap.size w wr) (fun k _ _ => m - (intOf k).toNat)
  case atStart => exact ⟨0, Nat.zero_le _, rfl, Ho.out, O1.out, O2.out, P1.out, P2.out, HB.out⟩
  case round =>
    clear Ho HB O1 O2 P1 P2 hsx hpre
    obtain ⟨k, hk, rfl, hown, ho1, ho2, hp1, hp2, hB⟩ := hrel
    have Ho := Lib.hid hown
    have O1 := Lib.hid ho1
    have O2 := Lib.hid ho2
    have P1 := Lib.hid hp1
    have P2 := Lib.hid hp2
    have HB := Lib.hid hB
    clear hown ho1 ho2 hp1 hp2 hB
    obtain ⟨Ao, co, rfl⟩ := own_slice Ho.out
    by_cases hlt : k < m
    · obtain ⟨j, p1, p2, p3, p4, p5⟩ := HP.out k (by rw [← HM.out]; exact hlt)
      rw [← HM.out] at p1 p5
      obtain ⟨g1, rfl, _, _⟩ := own_form O1.out (by omega)
      obtain ⟨g2, rfl, _, _⟩ := own_form O2.out (by omega)
      have c1' := own_int O1.out (k := k) (by rw [Zs.up_length, ← HM.out]; exact hlt)
      rw [Tr.post_z p2] at c1'
      have Hz := Lib.hid (Tr.lfs_z p2)
      have Hch := Lib.hid (fun i => Tr.chain_end p4 (i0 := j) (i := i))
      have hj : j < xs.length := by omega
      have HE := Lib.hid (fun w' h' => endOf_at A n c xs j p4 hj hn w' h')
      have hE := Tr.endN_dn p4 hj
      have hE1 := hE.1
      have hE2 := hE.2.1
      rw [← p5] at hE2
      have Hdn := Lib.hid (fun i (hi : i < xs.length) => Tr.dn_eq p4 hi)
      have Hbd := Lib.hid (fun i (hi : i < xs.length) => (Tr.ok_at p4 hi).2.1)
      have hxn : n = m := by rw [p5]; exact HL.out.symm
      have k0 : (0 : Int) ≤ (k : Int) := by omega
      have k1 : (k : Int) < (m : Int) := by omega
      subst hxn
      have hml2 : n ≤ 24 := by have := (Tr.ok_iff.1 p4).2; omega
      clear hE p2 p3 p4 p5 hj
      go_wp2
      go_loopw [7] (fun iv wr' => ∃ i : Nat, j ≤ i ∧ i < Tr.endN xs j ∧ iv = .int .i64 i ∧ Tr.dn xs i = Tr.dn xs j + (i - j) ∧ Drawn wr wr') (fun i _ => n - (intOf i).toNat)
      case atStart => exact ⟨j, Nat.le_refl _, hE1, rfl, by omega, Drawn.refl _⟩
      case round =>
        obtain ⟨i, hi1, hi2, rfl, hid, hD⟩ := hrel
        have HD := Lib.hid hD
        have Hid := Lib.hid hid
        have c1'' : wr.cell? ⟨g1, k, none⟩ = some (.int .i64 (j : Int)) := by obtain ⟨q, rfl⟩ := hD; exact c1'
        have H2 := Lib.hid (((H.out.below HB.out).more HB.out.size).to_drawn hD)
        obtain ⟨ad, rfl, _, hl, hd⟩ := H2.out.at_ (k := i) (by omega)
        have a1 : IntKind.i64.wrap ((i : Int) + 1) = (i : Int) + 1 := Kit.w64 (by omega) (by omega)
        have hbi := Hbd.out i (by rw [HL.out]; omega)
        have a5 : IntKind.i64.wrap (Tr.d xs i + 1) = Tr.d xs i + 1 := Kit.w64 (by omega) (by omega)
        have i0' : (0 : Int) ≤ (i : Int) := by omega
        have i1' : (i : Int) < (n : Int) := by omega
        clear hD hid
        by_cases g1' : i + 1 < Tr.endN xs j
        · have e1 : decide ((i : Int) + 1 < ((Tr.endN xs j : Nat) : Int)) = true := by simp; omega
          have e1n : decide (i + 1 < Tr.endN xs j) = true := by simpa using g1'
          obtain ⟨hl', hd'⟩ := H2.out.here (k := i + 1) (by omega)
          have a2 : ((i : Int) + 1).toNat = i + 1 := by omega
          have a3 : (0 : Int) ≤ (i : Int) + 1 := by omega
          have a4 : (i : Int) + 1 < (n : Int) := by omega
          by_cases g2' : Tr.d xs (i + 1) = Tr.d xs i + 1
          · have e2 : (Tr.d xs (i + 1) == Tr.d xs i + 1) = true := by simpa using g2'
            have hd3 := Hdn.out i (by rw [HL.out]; omega)
            have hd4 := Hdn.out (i + 1) (by rw [HL.out]; omega)
            have Hn := Lib.hid (show Tr.dn xs (i + 1) = Tr.dn xs j + (i + 1 - j) by have := Hid.out; omega)
            clear hd3 hd4 g2'
            go_wp2
            go_quiet (first | (go_at_call 55; exact quiet_drawn (HE.out _ (H2.out.drewN _))))
            go_wp2
            go_roundw
            case rel => exact ⟨i + 1, by omega, g1', by go_num, Hn.out, HD.out.drewN _⟩
            case measure => simp [intOf]; omega
          · have e2 : (Tr.d xs (i + 1) == Tr.d xs i + 1) = false := by simpa using g2'
            have Hr := Lib.hid (Hch.out i hi1 hi2 (by rw [HL.out]; omega) Hid.out (fun q => g2' q.2))
            clear g2'
            go_wp2
            go_quiet (first | (go_at_call 55; exact quiet_drawn (HE.out _ (H2.out.drewN _))))
            have HDq := Lib.hid (HD.out.drewN nq)
            have Ho := Lib.hid (own_drawn Ho.out HDq.out)
            have O1 := Lib.hid (own_drawn O1.out HDq.out)
            have O2 := Lib.hid (own_drawn O2.out HDq.out)
            have HB := Lib.hid (Drawn.below HB.out HDq.out)
            have c2' := own_int O2.out (k := i) (by rw [Zs.up_length, Tr.rks_length, ← HM.out]; omega)
            rw [Tr.rks_at (by rw [← HM.out]; omega), Hr.out] at c2'
            have hsx := HB.out.size
            have hlt2 : ((Tr.lfs xs).take k).length ≤ k := List.length_take_le _ _
            go_wp2_with (at_builtin; go_loud (refine append_int_at (World.drewN wr nq) rfl _ _ 25 rfl w.heap.size 3 i0 Try.underlying25 Hi.out hz0 hz1 hz2 (.slice Ao (Zs.up ((Tr.lfs xs).take k)).length co) (Zs.up ((Tr.lfs xs).take k)).length (Zs.up ((Tr.lfs xs).take k)) rfl Ho.out rfl ((j - Tr.dn xs j : Nat) : Int) rfl (by rw [Zs.up_length]; omega) hsx ?_); intro v' w3 hown hgrow hwhere)
            have hb3 := Kit.below_own HB.out Ho.out hgrow
            have O1' := Lib.hid (World.ownsRow.kept (World.ownsRow.alloc O1.out _) hgrow P1.out)
            have O2' := Lib.hid (World.ownsRow.kept (World.ownsRow.alloc O2.out _) hgrow P2.out)
            have P1' := Lib.hid (P1.out.grew (World.ownsRow.alloc O1.out (.cells #[.int .i64 ((j - Tr.dn xs j : Nat) : Int)] 3)) (by simpa using hwhere))
            have P2' := Lib.hid (P2.out.grew (World.ownsRow.alloc O2.out (.cells #[.int .i64 ((j - Tr.dn xs j : Nat) : Int)] 3)) (by simpa using hwhere))
            rw [← Hz.out] at hown
            go_roundw
            case rel => exact ⟨k + 1, by omega, by go_num, hown, O1'.out, O2'.out, P1'.out, P2'.out, hb3⟩
            case measure => simp [intOf]; omega
        · have e1 : decide ((i : Int) + 1 < ((Tr.endN xs j : Nat) : Int)) = false := by simp; omega
          have e1n : decide (i + 1 < Tr.endN xs j) = false := by simpa using g1'
          have Hr := Lib.hid (Hch.out i hi1 hi2 (by rw [HL.out]; omega) Hid.out (fun q => g1' q.1))
          go_wp2
          go_quiet (first | (go_at_call 55; exact quiet_drawn (HE.out _ (H2.out.drewN _))))
          have HDq := Lib.hid (HD.out.drewN nq)
          have Ho := Lib.hid (own_drawn Ho.out HDq.out)
          have O1 := Lib.hid (own_drawn O1.out HDq.out)
          have O2 := Lib.hid (own_drawn O2.out HDq.out)
          have HB := Lib.hid (Drawn.below HB.out HDq.out)
          have c2' := own_int O2.out (k := i) (by rw [Zs.up_length, Tr.rks_length, ← HM.out]; omega)
          rw [Tr.rks_at (by rw [← HM.out]; omega), Hr.out] at c2'
          have hsx := HB.out.size
          have hlt2 : ((Tr.lfs xs).take k).length ≤ k := List.length_take_le _ _
          go_wp2_with (at_builtin; go_loud (refine append_int_at (World.drewN wr nq) rfl _ _ 25 rfl w.heap.size 3 i0 Try.underlying25 Hi.out hz0 hz1 hz2 (.slice Ao (Zs.up ((Tr.lfs xs).take k)).length co) (Zs.up ((Tr.lfs xs).take k)).length (Zs.up ((Tr.lfs xs).take k)) rfl Ho.out rfl ((j - Tr.dn xs j : Nat) : Int) rfl (by rw [Zs.up_length]; omega) hsx ?_); intro v' w3 hown hgrow hwhere)
          have hb3 := Kit.below_own HB.out Ho.out hgrow
          have O1' := Lib.hid (World.ownsRow.kept (World.ownsRow.alloc O1.out _) hgrow P1.out)
          have O2' := Lib.hid (World.ownsRow.kept (World.ownsRow.alloc O2.out _) hgrow P2.out)
          have P1' := Lib.hid (P1.out.grew (World.ownsRow.alloc O1.out (.cells #[.int .i64 ((j - Tr.dn xs j : Nat) : Int)] 3)) (by simpa using hwhere))
          have P2' := Lib.hid (P2.out.grew (World.ownsRow.alloc O2.out (.cells #[.int .i64 ((j - Tr.dn xs j : Nat) : Int)] 3)) (by simpa using hwhere))
          rw [← Hz.out] at hown
          go_roundw
          case rel => exact ⟨k + 1, by omega, by go_num, hown, O1'.out, O2'.out, P1'.out, P2'.out, hb3⟩
          case measure => simp [intOf]; omega
    · obtain rfl : k = m := by omega
      have Hl := Lib.hid (show (Tr.lfs xs).take k = Tr.lfs xs by rw [List.take_of_length_le (by rw [Tr.lfs_length]; exact Nat.le_of_eq HM.out.symm)])
      go_wp2
      go_ret
      exact ⟨Ao, co, by rw [show (Zs.up (Tr.lfs xs)).length = (Zs.up ((Tr.lfs xs).take k)).length by rw [Hl.out]]; rfl, by have := Ho.out; rw [Hl.out] at this; exact this, HB.out⟩

end Go.Proofs.Ytkccnlcghlkioaa
