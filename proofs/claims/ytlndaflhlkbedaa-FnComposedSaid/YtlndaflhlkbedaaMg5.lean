/- Texts of one claim laid into one file, in build order: RankS, LeafS, KeyS, LabOkI, Num, C1P, Cod, Base, DepI, TreeOkI. -/
import Derived.Test.YtlndaflhlkbedaaMg4
import Derived.BigQuiet
import Derived.Lib.Bytealg
import Derived.Lib.Strings
import Derived.Outline
import Derived.Test.YtlndaflhlkbedaaRows
import Derived.WalkKit
/- Contracts (RankS). -/
namespace Go.Proofs.Ytlndaflhlkbedaa
open Go.RowKit
set_option linter.unusedVariables false

theorem made_ints (z n : Nat) : (madeCells (Value.int .i64 0).cells (n * 1)).toList = ints (List.replicate n 0) := by
  unfold madeCells ints
  refine List.ext_getElem (by simp) fun k h1 h2 => ?_
  simp at h1 h2 ⊢
  show (#[Value.int .i64 0] : Array Value)[k % 1]! = _
  rw [Nat.mod_one]
  rfl
set_option maxHeartbeats 1600000 in
set_option maxRecDepth 100000 in
theorem specRankOf_any (A : Option Addr) (n c : Nat) (xs : Tr) (w : World) (h : NdIn w w.heap.size A n xs) (hn : n ≤ 1048576) :
    Calls Try.prog 79 #[.slice A n c] w (OwnInts 3 (Zs.up (Tr.rks xs)) w) := by
  have H := Lib.hid h
  clear h
  have HB := Lib.hid (Below.refl w.heap.size w)
  obtain ⟨i0, hi, hz0, hz1, hz2⟩ := info_parts info_intP
  have Hi := Lib.hid hi
  clear hi
  have hml := Tr.post_len_le xs
  rw [H.out.1] at hml
  obtain ⟨m, hm⟩ : ∃ m, m = (Tr.post xs).length := ⟨_, rfl⟩
  have HM := Lib.hid hm
  rw [← hm] at hml
  have HS := Lib.hid (fun i k => Tr.rkTo_set (xs := xs) (i := i) (k := k))
  have HP := Lib.hid (fun k => Tr.post_at (xs := xs) (k := k))
  clear hm
  go_enter Try.func79, Try.ntmps79
  go_wp2_with fail
  refine (specPostOrder_any _ _ _ xs _ H.out hn).mono ?_
  rintro e w1 ⟨A1, c1, rfl, ho, hb⟩
  have hsx := HB.out.size
  have HB := Lib.hid (HB.out.trans (hb.mono hsx))
  have I1 := Lib.hid (IntIn.of_own ho)
  clear ho hsx
  clear hb
  rw [Zs.up_length, ← HM.out] at I1 ⊢
  have hsx := HB.out.size
  go_wp2_with (at_make; go_loud (refine wpList_make_full _ rfl _ _ 25 rfl w1.heap.size 3 i0 (.int .i64 0) 1 Try.underlying25 Hi.out hz0 hz1 _ _ _ _ m rfl rfl rfl rfl (by rw [hz2]; omega) (by unfold maxLen; omega) (Nat.le_refl _) ?_); intro w2 hown2 hgrow2)
  have hb2 : Below w1.heap.size w1 w2 := (Below.refl _ w1).grown hgrow2 (Nat.le_refl _) (fun _ h => by cases h)
  rw [made_ints 0, show List.replicate m (0 : Int) = Zs.up (Tr.rkTo xs 0) by rw [Tr.rkTo_zero, ← HM.out]; simp [Zs.up]] at hown2
  have HO2 := Lib.hid hown2
  have HB2 := Lib.hid hb2
  clear hown2 hgrow2 hb2
  go_wp2
  go_loopw [5] (fun kv wr => ∃ k : Nat, k ≤ m ∧ kv = .int .i64 k ∧ wr.ownsRow w1.heap.size 3 1 (.slice (some ⟨w1.heap.size, 0, none⟩) m m) m (ints (Zs.up (Tr.rkTo xs k))) ∧ Below w1.heap.size w1 wr) (fun k _ => m - (intOf k).toNat)
  case atStart => exact ⟨0, Nat.zero_le _, rfl, HO2.out, HB2.out⟩
  case round =>
    clear HO2 HB2
    obtain ⟨k, hk, rfl, hown, hB⟩ := hrel
    have Ho := Lib.hid hown
    have HB2 := Lib.hid hB
    clear hown hB
    by_cases hlt : k < m
    · obtain ⟨i, p1, p2, p3, p4, p5⟩ := HP.out k (by rw [← HM.out]; exact hlt)
      rw [← HM.out] at p1
      have hset := HS.out i k (by rw [← HM.out]; exact p1) p3
      obtain ⟨ad, rfl, _, c1⟩ := (I1.out.below HB2.out).at_ hlt
      have hz : Zs.at (Zs.up (Tr.post xs)) k = (i : Int) := by simp [Zs.at, Zs.up, List.getD_eq_getElem?_getD, p2]
      rw [hz] at c1
      have c0 := own_int Ho.out (k := i) (by rw [Zs.up_length, Tr.rkTo_length, ← HM.out]; exact p1)
      have f0 := Ho.out.frozenAt i
      have b0 : (0 : Int) ≤ (i : Int) := by omega
      have b1 : (i : Int) < (m : Int) := by omega
      have b2 : (0 : Int) ≤ (k : Int) := by omega
      have b3 : (k : Int) < (m : Int) := by omega
      have Hset := Lib.hid hset
      clear p2 p3 p4 p5 hset hz
      go_wp2
      go_roundw
      case rel =>
        refine ⟨k + 1, by omega, by go_num, ?_, HB2.out.setCell (Nat.le_refl _) _⟩
        have := (Ho.out.stored i (.int .i64 (k : Int))).1
        rw [ints_set] at this
        rw [← Hset.out, Zs.up, List.map_set]
        exact this
      case measure => simp [intOf]; omega
    · obtain rfl : k = m := by omega
      have Hall := Lib.hid (show Tr.rkTo xs k = Tr.rks xs by rw [HM.out]; exact Tr.rkTo_all xs)
      rw [Hall.out] at Ho
      have Hl := Lib.hid (show (Zs.up (Tr.rks xs)).length = k by rw [Zs.up_length, Tr.rks_length]; exact HM.out.symm)
      go_wp2
      go_ret
      exact ⟨some ⟨w1.heap.size, 0, none⟩, k, by rw [Hl.out]; rfl, by rw [Hl.out]; exact own_base Ho.out hsx, HB.out.trans (HB2.out.mono hsx)⟩

end Go.Proofs.Ytlndaflhlkbedaa

/- Contracts (LeafS). -/
namespace Go.Proofs.Ytlndaflhlkbedaa
open Go.RowKit
set_option linter.unusedVariables false

theorem apart_of {w : World} {base size n m size' : Nat} {e e' : TypeId} {a b : Value} {xs ys : List Value} {w2 : World} (ha : w2.ownsRow base e size a n xs) (hb : w.ownsRow 0 e' size' b m ys) (h : w.heap.size ≤ base) : Apart a b := by
  rcases hq : a.ownBlock with _ | g
  · exact .inl hq
  · refine .inr ?_
    rw [hq]
    intro e
    have h1 := (ha.lt g hq).1
    have h2 := (hb.lt g e.symm).2
    omega
theorem Tr.rks_at {xs : Tr} {i : Nat} (hi : i < (Tr.post xs).length) : Zs.at (Zs.up (Tr.rks xs)) i = (Tr.rk xs i : Int) := by
  simp [Zs.at, Zs.up, Tr.rks, List.getD_eq_getElem?_getD, hi]
theorem Tr.post_z {xs : Tr} {k i : Nat} (h : (Tr.post xs)[k]? = some i) : Zs.at (Zs.up (Tr.post xs)) k = (i : Int) := by simp [Zs.at, Zs.up, List.getD_eq_getElem?_getD, h]
theorem Tr.lfs_z {xs : Tr} {k i : Nat} (h : (Tr.post xs)[k]? = some i) : Zs.up ((Tr.lfs xs).take (k + 1)) = Zs.up ((Tr.lfs xs).take k) ++ [((i - Tr.dn xs i : Nat) : Int)] := by
  have hk := (List.getElem?_eq_some_iff.1 h).1
  have e : (Tr.lfs xs)[k]? = some (i - Tr.dn xs i) := by simp [Tr.lfs, h]
  rw [List.take_add_one, e, Zs.up_append]
  rfl
theorem endOf_at (A : Option Addr) (n c : Nat) (xs : Tr) (j : Nat) (hok : Tr.ok xs = true) (hj : j < xs.length) (hn : n ≤ 1048576) (w : World) (h : NdIn w w.heap.size A n xs) :
    Calls Try.prog 80 #[.slice A n c, .int .i64 j] w fun e w' => e = .returned (.int .i64 ((Tr.endN xs j : Nat) : Int)) ∧ Drawn w w' := by
  have := specEndOf_any A n c xs j w h hn
  rw [Tr.endOf_yes (Tr.has_iff.2 ⟨hok, by omega, by omega⟩)] at this
  exact this
set_option maxHeartbeats 3200000 in
set_option maxRecDepth 100000 in
theorem specLeftLeaf_any (A : Option Addr) (n c : Nat) (xs : Tr) (w : World) (h : NdIn w w.heap.size A n xs) (hn : n ≤ 1048576) :
    Calls Try.prog 25 #[.slice A n c] w (OwnInts 3 (Zs.up (Tr.lfs xs)) w) := by
  have H := Lib.hid h
  clear h
  have HL := Lib.hid H.out.1
  obtain ⟨i0, hi, hz0, hz1, hz2⟩ := info_parts info_intP
  have Hi := Lib.hid hi
  clear hi
  have hml := Tr.post_len_le xs
  rw [H.out.1] at hml
  obtain ⟨m, hm⟩ : ∃ m, m = (Tr.post xs).length := ⟨_, rfl⟩
  have HM := Lib.hid hm
  rw [← hm] at hml
  have HP := Lib.hid (fun k => Tr.post_at (xs := xs) (k := k))
  clear hm
  have Ho := Lib.hid (World.ownsRow_lit (base := w.heap.size) (e := 3) (size := 1) w #[] 0 (Nat.le_refl _) (Nat.zero_le _) rfl)
  have HB := Lib.hid ((Below.refl w.heap.size w).alloc (Nat.le_refl _) (.cells #[] 3))
  have H1 := Lib.hid ((H.out.below HB.out).more HB.out.size)
  go_enter Try.func25, Try.ntmps25
  have hpre := HB.out.size
  go_wp2_with fail
  refine (specPostOrder_any _ _ _ xs _ H1.out hn).mono ?_
  rintro e w1 ⟨A1, c1, rfl, ho, hb⟩
  have HB := Lib.hid (HB.out.trans (hb.mono hpre))
  have O1 := Lib.hid ho
  rw [Zs.up_length, ← HM.out] at O1 ⊢
  have P1 := Lib.hid (apart_of O1.out (own_base Ho.out (Nat.zero_le _)) (Nat.le_refl _))
  have Ho := Lib.hid (own_below Ho.out hb)
  clear hb ho
  have H1 := Lib.hid ((H.out.below HB.out).more HB.out.size)
  have hpre := HB.out.size
  go_wp2_with fail
  refine (specRankOf_any _ _ _ xs _ H1.out hn).mono ?_
  rintro e w2 ⟨A2, c2, rfl, ho, hb⟩
  have HB := Lib.hid (HB.out.trans (hb.mono hpre))
  have O2 := Lib.hid ho
  rw [Zs.up_length, Tr.rks_length, ← HM.out] at O2 ⊢
  have P2 := Lib.hid (apart_of O2.out (own_base Ho.out (Nat.zero_le _)) (Nat.le_refl _))
  have Ho := Lib.hid (own_below Ho.out hb)
  have O1 := Lib.hid (own_base (own_below O1.out hb) (show w.heap.size ≤ _ by simp))
  have O2 := Lib.hid (own_base O2.out hpre)
  have hsx := HB.out.size
  clear hb ho
  go_wp2
  go_loopw [6, 3] (fun kv ov wr => ∃ k : Nat, k ≤ m ∧ kv = .int .i64 k ∧ wr.ownsRow w.heap.size 3 1 ov (Zs.up ((Tr.lfs xs).take k)).length (ints (Zs.up ((Tr.lfs xs).take k))) ∧ wr.ownsRow w.heap.size 3 1 (.slice A1 m c1) m (ints (Zs.up (Tr.post xs))) ∧ wr.ownsRow w.heap.size 3 1 (.slice A2 m c2) m (ints (Zs.up (Tr.rks xs))) ∧ Apart (.slice A1 m c1) ov ∧ Apart (.slice A2 m c2) ov ∧ Below w.heap.size w wr) (fun k _ _ => m - (intOf k).toNat)
  case atStart => exact ⟨0, Nat.zero_le _, rfl, Ho.out, O1.out, O2.out, P1.out, P2.out, HB.out⟩
  case round =>
    clear Ho HB O1 O2 P1 P2 hsx hpre
    obtain ⟨k, hk, rfl, hown, ho1, ho2, hp1, hp2, hB⟩ := hrel
    have Ho := Lib.hid hown
    have O1 := Lib.hid ho1
    have O2 := Lib.hid ho2
    have P1 := Lib.hid hp1
    have P2 := Lib.hid hp2
    have HB := Lib.hid hB
    clear hown ho1 ho2 hp1 hp2 hB
    obtain ⟨Ao, co, rfl⟩ := own_slice Ho.out
    by_cases hlt : k < m
    · obtain ⟨j, p1, p2, p3, p4, p5⟩ := HP.out k (by rw [← HM.out]; exact hlt)
      rw [← HM.out] at p1 p5
      obtain ⟨g1, rfl, _, _⟩ := own_form O1.out (by omega)
      obtain ⟨g2, rfl, _, _⟩ := own_form O2.out (by omega)
      have c1' := own_int O1.out (k := k) (by rw [Zs.up_length, ← HM.out]; exact hlt)
      rw [Tr.post_z p2] at c1'
      have Hz := Lib.hid (Tr.lfs_z p2)
      have Hch := Lib.hid (fun i => Tr.chain_end p4 (i0 := j) (i := i))
      have hj : j < xs.length := by omega
      have HE := Lib.hid (fun w' h' => endOf_at A n c xs j p4 hj hn w' h')
      have hE := Tr.endN_dn p4 hj
      have hE1 := hE.1
      have hE2 := hE.2.1
      rw [← p5] at hE2
      have Hdn := Lib.hid (fun i (hi : i < xs.length) => Tr.dn_eq p4 hi)
      have Hbd := Lib.hid (fun i (hi : i < xs.length) => (Tr.ok_at p4 hi).2.1)
      have hxn : n = m := by rw [p5]; exact HL.out.symm
      have k0 : (0 : Int) ≤ (k : Int) := by omega
      have k1 : (k : Int) < (m : Int) := by omega
      subst hxn
      have hml2 : n ≤ 24 := by have := (Tr.ok_iff.1 p4).2; omega
      clear hE p2 p3 p4 p5 hj
      go_wp2
      go_loopw [7] (fun iv wr' => ∃ i : Nat, j ≤ i ∧ i < Tr.endN xs j ∧ iv = .int .i64 i ∧ Tr.dn xs i = Tr.dn xs j + (i - j) ∧ Drawn wr wr') (fun i _ => n - (intOf i).toNat)
      case atStart => exact ⟨j, Nat.le_refl _, hE1, rfl, by omega, Drawn.refl _⟩
      case round =>
        obtain ⟨i, hi1, hi2, rfl, hid, hD⟩ := hrel
        have HD := Lib.hid hD
        have Hid := Lib.hid hid
        have c1'' : wr.cell? ⟨g1, k, none⟩ = some (.int .i64 (j : Int)) := by obtain ⟨q, rfl⟩ := hD; exact c1'
        have H2 := Lib.hid (((H.out.below HB.out).more HB.out.size).to_drawn hD)
        obtain ⟨ad, rfl, _, hl, hd⟩ := H2.out.at_ (k := i) (by omega)
        have a1 : IntKind.i64.wrap ((i : Int) + 1) = (i : Int) + 1 := Kit.w64 (by omega) (by omega)
        have hbi := Hbd.out i (by rw [HL.out]; omega)
        have a5 : IntKind.i64.wrap (Tr.d xs i + 1) = Tr.d xs i + 1 := Kit.w64 (by omega) (by omega)
        have i0' : (0 : Int) ≤ (i : Int) := by omega
        have i1' : (i : Int) < (n : Int) := by omega
        clear hD hid
        by_cases g1' : i + 1 < Tr.endN xs j
        · have e1 : decide ((i : Int) + 1 < ((Tr.endN xs j : Nat) : Int)) = true := by simp; omega
          have e1n : decide (i + 1 < Tr.endN xs j) = true := by simpa using g1'
          obtain ⟨hl', hd'⟩ := H2.out.here (k := i + 1) (by omega)
          have a2 : ((i : Int) + 1).toNat = i + 1 := by omega
          have a3 : (0 : Int) ≤ (i : Int) + 1 := by omega
          have a4 : (i : Int) + 1 < (n : Int) := by omega
          by_cases g2' : Tr.d xs (i + 1) = Tr.d xs i + 1
          · have e2 : (Tr.d xs (i + 1) == Tr.d xs i + 1) = true := by simpa using g2'
            have hd3 := Hdn.out i (by rw [HL.out]; omega)
            have hd4 := Hdn.out (i + 1) (by rw [HL.out]; omega)
            have Hn := Lib.hid (show Tr.dn xs (i + 1) = Tr.dn xs j + (i + 1 - j) by have := Hid.out; omega)
            clear hd3 hd4 g2'
            go_wp2
            go_quiet (first | (go_at_call 80; exact quiet_drawn (HE.out _ (H2.out.drewN _))))
            go_wp2
            go_roundw
            case rel => exact ⟨i + 1, by omega, g1', by go_num, Hn.out, HD.out.drewN _⟩
            case measure => simp [intOf]; omega
          · have e2 : (Tr.d xs (i + 1) == Tr.d xs i + 1) = false := by simpa using g2'
            have Hr := Lib.hid (Hch.out i hi1 hi2 (by rw [HL.out]; omega) Hid.out (fun q => g2' q.2))
            clear g2'
            go_wp2
            go_quiet (first | (go_at_call 80; exact quiet_drawn (HE.out _ (H2.out.drewN _))))
            have HDq := Lib.hid (HD.out.drewN nq)
            have Ho := Lib.hid (own_drawn Ho.out HDq.out)
            have O1 := Lib.hid (own_drawn O1.out HDq.out)
            have O2 := Lib.hid (own_drawn O2.out HDq.out)
            have HB := Lib.hid (Drawn.below HB.out HDq.out)
            have c2' := own_int O2.out (k := i) (by rw [Zs.up_length, Tr.rks_length, ← HM.out]; omega)
            rw [Tr.rks_at (by rw [← HM.out]; omega), Hr.out] at c2'
            have hsx := HB.out.size
            have hlt2 : ((Tr.lfs xs).take k).length ≤ k := List.length_take_le _ _
            go_wp2_with (at_builtin; go_loud (refine append_int_at (World.drewN wr nq) rfl _ _ 25 rfl w.heap.size 3 i0 Try.underlying25 Hi.out hz0 hz1 hz2 (.slice Ao (Zs.up ((Tr.lfs xs).take k)).length co) (Zs.up ((Tr.lfs xs).take k)).length (Zs.up ((Tr.lfs xs).take k)) rfl Ho.out rfl ((j - Tr.dn xs j : Nat) : Int) rfl (by rw [Zs.up_length]; omega) hsx ?_); intro v' w3 hown hgrow hwhere)
            have hb3 := Kit.below_own HB.out Ho.out hgrow
            have O1' := Lib.hid (World.ownsRow.kept (World.ownsRow.alloc O1.out _) hgrow P1.out)
            have O2' := Lib.hid (World.ownsRow.kept (World.ownsRow.alloc O2.out _) hgrow P2.out)
            have P1' := Lib.hid (P1.out.grew (World.ownsRow.alloc O1.out (.cells #[.int .i64 ((j - Tr.dn xs j : Nat) : Int)] 3)) (by simpa using hwhere))
            have P2' := Lib.hid (P2.out.grew (World.ownsRow.alloc O2.out (.cells #[.int .i64 ((j - Tr.dn xs j : Nat) : Int)] 3)) (by simpa using hwhere))
            rw [← Hz.out] at hown
            go_roundw
            case rel => exact ⟨k + 1, by omega, by go_num, hown, O1'.out, O2'.out, P1'.out, P2'.out, hb3⟩
            case measure => simp [intOf]; omega
        · have e1 : decide ((i : Int) + 1 < ((Tr.endN xs j : Nat) : Int)) = false := by simp; omega
          have e1n : decide (i + 1 < Tr.endN xs j) = false := by simpa using g1'
          have Hr := Lib.hid (Hch.out i hi1 hi2 (by rw [HL.out]; omega) Hid.out (fun q => g1' q.1))
          go_wp2
          go_quiet (first | (go_at_call 80; exact quiet_drawn (HE.out _ (H2.out.drewN _))))
          have HDq := Lib.hid (HD.out.drewN nq)
          have Ho := Lib.hid (own_drawn Ho.out HDq.out)
          have O1 := Lib.hid (own_drawn O1.out HDq.out)
          have O2 := Lib.hid (own_drawn O2.out HDq.out)
          have HB := Lib.hid (Drawn.below HB.out HDq.out)
          have c2' := own_int O2.out (k := i) (by rw [Zs.up_length, Tr.rks_length, ← HM.out]; omega)
          rw [Tr.rks_at (by rw [← HM.out]; omega), Hr.out] at c2'
          have hsx := HB.out.size
          have hlt2 : ((Tr.lfs xs).take k).length ≤ k := List.length_take_le _ _
          go_wp2_with (at_builtin; go_loud (refine append_int_at (World.drewN wr nq) rfl _ _ 25 rfl w.heap.size 3 i0 Try.underlying25 Hi.out hz0 hz1 hz2 (.slice Ao (Zs.up ((Tr.lfs xs).take k)).length co) (Zs.up ((Tr.lfs xs).take k)).length (Zs.up ((Tr.lfs xs).take k)) rfl Ho.out rfl ((j - Tr.dn xs j : Nat) : Int) rfl (by rw [Zs.up_length]; omega) hsx ?_); intro v' w3 hown hgrow hwhere)
          have hb3 := Kit.below_own HB.out Ho.out hgrow
          have O1' := Lib.hid (World.ownsRow.kept (World.ownsRow.alloc O1.out _) hgrow P1.out)
          have O2' := Lib.hid (World.ownsRow.kept (World.ownsRow.alloc O2.out _) hgrow P2.out)
          have P1' := Lib.hid (P1.out.grew (World.ownsRow.alloc O1.out (.cells #[.int .i64 ((j - Tr.dn xs j : Nat) : Int)] 3)) (by simpa using hwhere))
          have P2' := Lib.hid (P2.out.grew (World.ownsRow.alloc O2.out (.cells #[.int .i64 ((j - Tr.dn xs j : Nat) : Int)] 3)) (by simpa using hwhere))
          rw [← Hz.out] at hown
          go_roundw
          case rel => exact ⟨k + 1, by omega, by go_num, hown, O1'.out, O2'.out, P1'.out, P2'.out, hb3⟩
          case measure => simp [intOf]; omega
    · obtain rfl : k = m := by omega
      have Hl := Lib.hid (show (Tr.lfs xs).take k = Tr.lfs xs by rw [List.take_of_length_le (by rw [Tr.lfs_length]; exact Nat.le_of_eq HM.out.symm)])
      go_wp2
      go_ret
      exact ⟨Ao, co, by rw [show (Zs.up (Tr.lfs xs)).length = (Zs.up ((Tr.lfs xs).take k)).length by rw [Hl.out]]; rfl, by have := Ho.out; rw [Hl.out] at this; exact this, HB.out⟩

end Go.Proofs.Ytlndaflhlkbedaa

/- Contracts (KeyS). -/
namespace Go.Proofs.Ytlndaflhlkbedaa
open Go.RowKit
set_option linter.unusedVariables false

theorem Tr.lfs_at {xs : Tr} {k : Nat} (hk : k < (Tr.lfs xs).length) : Zs.at (Zs.up (Tr.lfs xs)) k = ((Tr.lfs xs).getD k 0 : Nat) := by
  simp [Zs.at, Zs.up, List.getD_eq_getElem?_getD, hk]
set_option maxHeartbeats 3200000 in
set_option maxRecDepth 100000 in
theorem specKeyRoots_any (A : Option Addr) (n c : Nat) (xs : Tr) (w : World) (h : NdIn w w.heap.size A n xs) (hn : n ≤ 1048576) :
    Calls Try.prog 120 #[.slice A n c] w (OwnInts 3 (Zs.up (Tr.krs xs)) w) := by
  have H := Lib.hid h
  clear h
  obtain ⟨i0, hi, hz0, hz1, hz2⟩ := info_parts info_intP
  have Hi := Lib.hid hi
  clear hi
  have hml := Tr.post_len_le xs
  rw [H.out.1, ← Tr.lfs_length] at hml
  obtain ⟨m, hm⟩ : ∃ m, m = (Tr.lfs xs).length := ⟨_, rfl⟩
  have HM := Lib.hid hm
  rw [← hm] at hml
  obtain ⟨F, hF⟩ : ∃ F, F = Tr.lfs xs := ⟨_, rfl⟩
  have HF := Lib.hid hF
  have HAt := Lib.hid (fun k => Tr.lfs_at (xs := xs) (k := k))
  have HS := Lib.hid (fun k => Tr.krTo_succ xs k)
  have HLe := Lib.hid (fun k => Tr.krTo_le xs k)
  have HK := Lib.hid (show Tr.krs xs = Tr.krTo xs m by rw [hm]; rfl)
  clear hm hF
  have Ho := Lib.hid (World.ownsRow_lit (base := w.heap.size) (e := 3) (size := 1) w #[] 0 (Nat.le_refl _) (Nat.zero_le _) rfl)
  have HB := Lib.hid ((Below.refl w.heap.size w).alloc (Nat.le_refl _) (.cells #[] 3))
  have H1 := Lib.hid ((H.out.below HB.out).more HB.out.size)
  go_enter Try.func120, Try.ntmps120
  have hpre := HB.out.size
  go_wp2_with fail
  refine (specLeftLeaf_any _ _ _ xs _ H1.out hn).mono ?_
  rintro e w1 ⟨A1, c1, rfl, ho, hb⟩
  have HB := Lib.hid (HB.out.trans (hb.mono hpre))
  have O1 := Lib.hid ho
  rw [Zs.up_length, ← HM.out] at O1 ⊢
  have P1 := Lib.hid (apart_of O1.out (own_base Ho.out (Nat.zero_le _)) (Nat.le_refl _))
  have Ho := Lib.hid (own_below Ho.out hb)
  have O1 := Lib.hid (own_base O1.out (show w.heap.size ≤ _ by simp))
  clear hb ho
  go_wp2
  go_loopw [5, 3] (fun kv ov wr => ∃ k : Nat, k ≤ m ∧ kv = .int .i64 k ∧ wr.ownsRow w.heap.size 3 1 ov (Zs.up (Tr.krTo xs k)).length (ints (Zs.up (Tr.krTo xs k))) ∧ wr.ownsRow w.heap.size 3 1 (.slice A1 m c1) m (ints (Zs.up (Tr.lfs xs))) ∧ Apart (.slice A1 m c1) ov ∧ Below w.heap.size w wr) (fun k _ _ => m - (intOf k).toNat)
  case atStart => exact ⟨0, Nat.zero_le _, rfl, Ho.out, O1.out, P1.out, HB.out⟩
  case round =>
    clear Ho HB O1 P1 hpre
    obtain ⟨k, hk, rfl, hown, ho1, hp1, hB⟩ := hrel
    have Ho := Lib.hid hown
    have O1 := Lib.hid ho1
    have P1 := Lib.hid hp1
    have HB := Lib.hid hB
    clear hown ho1 hp1 hB
    obtain ⟨Ao, co, rfl⟩ := own_slice Ho.out
    by_cases hlt : k < m
    · obtain ⟨g1, rfl, _, _⟩ := own_form O1.out (by omega)
      have k0 : (0 : Int) ≤ (k : Int) := by omega
      have k1 : (k : Int) < (m : Int) := by omega
      have a1 : IntKind.i64.wrap ((k : Int) + 1) = (k : Int) + 1 := Kit.w64 (by omega) (by omega)
      obtain ⟨x, hx⟩ : ∃ x : Int, x = ((F.getD k 0 : Nat) : Int) := ⟨_, rfl⟩
      have hck := own_int O1.out (k := k) (by rw [Zs.up_length, ← HM.out]; exact hlt)
      rw [HAt.out k (by rw [← HM.out]; exact hlt), ← HF.out, ← hx] at hck
      have Hx := Lib.hid hx
      clear hx
      go_wp2
      go_loopw [6, 7] (fun lv jv wr' => ∃ j : Nat, k < j ∧ j ≤ m ∧ lv = .bool (Zs.lastTo F k j) ∧ jv = .int .i64 j ∧ Drawn wr wr') (fun _ j _ => m - (intOf j).toNat)
      case atStart => exact ⟨k + 1, by omega, by omega, by rw [Zs.lastTo_start], by go_num, Drawn.refl _⟩
      case round =>
        obtain ⟨j, hj1, hj2, rfl, rfl, hD⟩ := hrel
        have HD := Lib.hid hD
        have O1 := Lib.hid (own_drawn O1.out hD)
        have Ho := Lib.hid (own_drawn Ho.out hD)
        have HB := Lib.hid (Drawn.below HB.out hD)
        have hck' : wr.cell? ⟨g1, k, none⟩ = some (.int .i64 x) := by obtain ⟨q, rfl⟩ := hD; exact hck
        clear hD
        by_cases hjm : j < m
        · have j0 : (0 : Int) ≤ (j : Int) := by omega
          have j1 : (j : Int) < (m : Int) := by omega
          have a2 : IntKind.i64.wrap ((j : Int) + 1) = (j : Int) + 1 := Kit.w64 (by omega) (by omega)
          obtain ⟨y, hy⟩ : ∃ y : Int, y = ((F.getD j 0 : Nat) : Int) := ⟨_, rfl⟩
          have hcj := own_int O1.out (k := j) (by rw [Zs.up_length, ← HM.out]; exact hjm)
          rw [HAt.out j (by rw [← HM.out]; exact hjm), ← HF.out, ← hy] at hcj
          have hs := Zs.lastTo_succ F k j hj1
          have hne : decide (F.getD j 0 ≠ F.getD k 0) = (y != x) := by
            rw [hy, Hx.out, Bool.eq_iff_iff]
            simp
            omega
          rw [hne] at hs
          have Hs := Lib.hid hs
          clear hs hne hy
          cases hb0 : Zs.lastTo F k j with
          | false =>
            rw [hb0] at Hs
            go_wp2
            go_quiet (fail)
            go_wp2
            go_roundw
            case rel => exact ⟨j + 1, by omega, by omega, by rw [Hs.out]; rfl, by go_num, HD.out.drewN _⟩
            case measure => simp [intOf]; omega
          | true =>
            rw [hb0] at Hs
            cases hq : (y != x) with
            | false =>
              rw [hq] at Hs
              go_wp2
              go_quiet (fail)
              go_wp2
              go_roundw
              case rel => exact ⟨j + 1, by omega, by omega, by rw [Hs.out]; rfl, by go_num, HD.out.drewN _⟩
              case measure => simp [intOf]; omega
            | true =>
              rw [hq] at Hs
              go_wp2
              go_quiet (fail)
              go_wp2
              go_roundw
              case rel => exact ⟨j + 1, by omega, by omega, by rw [Hs.out]; rfl, by go_num, HD.out.drewN _⟩
              case measure => simp [intOf]; omega
        · obtain rfl : j = m := by omega
          have hs := HS.out k
          rw [← HF.out, HF.out, ← HM.out, ← HF.out] at hs
          have hle := HLe.out k
          have hsx := HB.out.size
          cases hb0 : Zs.lastTo F k j with
          | false =>
            rw [hb0, if_neg (by simp)] at hs
            have Hs := Lib.hid hs
            clear hs
            go_wp2
            go_roundw
            case rel => exact ⟨k + 1, by omega, by go_num, by rw [Hs.out]; exact Ho.out, O1.out, P1.out, HB.out⟩
            case measure => simp [intOf]; omega
          | true =>
            rw [hb0, if_pos rfl] at hs
            have Hs := Lib.hid hs
            clear hs
            go_wp2_with (at_builtin; go_loud (refine append_int_at wr rfl _ _ 25 rfl w.heap.size 3 i0 Try.underlying25 Hi.out hz0 hz1 hz2 (.slice Ao (Zs.up (Tr.krTo xs k)).length co) (Zs.up (Tr.krTo xs k)).length (Zs.up (Tr.krTo xs k)) rfl Ho.out rfl (k : Int) rfl (by rw [Zs.up_length]; omega) hsx ?_); intro v' w3 hown hgrow hwhere)
            have hb3 := Kit.below_own HB.out Ho.out hgrow
            have O1' := Lib.hid (World.ownsRow.kept (World.ownsRow.alloc O1.out _) hgrow P1.out)
            have P1' := Lib.hid (P1.out.grew (World.ownsRow.alloc O1.out (.cells #[.int .i64 (k : Int)] 3)) (by simpa using hwhere))
            rw [show Zs.up (Tr.krTo xs k) ++ [(k : Int)] = Zs.up (Tr.krTo xs (k + 1)) by rw [Hs.out, Zs.up_append]; rfl] at hown
            go_roundw
            case rel => exact ⟨k + 1, by omega, by go_num, hown, O1'.out, P1'.out, hb3⟩
            case measure => simp [intOf]; omega
    · obtain rfl : k = m := by omega
      go_wp2
      go_ret
      exact ⟨Ao, co, by rw [show (Zs.up (Tr.krs xs)).length = (Zs.up (Tr.krTo xs k)).length by rw [HK.out]]; rfl, by rw [HK.out]; exact Ho.out, HB.out⟩

end Go.Proofs.Ytlndaflhlkbedaa

/- Contracts (LabOkI). -/
namespace Go.Proofs.Ytlndaflhlkbedaa
open Go.RowKit
set_option linter.unusedVariables false

set_option maxHeartbeats 400000 in
theorem implLabelOk_any (n : Int) (w : World) :
    Calls Try.prog 93 #[.int .i64 n] w fun e w' => e = .returned (.bool (Lab.ok n)) ∧ w = w' := by
  go_enter Try.func93, Try.ntmps93
  go_wp2
  all_goals go_ret
  all_goals exact ⟨Kit.ret_bool (by unfold Lab.ok; first | (rw [decide_eq_decide]; omega) | (symm; rw [decide_eq_false_iff_not]; omega)), rfl⟩

end Go.Proofs.Ytlndaflhlkbedaa

/- Plain mathematics of chapter 1 (bytes of a number), without the program. -/
namespace Go.Proofs.Ytlndaflhlkbedaa.Num

/-- n divided k times by 256 -/
def dn (n : Nat) : Nat → Nat
  | 0 => n
  | k + 1 => dn n k / 256

/-- the k low bytes of n, the most significant first -/
def fix (n : Nat) : Nat → List UInt8
  | 0 => []
  | k + 1 => UInt8.ofNat (dn n k % 256) :: fix n k

theorem fix_length (n k : Nat) : (fix n k).length = k := by
  induction k with
  | zero => rfl
  | succ k ih => simp [fix, ih]

theorem dn_pow (n k : Nat) : dn n k = n / 2 ^ (8 * k) := by
  induction k with
  | zero => simp [dn]
  | succ k ih =>
    rw [dn, ih, Nat.div_div_eq_div_mul]
    congr 1
    rw [Nat.mul_add, Nat.pow_add]

theorem dn_le (n k : Nat) : dn n k ≤ n := by
  rw [dn_pow]; exact Nat.div_le_self _ _

/-- what Fixed gives -/
def fixR (n wd : Int) : List UInt8 :=
  if 1 ≤ wd ∧ wd ≤ 7 ∧ 0 ≤ n ∧ dn n.toNat wd.toNat = 0 then fix n.toNat wd.toNat else []

theorem fixR_no {n wd : Int} (h : n < 0 ∨ wd < 1 ∨ 7 < wd) : fixR n wd = [] := by
  unfold fixR; rw [if_neg (by omega)]
theorem fixR_big {m : Nat} {wd : Int} (h : dn m wd.toNat ≠ 0) : fixR m wd = [] := by
  unfold fixR; rw [if_neg (by simp; omega)]
theorem fixR_yes {m : Nat} {wd : Int} (h1 : 1 ≤ wd) (h7 : wd ≤ 7) (h : dn m wd.toNat = 0) : fixR m wd = fix m wd.toNat := by
  unfold fixR; rw [if_pos (by simp; omega)]; simp

/-- the row of bytes when k of its d places are filled from the right -/
def fixCells (m d k : Nat) : List Value := List.replicate (d - k) (.int .u8 0) ++ (fix m k).map fun b => .int .u8 b.toNat

theorem made_cells (m d : Nat) : (madeCells (Value.int .u8 0).cells (d * 1)).toList = fixCells m d 0 := by
  rw [show (Value.int .u8 0).cells = #[.int .u8 0] from rfl, toList_madeCells_one]
  simp [fixCells, fix]

theorem fixCells_at (m : Nat) {d k : Nat} (h : k < d) : (fixCells m d k)[d - 1 - k]? = some (.int .u8 0) := by
  unfold fixCells
  rw [List.getElem?_append_left (by simp; omega), List.getElem?_replicate, if_pos (by omega)]

theorem fixCells_set (m : Nat) {d k : Nat} (h : k < d) : (fixCells m d k).set (d - 1 - k) (.int .u8 ((dn m k : Int) % 256)) = fixCells m d (k + 1) := by
  unfold fixCells
  rw [List.set_append_left _ _ (by simp; omega)]
  have e : d - k = (d - (k + 1)) + 1 := by omega
  have e2 : d - 1 - k = d - (k + 1) := by omega
  rw [e, e2, List.replicate_succ']
  rw [List.set_append_right _ _ (by simp)]
  simp [fix]

theorem fixCells_full {w : World} {B e m d : Nat} (h : w.ownsRow B e 1 (.slice (some ⟨B, 0, none⟩) d d) d (fixCells m d d)) :
    ∀ j (hj : j < (fix m d).length), w.cell? ((⟨B, 0, none⟩ : Addr).add j) = some (.int .u8 ((fix m d)[j].toNat : Int)) := by
  intro j hj
  have hj' := hj
  rw [fix_length] at hj'
  have := h.cellAt j (by omega)
  rw [show ((⟨B, 0, none⟩ : Addr).add j) = ⟨B, j, none⟩ from by unfold Addr.add; split <;> simp_all]
  rw [this]
  simp [fixCells, hj]

end Go.Proofs.Ytlndaflhlkbedaa.Num

/- Plain mathematics of chapter 1. -/
namespace Go.Proofs.Ytlndaflhlkbedaa
open Go.RowKit
set_option linter.unusedVariables false

/-- bytes as a number, the most significant first -/
def Num.rd (l : List UInt8) : Nat := l.foldl (fun n b => n * 256 + b.toNat) 0

theorem Num.rd_snoc (l : List UInt8) (b : UInt8) : Num.rd (l ++ [b]) = Num.rd l * 256 + b.toNat := by
  simp [Num.rd]

theorem Num.rd_lt (l : List UInt8) : Num.rd l < 2 ^ (8 * l.length) := by
  refine Kit.snoc_rec (P := fun l => Num.rd l < 2 ^ (8 * l.length)) (by simp [Num.rd]) (fun l b ih => ?_) l
  rw [Num.rd_snoc]
  have hb : b.toNat < 256 := b.toNat_lt
  simp only [List.length_append, List.length_singleton, Nat.mul_add, Nat.pow_add]
  omega

theorem Num.rd_small (l : List UInt8) (h : l.length ≤ 6) : Num.rd l ≤ 281474976710655 := by
  have h1 := Num.rd_lt l
  have h2 : 2 ^ (8 * l.length) ≤ 2 ^ 48 := Nat.pow_le_pow_right (by omega) (by omega)
  omega

/-- the answer of ReadFixed -/
def Num.readB (s : ByteArray) (wd : Int) : Bool := decide (1 ≤ wd ∧ wd ≤ 7 ∧ wd ≤ s.size)

def Num.readN (s : ByteArray) (wd : Int) : Nat := if Num.readB s wd then Num.rd (s.data.toList.take wd.toNat) else 0

/-- the varint of a number below 128^(f+1) -/
def Num.varF : Nat → Nat → List UInt8
  | 0, q => [UInt8.ofNat q]
  | f + 1, q => if q < 128 then [UInt8.ofNat q] else UInt8.ofNat (128 + q % 128) :: Num.varF f (q / 128)

/-- what Var gives -/
def Num.varR (n : Int) : List UInt8 := if 0 ≤ n ∧ n ≤ 562949953421311 then Num.varF 6 n.toNat else []

theorem Num.varF_small (f q : Nat) (h : q < 128) : Num.varF f q = [UInt8.ofNat q] := by
  cases f <;> simp [Num.varF, h]

theorem Num.varF_big (f q : Nat) (h : 128 ≤ q) : Num.varF (f + 1) q = UInt8.ofNat (128 + q % 128) :: Num.varF f (q / 128) := by
  rw [Num.varF, if_neg (by omega)]

/-- what holds at each round's head: f bytes at most come behind those that are gathered -/
def Num.VarAt (m f q : Nat) (acc : List UInt8) : Prop := acc.length + f = 6 ∧ q < 128 ^ (f + 1) ∧ acc ++ Num.varF f q = Num.varF 6 m

theorem Num.VarAt.start {m : Nat} (h : m ≤ 562949953421311) : Num.VarAt m 6 m [] := ⟨rfl, by omega, by simp⟩

theorem Num.VarAt.len {m f q : Nat} {acc : List UInt8} (h : Num.VarAt m f q acc) : acc.length ≤ 6 := by have := h.1; omega

theorem Num.VarAt.step {m f q : Nat} {acc : List UInt8} (h : Num.VarAt m f q acc) (hq : 128 ≤ q) :
    ∃ f', f = f' + 1 ∧ Num.VarAt m f' (q / 128) (acc ++ [UInt8.ofNat (128 + q % 128)]) := by
  obtain ⟨h1, h2, h3⟩ := h
  cases f with
  | zero => omega
  | succ f =>
    refine ⟨f, rfl, by simp; omega, ?_, ?_⟩
    · rw [Nat.pow_succ] at h2
      exact Nat.div_lt_of_lt_mul (by omega)
    · rw [Num.varF_big f q hq] at h3
      simpa using h3

theorem Num.VarAt.stop {m f q : Nat} {acc : List UInt8} (h : Num.VarAt m f q acc) (hq : q < 128) : acc ++ [UInt8.ofNat q] = Num.varF 6 m := by
  have := h.2.2
  rwa [Num.varF_small f q hq] at this

theorem Num.VarAt.le {m f q : Nat} {acc : List UInt8} (h : Num.VarAt m f q acc) : q ≤ 562949953421311 := by
  obtain ⟨h1, h2, _⟩ := h
  have : 128 ^ (f + 1) ≤ 128 ^ 7 := Nat.pow_le_pow_right (by omega) (by omega)
  omega

/-- the digit of a number below 16 -/
def Num.hexd (k : Nat) : UInt8 := if k < 10 then UInt8.ofNat (48 + k) else UInt8.ofNat (87 + k)

/-- what Hex gives -/
def Num.hexL : List UInt8 → List UInt8
  | [] => []
  | b :: l => Num.hexd (b.toNat / 16) :: Num.hexd (b.toNat % 16) :: Num.hexL l

theorem Num.hexL_snoc (l : List UInt8) (b : UInt8) : Num.hexL (l ++ [b]) = Num.hexL l ++ [Num.hexd (b.toNat / 16), Num.hexd (b.toNat % 16)] := by
  induction l with
  | nil => rfl
  | cons a l ih => simp [Num.hexL, ih]

theorem Num.hexL_length (l : List UInt8) : (Num.hexL l).length = 2 * l.length := by
  induction l with
  | nil => rfl
  | cons a l ih => simp [Num.hexL, ih]; omega

theorem Num.hexIdx : ∀ n : Fin 16, (ByteArray.mk #[48, 49, 50, 51, 52, 53, 54, 55, 56, 57, 97, 98, 99, 100, 101, 102])[n.1]'n.2 = Num.hexd n.1 := by decide

theorem Num.hexAt (n : Nat) (h : n < (ByteArray.mk #[48, 49, 50, 51, 52, 53, 54, 55, 56, 57, 97, 98, 99, 100, 101, 102]).size) : (ByteArray.mk #[48, 49, 50, 51, 52, 53, 54, 55, 56, 57, 97, 98, 99, 100, 101, 102])[n]'h = Num.hexd n :=
  Num.hexIdx ⟨n, h⟩

/-- the value of a digit, or -1 -/
def Num.fromHex (b : UInt8) : Int := if 48 ≤ b.toNat ∧ b.toNat ≤ 57 then b.toNat - 48 else if 97 ≤ b.toNat ∧ b.toNat ≤ 102 then b.toNat - 87 else -1

theorem Num.fromHex_hit {k : Nat} {b : UInt8} (hk : k < 16) (h : Num.hexd k = b) : Num.fromHex b = k := by
  have : ∀ k : Fin 16, Num.fromHex (Num.hexd k.1) = (k.1 : Int) := by decide
  subst h
  exact this ⟨k, hk⟩

theorem Num.fromHex_miss {b : UInt8} (h : ∀ j, j < 16 → Num.hexd j ≠ b) : Num.fromHex b = -1 := by
  have ofn : ∀ n, n = b.toNat → UInt8.ofNat n = b := by intro n hn; subst hn; exact UInt8.ofNat_toNat
  unfold Num.fromHex
  by_cases h1 : 48 ≤ b.toNat ∧ b.toNat ≤ 57
  · exact absurd (by unfold Num.hexd; rw [if_pos (by omega)]; exact ofn _ (by omega)) (h (b.toNat - 48) (by omega))
  · by_cases h2 : 97 ≤ b.toNat ∧ b.toNat ≤ 102
    · exact absurd (by unfold Num.hexd; rw [if_neg (by omega)]; exact ofn _ (by omega)) (h (b.toNat - 87) (by omega))
    · rw [if_neg h1, if_neg h2]

theorem Num.fromHex_bd (b : UInt8) : -1 ≤ Num.fromHex b ∧ Num.fromHex b < 16 := by
  unfold Num.fromHex; split
  · omega
  · split <;> omega

/-- what Unhex gives -/
def Num.unhex : List UInt8 → Option (List UInt8)
  | [] => some []
  | [_] => none
  | a :: b :: l => if Num.fromHex a < 0 ∨ Num.fromHex b < 0 then none else (Num.unhex l).map (UInt8.ofNat (16 * Num.fromHex a + Num.fromHex b).toNat :: ·)

theorem Num.unhex_append : ∀ (n : Nat) (l m : List UInt8), l.length = 2 * n → Num.unhex (l ++ m) = (Num.unhex l).bind fun x => (Num.unhex m).map (x ++ ·)
  | 0, l, m, h => by
    obtain rfl := List.eq_nil_of_length_eq_zero (by simpa using h)
    simp [Num.unhex]
  | n + 1, l, m, h => by
    match l, h with
    | a :: b :: l, h =>
      simp only [List.cons_append, Num.unhex]
      split
      · rfl
      · rw [Num.unhex_append n l m (by simp at h; omega)]
        cases Num.unhex l <;> simp [Function.comp_def]

theorem Num.unhex_odd : ∀ (n : Nat) (l : List UInt8), l.length = 2 * n + 1 → Num.unhex l = none
  | 0, l, h => by
    match l, h with
    | [_], _ => rfl
  | n + 1, l, h => by
    match l, h with
    | a :: b :: l, h =>
      simp only [Num.unhex]
      split
      · rfl
      · rw [Num.unhex_odd n l (by simp at h; omega)]; rfl

theorem Num.take_two (s : ByteArray) (k : Nat) (h : 2 * k + 1 < s.size) : s.data.toList.take (2 * (k + 1)) = s.data.toList.take (2 * k) ++ [s[2 * k], s[2 * k + 1]] := by
  rw [show 2 * (k + 1) = 2 * k + 1 + 1 by omega, Kit.take_snoc s _ h, Kit.take_snoc s _ (by omega)]
  simp

theorem Num.drop_two (s : ByteArray) (k : Nat) (h : 2 * k + 1 < s.size) : s.data.toList = s.data.toList.take (2 * k) ++ s[2 * k] :: s[2 * k + 1] :: s.data.toList.drop (2 * (k + 1)) := by
  have := Num.take_two s k h
  have e := List.take_append_drop (2 * (k + 1)) s.data.toList
  rw [this] at e
  simpa using e.symm

theorem Num.unhex_step {s : ByteArray} {k : Nat} {acc : List UInt8} (h : 2 * k + 1 < s.size) (ha : Num.unhex (s.data.toList.take (2 * k)) = some acc) (h1 : 0 ≤ Num.fromHex s[2 * k]) (h2 : 0 ≤ Num.fromHex s[2 * k + 1]) :
    Num.unhex (s.data.toList.take (2 * (k + 1))) = some (acc ++ [UInt8.ofNat (16 * Num.fromHex s[2 * k] + Num.fromHex s[2 * k + 1]).toNat]) := by
  rw [Num.take_two s k h, Num.unhex_append k _ _ (by simp; omega), ha]
  simp only [Num.unhex]
  rw [if_neg (by omega)]
  rfl

theorem Num.unhex_bad {s : ByteArray} {k : Nat} {acc : List UInt8} (h : 2 * k + 1 < s.size) (ha : Num.unhex (s.data.toList.take (2 * k)) = some acc) (h1 : Num.fromHex s[2 * k] < 0 ∨ Num.fromHex s[2 * k + 1] < 0) :
    Num.unhex s.data.toList = none := by
  rw [Num.drop_two s k h, Num.unhex_append k _ _ (by simp; omega), ha]
  simp only [Num.unhex]
  rw [if_pos h1]
  rfl

theorem Num.idxHex : ∀ n : Fin 256, Lib.indexByte [48, 49, 50, 51, 52, 53, 54, 55, 56, 57, 97, 98, 99, 100, 101, 102] (UInt8.ofNat n.1) = Num.fromHex (UInt8.ofNat n.1) := by decide +kernel

theorem Kit.or16 (x y : Nat) (hx : x < 16) (hy : y < 16) : bits .or .i64 ((x : Int) * 16) (y : Int) = 16 * (x : Int) + y := by
  have h := Kit.i64_or (x * 16) y (by omega) (by omega)
  rw [nat_join 4 (x * 16) y (by omega) (by omega)] at h
  rw [Int.mul_comm 16]
  simpa using h

theorem Kit.or16i {x y : Int} (h0 : 0 ≤ x) (h1 : x < 16) (h2 : 0 ≤ y) (h3 : y < 16) : bits .or .i64 (x * 16) y = 16 * x + y := by
  obtain ⟨a, rfl⟩ := Int.eq_ofNat_of_zero_le h0
  obtain ⟨b, rfl⟩ := Int.eq_ofNat_of_zero_le h2
  exact Kit.or16 a b (by omega) (by omega)

def Num.unhexS (s : ByteArray) : List UInt8 := (Num.unhex s.data.toList).getD []

def Num.unhexB (s : ByteArray) : Bool := (Num.unhex s.data.toList).isSome

/-- the number of seven bits a byte, the least significant first -/
def Num.val7 : List UInt8 → Nat
  | [] => 0
  | b :: l => b.toNat % 128 + 128 * Num.val7 l

theorem Num.val7_lt (l : List UInt8) : Num.val7 l < 128 ^ l.length := by
  induction l with
  | nil => simp [Num.val7]
  | cons b l ih =>
    simp only [Num.val7, List.length_cons, Nat.pow_succ]
    have : b.toNat % 128 < 128 := Nat.mod_lt _ (by decide)
    omega

theorem Num.val7_small (l : List UInt8) (h : l.length ≤ 7) : Num.val7 l ≤ 562949953421311 := by
  have h1 := Num.val7_lt l
  have h2 : 128 ^ l.length ≤ 128 ^ 7 := Nat.pow_le_pow_right (by omega) h
  omega

theorem Num.val7_small6 (l : List UInt8) (h : l.length ≤ 6) : Num.val7 l ≤ 4398046511103 := by
  have h1 := Num.val7_lt l
  have h2 : 128 ^ l.length ≤ 128 ^ 6 := Nat.pow_le_pow_right (by omega) h
  omega

/-- the length up to the first byte below 128, among the first seven -/
def Num.vsz : Nat → List UInt8 → Nat → Nat
  | 0, _, _ => 0
  | _ + 1, [], _ => 0
  | f + 1, b :: l, i => if b.toNat < 128 then i + 1 else Num.vsz f l (i + 1)

def Num.vsize (l : List UInt8) : Nat := Num.vsz 7 l 0

theorem Num.vsz_le (f : Nat) : ∀ (l : List UInt8) (i : Nat), Num.vsz f l i = 0 ∨ (i < Num.vsz f l i ∧ Num.vsz f l i ≤ i + f ∧ Num.vsz f l i ≤ i + l.length) := by
  induction f with
  | zero => intro l i; left; rfl
  | succ f ih =>
    intro l i
    cases l with
    | nil => left; rfl
    | cons b l =>
      simp only [Num.vsz, List.length_cons]
      split
      · right; omega
      · rcases ih l (i + 1) with h | h
        · left; exact h
        · right; omega

theorem Num.vsize_le (l : List UInt8) : Num.vsize l ≤ 7 ∧ Num.vsize l ≤ l.length := by
  have := Num.vsz_le 7 l 0
  unfold Num.vsize; omega

theorem Num.vsz_var : ∀ (f q : Nat) (rest : List UInt8) (i : Nat), q < 128 ^ (f + 1) → Num.vsz (f + 1) (Num.varF f q ++ rest) i = i + (Num.varF f q).length
  | 0, q, rest, i, h => by
    have hq : q < 128 := by simpa using h
    simp [Num.varF, Num.vsz, UInt8.toNat_ofNat', Nat.mod_eq_of_lt (show q < 256 by omega), hq]
  | f + 1, q, rest, i, h => by
    by_cases hq : q < 128
    · rw [Num.varF_small _ _ hq]
      simp [Num.vsz, UInt8.toNat_ofNat', Nat.mod_eq_of_lt (show q < 256 by omega), hq]
    · rw [Num.varF_big _ _ (by omega)]
      have hb : (UInt8.ofNat (128 + q % 128)).toNat = 128 + q % 128 := by rw [UInt8.toNat_ofNat']; omega
      simp only [List.cons_append, Num.vsz, hb, List.length_cons]
      rw [if_neg (by omega), Num.vsz_var f (q / 128) rest (i + 1) (by rw [Nat.pow_succ] at h; exact Nat.div_lt_of_lt_mul (by omega))]
      omega

/-- is the beginning of k bytes the varint of what it says? -/
def Num.good (l : List UInt8) (k : Nat) : Prop := Num.varF 6 (Num.val7 (l.take k)) = l.take k

theorem Num.good_size {l : List UInt8} {k : Nat} (h7 : k ≤ 7) (hk : k ≤ l.length) (h : Num.good l k) : Num.vsize l = k := by
  have h1 : l = Num.varF 6 (Num.val7 (l.take k)) ++ l.drop k := by
    rw [h]; exact (List.take_append_drop k l).symm
  have h2 := Num.vsz_var 6 (Num.val7 (l.take k)) (l.drop k) 0 (by
    have := Num.val7_small (l.take k) (by simp; omega)
    omega)
  rw [← h1, h] at h2
  unfold Num.vsize
  rw [h2]; simp; omega

instance (l : List UInt8) (k : Nat) : Decidable (Num.good l k) := by unfold Num.good; infer_instance

/-- what ReadVar gives -/
def Num.rvK (s : ByteArray) : Nat := if Num.good s.data.toList (Num.vsize s.data.toList) then Num.vsize s.data.toList else 0

def Num.rvN (s : ByteArray) : Nat := Num.val7 (s.data.toList.take (Num.rvK s))

theorem Num.rv_good {s : ByteArray} {k : Nat} (h7 : k ≤ 7) (hk : k ≤ s.size) (h : Num.good s.data.toList k) : Num.rvK s = k ∧ Num.rvN s = Num.val7 (s.data.toList.take k) := by
  have hs := Num.good_size h7 (by simpa using hk) h
  have : Num.rvK s = k := by unfold Num.rvK; rw [hs, if_pos h]
  exact ⟨this, by unfold Num.rvN; rw [this]⟩

theorem Num.not_good_zero (l : List UInt8) : ¬ Num.good l 0 := by
  unfold Num.good
  simp [Num.val7, Num.varF]

theorem Num.rv_none {s : ByteArray} (h : ∀ k, 1 ≤ k → k ≤ 7 → k ≤ s.size → ¬ Num.good s.data.toList k) : Num.rvK s = 0 ∧ Num.rvN s = 0 := by
  have h0 : Num.rvK s = 0 := by
    unfold Num.rvK
    split
    · rename_i hg
      have hle := Num.vsize_le s.data.toList
      rcases Nat.eq_zero_or_pos (Num.vsize s.data.toList) with hz | hz
      · exact hz
      · exact absurd hg (h _ hz hle.1 (by simpa using hle.2))
    · rfl
  exact ⟨h0, by unfold Num.rvN; rw [h0]; rfl⟩

/-- the value of the bytes from i on, among the first k -/
theorem Num.val7_drop (s : ByteArray) (k i : Nat) (hi : i < k) (hk : k ≤ s.size) : Num.val7 ((s.data.toList.take k).drop i) = s[i].toNat % 128 + 128 * Num.val7 ((s.data.toList.take k).drop (i + 1)) := by
  have hl : i < (s.data.toList.take k).length := by simp; omega
  rw [List.drop_eq_getElem_cons hl]
  simp only [Num.val7]
  rw [List.getElem_take]
  rfl

theorem Num.good_test {s : ByteArray} {k : Nat} (h7 : k ≤ 7) : (Num.varR (Num.val7 (s.data.toList.take k) : Nat) == (s.extract 0 k).toList) = decide (Num.good s.data.toList k) := by
  have hs := Num.val7_small (s.data.toList.take k) (by simp; omega)
  have e : (s.extract 0 k).toList = s.data.toList.take k := by rw [Lib.extract_toList]; simp
  unfold Num.varR Num.good
  rw [if_pos (by omega), e, Int.toNat_natCast]
  rw [Bool.eq_iff_iff, beq_iff_eq]; exact decide_eq_true_iff.symm

theorem Num.vsz_skip (s : ByteArray) : ∀ (k f : Nat), k ≤ s.size → (∀ j (h : j < s.size), j < k → 128 ≤ s[j].toNat) → Num.vsz (k + f) s.data.toList 0 = Num.vsz f (s.data.toList.drop k) k := by
  have key : ∀ (k f i : Nat) (l : List UInt8), k ≤ l.length → (∀ j (h : j < l.length), j < k → 128 ≤ l[j].toNat) → Num.vsz (k + f) l i = Num.vsz f (l.drop k) (i + k) := by
    intro k
    induction k with
    | zero => intro f i l _ _; simp
    | succ k ih =>
      intro f i l hk h
      cases l with
      | nil => simp at hk
      | cons b l =>
        have h0 := h 0 (by simp) (by omega)
        simp at h0
        rw [show k + 1 + f = (k + f) + 1 by omega]
        simp only [Num.vsz]
        rw [if_neg (by omega), ih f (i + 1) l (by simpa using hk) (fun j hj hjk => by
          have := h (j + 1) (by simpa using hj) (by omega)
          simpa using this)]
        simp
        congr 1; omega
  intro k f hk h
  have := key k f 0 s.data.toList (by simpa using hk) (fun j hj hjk => h j (by simpa using hj) hjk)
  simpa using this

theorem Num.vsize_hit {s : ByteArray} {k : Nat} (h7 : k < 7) (hk : k < s.size) (h : ∀ j (h : j < s.size), j < k → 128 ≤ s[j].toNat) (hb : s[k].toNat < 128) : Num.vsize s.data.toList = k + 1 := by
  have h1 := Num.vsz_skip s k (7 - k) (by omega) h
  rw [show k + (7 - k) = 7 by omega] at h1
  unfold Num.vsize
  rw [h1, show 7 - k = (6 - k) + 1 by omega, List.drop_eq_getElem_cons (by simpa using hk)]
  simp only [Num.vsz]
  rw [if_pos (by exact hb)]

theorem Num.vsize_miss {s : ByteArray} {k : Nat} (h7 : k ≤ 7) (hk : k ≤ s.size) (hl : k = 7 ∨ k = s.size) (h : ∀ j (h : j < s.size), j < k → 128 ≤ s[j].toNat) : Num.vsize s.data.toList = 0 := by
  have h1 := Num.vsz_skip s k (7 - k) hk h
  rw [show k + (7 - k) = 7 by omega] at h1
  unfold Num.vsize
  rw [h1]
  rcases hl with rfl | rfl
  · rfl
  · rw [List.drop_eq_nil_of_le (by simp)]
    cases 7 - s.size <;> rfl

end Go.Proofs.Ytlndaflhlkbedaa

/- Contracts (Cod). -/
namespace Go.Proofs.Ytlndaflhlkbedaa
open Go.RowKit
set_option linter.unusedVariables false


theorem Num.varF_len' (f q : Nat) : (Num.varF f q).length ≤ f + 1 := by
  induction f generalizing q with
  | zero => by_cases h : q < 128 <;> simp [Num.varF]
  | succ f ih =>
    by_cases h : q < 128
    · rw [Num.varF_small _ _ h]; simp
    · rw [Num.varF_big _ _ (by omega)]
      have := ih (q / 128)
      simp; omega
/-- the bytes of a number -/
def Num.varB (n : Int) : ByteArray := ⟨(Num.varR n).toArray⟩
theorem Num.varB_size (n : Int) : (Num.varB n).size ≤ 7 := by
  unfold Num.varB
  show (Num.varR n).toArray.size ≤ 7
  simp only [List.size_toArray]
  unfold Num.varR
  split
  · have := Num.varF_len' 6 n.toNat
    omega
  · simp
/-- the bytes of a tree's count and of its first k nodes -/
def Tr.putTo (xs : Tr) : Nat → ByteArray
  | 0 => Num.varB xs.length
  | k + 1 => Tr.putTo xs k ++ Num.varB (Tr.l xs k) ++ Num.varB (Tr.d xs k)
def Tr.put (xs : Tr) : ByteArray := if Tr.ok xs then Tr.putTo xs xs.length else ⟨#[]⟩
theorem Tr.putTo_size (xs : Tr) (k : Nat) : (Tr.putTo xs k).size ≤ 7 + 14 * k := by
  induction k with
  | zero => exact Num.varB_size _
  | succ k ih =>
    have h1 := Num.varB_size (Tr.l xs k)
    have h2 := Num.varB_size (Tr.d xs k)
    simp only [Tr.putTo, ByteArray.size_append]
    omega
theorem Tr.putTo_two (xs : Tr) (k : Nat) : Tr.putTo xs (k + 1) = Tr.putTo xs k ++ (Num.varB (Tr.l xs k) ++ Num.varB (Tr.d xs k)) := by
  simp only [Tr.putTo, ByteArray.append_assoc]

/-- may a node of depth d come behind the first n nodes -/
def Tr.fits (xs : Tr) (n : Nat) (d : Int) : Bool := if n = 0 then decide (d = 0) else decide (1 ≤ d ∧ d ≤ Tr.d xs (n - 1) + 1)
theorem Tr.okAt_fits {xs : Tr} {k : Nat} (h1 : 0 ≤ Tr.l xs k ∧ Tr.l xs k ≤ 5) (h0 : 0 < k → 0 ≤ Tr.d xs (k - 1)) : Tr.okAt xs k = (decide (Tr.d xs k ≤ 12) && Tr.fits xs k (Tr.d xs k)) := by
  rw [Tr.okAt, Tr.fits, Bool.eq_iff_iff]
  by_cases hk : k = 0
  · simp [hk] at h1 ⊢; omega
  · have := h0 (by omega)
    simp [hk]; omega

/-- what stands behind the first u bytes -/
def Num.rest (t : ByteArray) (u : Nat) : ByteArray := t.extract u t.size
theorem Num.rest_size (t : ByteArray) (u : Nat) : (Num.rest t u).size = t.size - u := by simp [Num.rest]
theorem Num.rest_rest (t : ByteArray) (u v : Nat) : Num.rest (Num.rest t u) v = Num.rest t (u + v) := by
  unfold Num.rest
  rw [ByteArray.extract_extract, ByteArray.size_extract]
  congr 1
  omega

/-- the node at the start of t, behind the nodes xs: the node, its length, its code -/
def Tr.node (t : ByteArray) (xs : Tr) : (Int × Int) × Nat × Int :=
  if Num.rvK t = 0 then ((0, 0), 0, 1)
  else if Lab.ok (Num.rvN t) = false then ((0, 0), 0, 3)
  else if Num.rvK (Num.rest t (Num.rvK t)) = 0 then ((0, 0), 0, 1)
  else if 12 < Num.rvN (Num.rest t (Num.rvK t)) then ((0, 0), 0, 4)
  else if Tr.fits xs xs.length (Num.rvN (Num.rest t (Num.rvK t))) = false then ((0, 0), 0, 5)
  else (((Num.rvN t : Int), (Num.rvN (Num.rest t (Num.rvK t)) : Int)), Num.rvK t + Num.rvK (Num.rest t (Num.rvK t)), 0)
/-- r nodes off t, behind the nodes xs: all nodes and the code -/
def Tr.getB : Nat → ByteArray → Tr → Tr × Int
  | 0, t, xs => if t.size = 0 then (xs, 0) else ([], 6)
  | r + 1, t, xs => if (Tr.node t xs).2.2 = 0 then Tr.getB r (Num.rest t (Tr.node t xs).2.1) (xs ++ [(Tr.node t xs).1]) else ([], (Tr.node t xs).2.2)
def Tr.get (s : ByteArray) : Tr × Int :=
  if Num.rvK s = 0 then ([], 1)
  else if 1 ≤ Num.rvN s ∧ Num.rvN s ≤ 24 then Tr.getB (Num.rvN s) (Num.rest s (Num.rvK s)) []
  else ([], 2)

section
variable {t : ByteArray} {xs : Tr}
theorem Tr.node_n1 (h : Num.rvK t = 0) : Tr.node t xs = ((0, 0), 0, 1) := by unfold Tr.node; rw [if_pos h]
theorem Tr.node_n2 (h : ¬ Num.rvK t = 0) (h2 : Lab.ok (Num.rvN t) = false) : Tr.node t xs = ((0, 0), 0, 3) := by unfold Tr.node; rw [if_neg h, if_pos h2]
theorem Tr.node_n3 (h : ¬ Num.rvK t = 0) (h2 : Lab.ok (Num.rvN t) = true) (h3 : Num.rvK (Num.rest t (Num.rvK t)) = 0) : Tr.node t xs = ((0, 0), 0, 1) := by
  unfold Tr.node; rw [if_neg h, if_neg (by simp [h2]), if_pos h3]
theorem Tr.node_n4 (h : ¬ Num.rvK t = 0) (h2 : Lab.ok (Num.rvN t) = true) (h3 : ¬ Num.rvK (Num.rest t (Num.rvK t)) = 0) (h4 : 12 < Num.rvN (Num.rest t (Num.rvK t))) : Tr.node t xs = ((0, 0), 0, 4) := by
  unfold Tr.node; rw [if_neg h, if_neg (by simp [h2]), if_neg h3, if_pos h4]
theorem Tr.node_n5 (h : ¬ Num.rvK t = 0) (h2 : Lab.ok (Num.rvN t) = true) (h3 : ¬ Num.rvK (Num.rest t (Num.rvK t)) = 0) (h4 : ¬ 12 < Num.rvN (Num.rest t (Num.rvK t)))
    (h5 : Tr.fits xs xs.length (Num.rvN (Num.rest t (Num.rvK t))) = false) : Tr.node t xs = ((0, 0), 0, 5) := by
  unfold Tr.node; rw [if_neg h, if_neg (by simp [h2]), if_neg h3, if_neg h4, if_pos h5]
theorem Tr.node_y (h : ¬ Num.rvK t = 0) (h2 : Lab.ok (Num.rvN t) = true) (h3 : ¬ Num.rvK (Num.rest t (Num.rvK t)) = 0) (h4 : ¬ 12 < Num.rvN (Num.rest t (Num.rvK t)))
    (h5 : Tr.fits xs xs.length (Num.rvN (Num.rest t (Num.rvK t))) = true) :
    Tr.node t xs = (((Num.rvN t : Int), (Num.rvN (Num.rest t (Num.rvK t)) : Int)), Num.rvK t + Num.rvK (Num.rest t (Num.rvK t)), 0) := by
  unfold Tr.node; rw [if_neg h, if_neg (by simp [h2]), if_neg h3, if_neg h4, if_neg (by simp [h5])]
theorem Num.rvK_le (s : ByteArray) : Num.rvK s ≤ 7 ∧ Num.rvK s ≤ s.size := by
  have := Num.vsize_le s.data.toList
  unfold Num.rvK
  split
  · simpa using this
  · omega
theorem Num.rvN_le (s : ByteArray) : Num.rvN s ≤ 562949953421311 := Num.val7_small _ (by have := (Num.rvK_le s).1; simp; omega)
/-- a node is read, or there is none -/
theorem Tr.node_cases (t : ByteArray) (xs : Tr) : (∃ code : Int, Tr.node t xs = ((0, 0), 0, code) ∧ 1 ≤ code ∧ code ≤ 5) ∨
    (∃ (l d : Int) (u : Nat), Tr.node t xs = ((l, d), u, 0) ∧ u ≤ t.size ∧ (0 ≤ l ∧ l ≤ 5) ∧ (0 ≤ d ∧ d ≤ 12)) := by
  by_cases h : Num.rvK t = 0
  · exact .inl ⟨_, Tr.node_n1 h, by omega, by omega⟩
  · rcases h2 : Lab.ok (Num.rvN t) with _ | _
    · exact .inl ⟨_, Tr.node_n2 h h2, by omega, by omega⟩
    · by_cases h3 : Num.rvK (Num.rest t (Num.rvK t)) = 0
      · exact .inl ⟨_, Tr.node_n3 h h2 h3, by omega, by omega⟩
      · by_cases h4 : 12 < Num.rvN (Num.rest t (Num.rvK t))
        · exact .inl ⟨_, Tr.node_n4 h h2 h3 h4, by omega, by omega⟩
        · rcases h5 : Tr.fits xs xs.length (Num.rvN (Num.rest t (Num.rvK t))) with _ | _
          · exact .inl ⟨_, Tr.node_n5 h h2 h3 h4 h5, by omega, by omega⟩
          · refine .inr ⟨_, _, _, Tr.node_y h h2 h3 h4 h5, ?_, ?_, ?_⟩
            · have h6 := Num.rvK_le (Num.rest t (Num.rvK t))
              have h7 := Num.rvK_le t
              rw [Num.rest_size] at h6
              omega
            · simpa [Lab.ok] using h2
            · omega
end
theorem Tr.getB_end {t : ByteArray} {xs : Tr} (h : t.size = 0) : Tr.getB 0 t xs = (xs, 0) := by unfold Tr.getB; rw [if_pos h]
theorem Tr.getB_left {t : ByteArray} {xs : Tr} (h : ¬ t.size = 0) : Tr.getB 0 t xs = ([], 6) := by unfold Tr.getB; rw [if_neg h]
theorem Tr.getB_no {r : Nat} {t : ByteArray} {xs : Tr} {p : Int × Int} {u : Nat} {code : Int} (h : Tr.node t xs = (p, u, code)) (hc : 1 ≤ code) : Tr.getB (r + 1) t xs = ([], code) := by
  unfold Tr.getB; rw [h, if_neg (show ¬ code = 0 by omega)]
theorem Tr.getB_yes {r : Nat} {t : ByteArray} {xs : Tr} {p : Int × Int} {u : Nat} (h : Tr.node t xs = (p, u, 0)) : Tr.getB (r + 1) t xs = Tr.getB r (Num.rest t u) (xs ++ [p]) := by
  show (if (Tr.node t xs).2.2 = 0 then Tr.getB r (Num.rest t (Tr.node t xs).2.1) (xs ++ [(Tr.node t xs).1]) else ([], (Tr.node t xs).2.2)) = _
  rw [h, if_pos rfl]
theorem Tr.getB_len (r : Nat) (t : ByteArray) (xs : Tr) : (Tr.getB r t xs).1.length ≤ xs.length + r := by
  induction r generalizing t xs with
  | zero => unfold Tr.getB; split <;> simp
  | succ r ih =>
    unfold Tr.getB
    split
    · refine Nat.le_trans (ih _ _) ?_
      simp; omega
    · simp
theorem Tr.get_len (s : ByteArray) : (Tr.get s).1.length ≤ 24 := by
  unfold Tr.get
  split
  · simp
  · split
    · refine Nat.le_trans (Tr.getB_len _ _ _) ?_
      simp; omega
    · simp
theorem Tr.get_n1 {s : ByteArray} (h : Num.rvK s = 0) : Tr.get s = ([], 1) := by unfold Tr.get; rw [if_pos h]
theorem Tr.get_n2 {s : ByteArray} (h : ¬ Num.rvK s = 0) (h2 : ¬ (1 ≤ Num.rvN s ∧ Num.rvN s ≤ 24)) : Tr.get s = ([], 2) := by unfold Tr.get; rw [if_neg h, if_neg h2]
theorem Tr.get_y {s : ByteArray} (h : ¬ Num.rvK s = 0) (h2 : 1 ≤ Num.rvN s ∧ Num.rvN s ≤ 24) : Tr.get s = Tr.getB (Num.rvN s) (Num.rest s (Num.rvK s)) [] := by unfold Tr.get; rw [if_neg h, if_pos h2]

end Go.Proofs.Ytlndaflhlkbedaa

/- Closed facts of this seat's program. -/
namespace Go.Proofs.Ytlndaflhlkbedaa
open Go.RowKit
theorem info_u8 : (Try.prog.info? 5).map (fun i => (i.zero, i.size, i.bytes)) = some (some (.int .u8 0), 1, 1) := by kernel_rfl
end Go.Proofs.Ytlndaflhlkbedaa

/- Contracts (DepI). -/
namespace Go.Proofs.Ytlndaflhlkbedaa
open Go.RowKit
set_option linter.unusedVariables false

set_option maxHeartbeats 800000 in
set_option maxRecDepth 100000 in
theorem depthFits_any (A : Option Addr) (n c : Nat) (xs : Tr) (d : Int) (w : World) (h : NdIn w w.heap.size A n xs) (hn : n ≤ 1048576) (hb : 0 < n → 0 ≤ Tr.d xs (n - 1) ∧ Tr.d xs (n - 1) ≤ 12) :
    Calls Try.prog 133 #[.slice A n c, .int .i64 d] w fun e w' => e = .returned (.bool (Tr.fits xs n d)) ∧ w = w' := by
  have H := Lib.hid h
  clear h
  rcases Nat.eq_zero_or_pos n with rfl | h0
  · have Hf := Lib.hid (show Tr.fits xs 0 d = (d == 0) by rw [Tr.fits, if_pos rfl, Bool.eq_iff_iff]; simp)
    clear hb
    go_enter Try.func133, Try.ntmps133
    go_wp2
    go_ret
    exact ⟨Kit.ret_bool Hf.out.symm, rfl⟩
  · obtain ⟨ad, rfl, _, hl', hd'⟩ := H.out.at_ (k := n - 1) (by omega)
    have hbd := hb h0
    have e0 : ((n : Int) == 0) = false := beq_eq_false_iff_ne.2 (by omega)
    have a1 : IntKind.i64.wrap ((n : Int) - 1) = (n : Int) - 1 := Kit.w64 (by omega) (by omega)
    have a2 : ((n : Int) - 1).toNat = n - 1 := by omega
    have a3 : (1 : Int) ≤ (n : Int) := by omega
    have a4 : (n : Int) - 1 < (n : Int) := by omega
    have a5 : IntKind.i64.wrap (Tr.d xs (n - 1) + 1) = Tr.d xs (n - 1) + 1 := Kit.w64 (by omega) (by omega)
    have Hf := Lib.hid (show Tr.fits xs n d = (decide (1 ≤ d) && decide (d ≤ Tr.d xs (n - 1) + 1)) by rw [Tr.fits, if_neg (by omega), Bool.eq_iff_iff]; simp)
    clear hb hbd
    by_cases h1 : 1 ≤ d
    · have e1 : decide (1 ≤ d) = true := by simpa using h1
      rw [e1] at Hf
      go_enter Try.func133, Try.ntmps133
      go_wp2
      go_ret
      exact ⟨Kit.ret_bool (by rw [Hf.out]; simp), rfl⟩
    · have e1 : decide (1 ≤ d) = false := by simpa using h1
      rw [e1] at Hf
      go_enter Try.func133, Try.ntmps133
      go_wp2
      go_ret
      exact ⟨Kit.ret_bool (by rw [Hf.out]; simp), rfl⟩

end Go.Proofs.Ytlndaflhlkbedaa

/- Contracts (TreeOkI). -/
namespace Go.Proofs.Ytlndaflhlkbedaa
open Go.RowKit
set_option linter.unusedVariables false

theorem Tr.fits_take {xs : Tr} {k : Nat} {d : Int} : Tr.fits (xs.take k) k d = Tr.fits xs k d := by
  unfold Tr.fits
  by_cases h : k = 0
  · simp [h]
  · rw [if_neg h, if_neg h]
    simp [Tr.d, List.getD_eq_getElem?_getD, show k - 1 < k by omega]
theorem Tr.d_take {xs : Tr} {k j : Nat} (h : j < k) : Tr.d (xs.take k) j = Tr.d xs j := by simp [Tr.d, List.getD_eq_getElem?_getD, h]
theorem NdIn.head {w : World} {B n : Nat} {A : Option Addr} {xs : Tr} (h : NdIn w B A n xs) {k : Nat} (hk : k ≤ n) : NdIn w B A k (xs.take k) := by
  refine ⟨by have := h.1; simp; omega, fun h0 => h.2.1 (by omega), fun ad e j hj => ?_⟩
  have := h.2.2 ad e j (by omega)
  have hg : (xs.take k).getD j (0, 0) = xs.getD j (0, 0) := by simp [List.getD_eq_getElem?_getD, hj]
  simp only [Tr.l, Tr.d] at this ⊢
  rw [hg]
  exact this
set_option maxHeartbeats 800000 in
set_option maxRecDepth 100000 in
theorem implTreeOk_any (A : Option Addr) (n c : Nat) (xs : Tr) (w : World) (h : NdIn w w.heap.size A n xs) (hn : n ≤ 1048576) (hnc : n ≤ c) :
    Calls Try.prog 97 #[.slice A n c] w fun e w' => e = .returned (.bool (Tr.ok xs)) ∧ Below w.heap.size w w' := by
  have H := Lib.hid h
  clear h
  have HL := Lib.hid H.out.1
  by_cases hn1 : n < 1
  · have Hf := Lib.hid (show Tr.ok xs = false by rw [Bool.eq_false_iff, Ne, Tr.ok_iff, HL.out]; omega)
    go_enter Try.func97, Try.ntmps97
    go_wp2
    go_ret
    exact ⟨Kit.ret_bool Hf.out.symm, Below.refl _ _⟩
  by_cases hn2 : 24 < n
  · have Hf := Lib.hid (show Tr.ok xs = false by rw [Bool.eq_false_iff, Ne, Tr.ok_iff, HL.out]; omega)
    go_enter Try.func97, Try.ntmps97
    go_wp2
    go_ret
    exact ⟨Kit.ret_bool Hf.out.symm, Below.refl _ _⟩
  obtain ⟨ad, rfl, _⟩ := H.out.2.1 (by omega)
  go_enter Try.func97, Try.ntmps97
  go_wp2
  go_loopw [15] (fun iv wr => ∃ k : Nat, k ≤ n ∧ iv = .int .i64 k ∧ Tr.okTo xs k ∧ Below w.heap.size w wr) (fun i _ => n - (intOf i).toNat)
  case atStart => exact ⟨0, Nat.zero_le _, rfl, fun j hj => absurd hj (by omega), Below.refl _ _⟩
  case round =>
    obtain ⟨k, hk, rfl, hok, hB⟩ := hrel
    have hsz := hB.size
    have Hok := Lib.hid hok
    have HB := Lib.hid hB
    clear hok hB
    by_cases hlt : k < n
    · obtain ⟨hl, hd⟩ := (H.out.below HB.out).here hlt
      have hkc : (k : Int) ≤ (c : Int) := by omega
      have hk0 : (0 : Int) ≤ (k : Int) := by omega
      have Hbk := Lib.hid (show 0 < k → 0 ≤ Tr.d (xs.take k) (k - 1) ∧ Tr.d (xs.take k) (k - 1) ≤ 12 by
        intro h0
        rw [Tr.d_take (by omega)]
        exact (Tr.okTo_at Hok.out (show k - 1 < k by omega)).2.1)
      have Hfit := Lib.hid (Tr.fits_take (xs := xs) (k := k) (d := Tr.d xs k))
      have Hc := Lib.hid (((H.out.below HB.out).more HB.out.size).to_below ((Below.refl _ _).alloc (Nat.le_refl _) (.cells #[.int .i64 (Tr.l xs k), .int .i64 (Tr.d xs k)] 42)) |>.head (Nat.le_of_lt hlt))
      by_cases h1 : 0 ≤ Tr.l xs k ∧ Tr.l xs k ≤ 5
      · have h1' : Lab.ok (Tr.l xs k) = true := by simp [Lab.ok, h1]
        have Hat := Lib.hid (Tr.okAt_fits (xs := xs) (k := k) h1 (fun h0 => (Tr.okTo_at Hok.out (show k - 1 < k by omega)).2.1.1))
        clear h1
        by_cases h2 : Tr.d xs k ≤ 12
        · have e2 : decide (12 < Tr.d xs k) = false := by simpa using h2
          cases h3 : Tr.fits (xs.take k) k (Tr.d xs k) with
          | true =>
            have Hk := Lib.hid (show Tr.okAt xs k = true by rw [Hat.out, ← Hfit.out, h3]; simp [h2])
            clear h2
            go_wp2
            go_quiet (first
              | (go_at_call 93; exact quiet_same (implLabelOk_any _ _))
              | (go_at_call 133; exact quiet_same (depthFits_any _ _ _ _ _ _ (Hc.out.drewN _) (by omega) Hbk.out)))
            go_wp2
            go_roundw
            case rel => exact ⟨k + 1, by omega, by go_num, Tr.okTo_succ Hok.out Hk.out, Drawn.below (HB.out.alloc HB.out.size _) ⟨_, rfl⟩⟩
            case measure => simp [intOf]; omega
          | false =>
            have Hf := Lib.hid (Tr.not_ok (xs := xs) (k := k) (by rw [HL.out]; exact hlt) (by rw [Hat.out, ← Hfit.out, h3]; simp))
            clear h2
            go_wp2
            go_quiet (first
              | (go_at_call 93; exact quiet_same (implLabelOk_any _ _))
              | (go_at_call 133; exact quiet_same (depthFits_any _ _ _ _ _ _ (Hc.out.drewN _) (by omega) Hbk.out)))
            go_wp2
            go_ret
            exact ⟨Kit.ret_bool Hf.out.symm, Drawn.below (HB.out.alloc HB.out.size _) ⟨_, rfl⟩⟩
        · have e2 : decide (12 < Tr.d xs k) = true := by simpa using h2
          have Hf := Lib.hid (Tr.not_ok (xs := xs) (k := k) (by rw [HL.out]; exact hlt) (by rw [Hat.out]; simp [h2]))
          clear h2
          go_wp2
          go_quiet (first
            | (go_at_call 93; exact quiet_same (implLabelOk_any _ _))
            | (go_at_call 133; exact quiet_same (depthFits_any _ _ _ _ _ _ (Hc.out.drewN _) (by omega) Hbk.out)))
          go_wp2
          go_ret
          exact ⟨Kit.ret_bool Hf.out.symm, Drawn.below (HB.out.alloc HB.out.size _) ⟨_, rfl⟩⟩
      · have h1' : Lab.ok (Tr.l xs k) = false := by simpa [Lab.ok] using h1
        have Hf := Lib.hid (Tr.not_ok (xs := xs) (k := k) (by rw [HL.out]; exact hlt) (by simp [Tr.okAt]; omega))
        clear h1
        go_wp2
        go_quiet (first
          | (go_at_call 93; exact quiet_same (implLabelOk_any _ _))
          | (go_at_call 133; exact quiet_same (depthFits_any _ _ _ _ _ _ (Hc.out.drewN _) (by omega) Hbk.out)))
        go_wp2
        go_ret
        exact ⟨Kit.ret_bool Hf.out.symm, Drawn.below (HB.out.alloc HB.out.size _) ⟨_, rfl⟩⟩
    · obtain rfl : k = n := by omega
      go_wp2
      go_ret
      exact ⟨Kit.ret_bool (Tr.ok_iff.2 (by rw [HL.out]; exact ⟨Hok.out, by omega, by omega⟩)).symm, HB.out⟩

end Go.Proofs.Ytlndaflhlkbedaa
