/- Texts of one claim laid into one file, in build order: AtS, EndOfS, KidS, PostS, Dst, Grow, BoxC, Dtb, F8, Fce, Part. -/
import Derived.Test.YtajplmopdipbnaaMg1
import Derived.Outline
import Derived.Test.YtajplmopdipbnaaRows
/- Contracts (AtS). -/
namespace Go.Proofs.Ytajplmopdipbnaa
open Go.RowKit
set_option linter.unusedVariables false

set_option maxHeartbeats 800000 in
set_option maxRecDepth 100000 in
theorem l3At_any (A : Option Addr) (n c : Nat) (xs : Tr) (i : Int) (w : World) (h : NdIn w w.heap.size A n xs) (hn : n ≤ 1048576) :
    Calls Try.prog 70 #[.slice A n c, .int .i64 i] w fun e w' => e = .returned (.bool (Tr.has xs i)) ∧ Drawn w w' := by
  have H := Lib.hid h
  clear h
  have HL := Lib.hid H.out.1
  rcases hok : Tr.ok xs with _ | _
  · have Hf := Lib.hid (show Tr.has xs i = false by simp [Tr.has, hok])
    have Hok := Lib.hid hok
    clear hok
    go_enter Try.func70, Try.ntmps70
    go_wp2_with fail
    refine (specTreeOk_any _ _ _ xs _ H.out hn).mono ?_
    rintro e w1 ⟨rfl, hd⟩
    rw [Hok.out]
    go_wp2
    go_ret
    exact ⟨Kit.ret_bool Hf.out.symm, hd⟩
  · have h1 := (Tr.ok_iff.1 hok).2
    have hn1 : 1 ≤ n := by rw [← HL.out]; omega
    have Hok := Lib.hid hok
    clear h1 hok
    go_enter Try.func70, Try.ntmps70
    go_wp2_with fail
    refine (specTreeOk_any _ _ _ xs _ H.out hn).mono ?_
    rintro e w1 ⟨rfl, hd⟩
    rw [Hok.out]
    go_wp2_with (go_at_call 62; refine (l1In_any _ _ _ _).mono ?_; rintro e w' ⟨rfl, rfl⟩)
    go_ret
    refine ⟨Kit.ret_bool ?_, hd⟩
    simp [Tr.has, Hok.out, HL.out]
    rw [← Bool.decide_and, ← Bool.decide_and, decide_eq_decide]
    omega

end Go.Proofs.Ytajplmopdipbnaa

/- Contracts (EndOfS). -/
namespace Go.Proofs.Ytajplmopdipbnaa
open Go.RowKit
set_option linter.unusedVariables false

set_option maxHeartbeats 800000 in
set_option maxRecDepth 100000 in
theorem specEndOf_any (A : Option Addr) (n c : Nat) (xs : Tr) (i : Int) (w : World) (h : NdIn w w.heap.size A n xs) (hn : n ≤ 1048576) :
    Calls Try.prog 65 #[.slice A n c, .int .i64 i] w fun e w' => e = .returned (.int .i64 (Tr.endOf xs i)) ∧ Drawn w w' := by
  have H := Lib.hid h
  clear h
  have HL := Lib.hid H.out.1
  rcases hok : Tr.has xs i with _ | _
  · have Hf := Lib.hid (show Tr.endOf xs i = -1 by simp [Tr.endOf, hok])
    have Hok := Lib.hid hok
    clear hok
    go_enter Try.func65, Try.ntmps65
    go_wp2_with fail
    refine (l3At_any _ _ _ xs _ _ H.out hn).mono ?_
    rintro e w1 ⟨rfl, hd⟩
    rw [Hok.out]
    go_wp2
    go_ret
    exact ⟨Kit.ret_int Hf.out.symm, hd⟩
  · have h1 := (Tr.has_iff.1 hok).2
    rw [HL.out] at h1
    have Hf := Lib.hid (show Tr.endOf xs i = Tr.endN xs i.toNat by simp [Tr.endOf, hok])
    have Hok := Lib.hid hok
    clear hok
    obtain ⟨j, rfl⟩ := Int.eq_ofNat_of_zero_le h1.1
    have hj : j < n := by omega
    clear h1
    go_enter Try.func65, Try.ntmps65
    go_wp2_with fail
    refine (l3At_any _ _ _ xs _ _ H.out hn).mono ?_
    rintro e w1 ⟨rfl, hd1⟩
    have Hd1 := Lib.hid hd1
    have H1 := Lib.hid (H.out.drawn Hd1.out)
    clear hd1
    rw [Hok.out]
    go_wp2
    go_loopw [5] (fun kv wr => ∃ k : Nat, j < k ∧ k ≤ n ∧ kv = .int .i64 k ∧ (∀ m, j < m → m < k → Tr.d xs j < Tr.d xs m) ∧ Drawn w1 wr) (fun k _ => n - (intOf k).toNat)
    case atStart => exact ⟨j + 1, by omega, by omega, by go_num, fun m h1 h2 => absurd h1 (by omega), Drawn.refl _⟩
    case round =>
      obtain ⟨k, hjk, hk, rfl, hall, hD⟩ := hrel
      have Hall := Lib.hid hall
      clear hall
      have hk0 : (0 : Int) ≤ (k : Int) := by omega
      have hj0 : (0 : Int) ≤ (j : Int) := by omega
      by_cases hlt : k < n
      · have hltd : decide (k < n) = true := by simpa using hlt
        obtain ⟨ad, rfl, hb, hl, hd⟩ := (H1.out.drawn hD).at_ hlt
        obtain ⟨hl', hd'⟩ := (H1.out.drawn hD).here hj
        clear hl hl'
        by_cases hgt : Tr.d xs j < Tr.d xs k
        · have hg : decide (Tr.d xs j < Tr.d xs k) = true := by simpa using hgt
          have Hg := Lib.hid hgt
          clear hgt
          go_wp2
          go_quiet (fail)
          go_wp2
          go_roundw
          case rel => exact ⟨k + 1, by omega, by omega, by go_num, fun m h1 h2 => by
            rcases Nat.lt_succ_iff_lt_or_eq.1 h2 with h' | rfl
            · exact Hall.out m h1 h'
            · exact Hg.out, hD.drewN _⟩
          case measure => simp [intOf]; omega
        · have hg : decide (Tr.d xs j < Tr.d xs k) = false := by simpa using hgt
          have He := Lib.hid (Tr.endN_is (xs := xs) hjk (by rw [HL.out]; exact hk) Hall.out (.inr (by omega)))
          clear hgt
          go_wp2
          go_quiet (fail)
          go_wp2
          go_ret
          exact ⟨Kit.ret_int (by rw [Hf.out, Int.toNat_natCast, He.out]), Hd1.out.trans (hD.drewN _)⟩
      · have hltd : decide (k < n) = false := by simpa using hlt
        obtain rfl : k = n := by omega
        have He := Lib.hid (Tr.endN_is (xs := xs) hjk (by rw [HL.out]; exact hk) Hall.out (.inl HL.out.symm))
        go_wp2
        go_quiet (fail)
        go_wp2
        go_ret
        exact ⟨Kit.ret_int (by rw [Hf.out, Int.toNat_natCast, He.out]), Hd1.out.trans (hD.drewN _)⟩

end Go.Proofs.Ytajplmopdipbnaa

/- Contracts (KidS). -/
namespace Go.Proofs.Ytajplmopdipbnaa
open Go.RowKit
set_option linter.unusedVariables false

theorem info_intS : (Try.prog.info? 3).map (fun i => (i.zero, i.size, i.bytes)) = some (some (.int .i64 0), 1, 8) := by kernel_rfl

set_option maxHeartbeats 800000 in
set_option maxRecDepth 100000 in
theorem specKidsOf_any (A : Option Addr) (n c : Nat) (xs : Tr) (i : Int) (w : World) (h : NdIn w w.heap.size A n xs) (hn : n ≤ 1048576) :
    Calls Try.prog 94 #[.slice A n c, .int .i64 i] w (OwnInts 3 (Tr.kidsI xs i) w) := by
  have H := Lib.hid h
  clear h
  have HL := Lib.hid H.out.1
  obtain ⟨i0, hi, hz0, hz1, hz2⟩ := info_parts info_intS
  rcases hok : Tr.has xs i with _ | _
  · have Hf := Lib.hid (Tr.kidsI_no hok)
    have Hok := Lib.hid hok
    clear hok
    go_enter Try.func94, Try.ntmps94
    go_wp2
    refine wp_loop_rounds 1 ?_
    rw [rounds_succ]
    go_wp2_with fail
    refine (l3At_any _ _ _ xs _ _ ((H.out.to_below ((Below.refl _ _).alloc (Nat.le_refl _) _))) hn).mono ?_
    rintro e w1 ⟨rfl, hd1⟩
    have HB := Lib.hid (Drawn.below ((Below.refl w.heap.size w).alloc (Nat.le_refl _) _) hd1)
    have Ho := Lib.hid (own_drawn (World.ownsRow_lit (e := 3) (size := 1) w #[] 0 (Nat.le_refl _) (Nat.zero_le _) rfl) hd1)
    clear hd1
    rw [Hok.out]
    go_wp2
    go_ret
    exact ⟨_, _, by rw [Hf.out]; rfl, by rw [Hf.out]; exact Ho.out, HB.out⟩
  · have h1 := (Tr.has_iff.1 hok).2
    have h0 := (Tr.has_iff.1 hok).1
    rw [HL.out] at h1
    have hbd := Lib.hid fun k => Tr.ok_at (xs := xs) h0 (k := k)
    obtain ⟨j, rfl⟩ := Int.eq_ofNat_of_zero_le h1.1
    have hj : j < n := by omega
    have Hf := Lib.hid (Tr.kidsI_yes hok)
    have He := Lib.hid (Tr.endOf_yes hok)
    have hE := Tr.endN_spec xs j (by rw [HL.out]; exact hj)
    have hE1 := hE.1
    have hE2 := hE.2.1
    rw [HL.out] at hE2
    have Hok := Lib.hid hok
    clear hok h1 h0 hE
    go_enter Try.func94, Try.ntmps94
    go_wp2
    go_loopw [6, 5] (fun kv ov wr => ∃ k : Nat, j < k ∧ k ≤ Tr.endN xs j ∧ kv = .int .i64 k ∧ wr.ownsRow w.heap.size 3 1 ov (Tr.kidsZ xs j k).length (ints (Tr.kidsZ xs j k)) ∧ Below w.heap.size w wr) (fun k _ _ => n - (intOf k).toNat)
    case atStart => exact ⟨j + 1, by omega, by omega, by go_num, by rw [Tr.kidsZ_start]; exact World.ownsRow_lit w #[] 0 (Nat.le_refl _) (Nat.zero_le _) rfl, (Below.refl _ _).alloc (Nat.le_refl _) _⟩
    case round =>
      obtain ⟨k, hjk, hk, rfl, hown, hB⟩ := hrel
      have hz := Lib.hid (H.out.to_below hB)
      have Ho := Lib.hid hown
      have HB := Lib.hid hB
      clear hown hB
      go_wp2_with fail
      refine (l3At_any _ _ _ xs _ _ hz.out hn).mono ?_
      rintro e w1 ⟨rfl, hd1⟩
      have hz := Lib.hid (hz.out.to_drawn hd1)
      have Ho := Lib.hid (own_drawn Ho.out hd1)
      have HB := Lib.hid (Drawn.below HB.out hd1)
      clear hd1
      rw [Hok.out]
      go_wp2_with fail
      refine (specEndOf_any _ _ _ xs _ _ hz.out hn).mono ?_
      rintro e w2 ⟨rfl, hd2⟩
      have hz := Lib.hid (hz.out.to_drawn hd2)
      have Ho := Lib.hid (own_drawn Ho.out hd2)
      have HB := Lib.hid (Drawn.below HB.out hd2)
      have hsz2 := HB.out.size
      clear hd2
      rw [He.out]
      by_cases hlt : k < Tr.endN xs j
      · obtain ⟨ad, rfl, hb, hl, hd⟩ := hz.out.at_ (k := k) (by omega)
        obtain ⟨hl', hd'⟩ := hz.out.here hj
        clear hl hl'
        have Hs := Lib.hid (Tr.kidsZ_succ xs j k hjk)
        have hlen := Tr.kidsZ_len xs j k
        have hk0 : (0 : Int) ≤ (k : Int) := by omega
        have hj0 : (0 : Int) ≤ (j : Int) := by omega
        have hbj := (hbd.out j (by rw [HL.out]; exact hj)).2.1
        have a5 : IntKind.i64.wrap (Tr.d xs j + 1) = Tr.d xs j + 1 := Kit.w64 (by omega) (by omega)
        by_cases hq : Tr.d xs k = Tr.d xs j + 1
        · have q : (Tr.d xs k == Tr.d xs j + 1) = true := by simpa using hq
          have Hq := Lib.hid hq
          clear hq
          go_wp2
          go_quiet (fail)
          clear a5
          go_wp2_with (at_builtin; go_loud (refine append_int (World.drewN w2 nq) rfl _ _ 25 rfl w.heap.size 3 i0 Try.underlying25 hi hz0 hz1 hz2 u5 (Tr.kidsZ xs j k).length (Tr.kidsZ xs j k) rfl (Ho.out : World.ownsRow (World.drewN w2 nq) _ _ _ _ _ _) rfl (k : Int) rfl (by omega) hsz2 ?_; intro v1 w3 hown3 hgrow3))
          have hb3 := Kit.below_own (below_drewN HB.out _) (Ho.out : World.ownsRow (World.drewN w2 nq) _ _ _ _ _ _) hgrow3
          go_roundw
          case rel => exact ⟨k + 1, by omega, by omega, by go_num, by rw [Hs.out, if_pos Hq.out]; exact hown3, hb3⟩
          case measure => simp [intOf]; omega
        · have q : (Tr.d xs k == Tr.d xs j + 1) = false := by simpa using hq
          have Hq := Lib.hid hq
          clear hq
          go_wp2
          go_quiet (fail)
          clear a5
          go_wp2
          go_roundw
          case rel => exact ⟨k + 1, by omega, by omega, by go_num, by rw [Hs.out, if_neg (by have := Hq.out; omega)]; exact (Ho.out : World.ownsRow (World.drewN w2 nq) _ _ _ _ _ _), below_drewN HB.out _⟩
          case measure => simp [intOf]; omega
      · obtain rfl : k = Tr.endN xs j := by omega
        obtain ⟨A', c', rfl⟩ := own_slice Ho.out
        go_wp2
        go_ret
        exact ⟨A', c', by rw [Hf.out]; rfl, by rw [Hf.out]; exact Ho.out, HB.out⟩

end Go.Proofs.Ytajplmopdipbnaa

/- Contracts (PostS). -/
namespace Go.Proofs.Ytajplmopdipbnaa
open Go.RowKit
set_option linter.unusedVariables false

/-- kids of i, row of numbers -/
def Tr.kidsR (xs : Tr) (i : Nat) : List Nat := Tr.kidsTo xs i (Tr.endN xs i)
theorem info_intP : (Try.prog.info? 3).map (fun i => (i.zero, i.size, i.bytes)) = some (some (.int .i64 0), 1, 8) := by kernel_rfl
def Zs.up (l : List Nat) : List Int := l.map fun (m : Nat) => (m : Int)
theorem Zs.up_length (l : List Nat) : (Zs.up l).length = l.length := by simp [Zs.up]
theorem Zs.up_append (a b : List Nat) : Zs.up (a ++ b) = Zs.up a ++ Zs.up b := by simp [Zs.up]
theorem Zs.up_at (l : List Nat) (k : Nat) (h : k < l.length) : Zs.at (Zs.up l) k = (l[k] : Int) := by simp [Zs.at, Zs.up, List.getD_eq_getElem?_getD, h]
theorem flat_take (l : List Nat) (g : Nat → List Nat) (t : Nat) (h : t < l.length) : (l.take (t + 1)).flatMap g = (l.take t).flatMap g ++ g l[t] := by
  rw [List.take_succ_eq_append_getElem h, List.flatMap_append]
  simp
theorem flat_len (l : List Nat) (g : Nat → List Nat) (t : Nat) : ((l.take t).flatMap g).length ≤ (l.flatMap g).length := by
  have : l.flatMap g = (l.take t).flatMap g ++ (l.drop t).flatMap g := by rw [← List.flatMap_append, List.take_append_drop]
  rw [this, List.length_append]
  omega

set_option maxHeartbeats 1600000 in
set_option maxRecDepth 100000 in
theorem l6Post_body (A : Option Addr) (n c : Nat) (xs : Tr) (hok : Tr.ok xs = true) (hn : n ≤ 1048576) (i : Nat) (hi' : i < n) (g : Nat → List Nat)
    (hg : ∀ (t : Nat) (ht : t < (Tr.kidsR xs i).length) (w : World), NdIn w w.heap.size A n xs → Calls Try.prog 66 #[.slice A n c, .int .i64 (Tr.kidsR xs i)[t]] w (OwnInts 3 (Zs.up (g (Tr.kidsR xs i)[t])) w))
    (hpos : ∀ (t : Nat) (ht : t < (Tr.kidsR xs i).length), 0 < (g (Tr.kidsR xs i)[t]).length) (hlen : ((Tr.kidsR xs i).flatMap g).length ≤ 24)
    (w : World) (h : NdIn w w.heap.size A n xs) :
    Calls Try.prog 66 #[.slice A n c, .int .i64 i] w (OwnInts 3 (Zs.up ((Tr.kidsR xs i).flatMap g ++ [i])) w) := by
  have H := Lib.hid h
  have HL := Lib.hid H.out.1
  have HG := Lib.hid hg
  have HP := Lib.hid hpos
  clear h hg hpos
  obtain ⟨i0, hi, hz0, hz1, hz2⟩ := info_parts info_intP
  have Hi := Lib.hid hi
  clear hi
  have hki : Tr.kidsI xs (i : Int) = Zs.up (Tr.kidsR xs i) := by
    rw [Tr.kidsI_yes (Tr.has_iff.2 ⟨hok, by omega, by rw [HL.out]; omega⟩)]
    rfl
  obtain ⟨K, hK⟩ : ∃ K, K = Tr.kidsR xs i := ⟨_, rfl⟩
  have HKI := Lib.hid (hki.trans (by rw [← hK]))
  rw [← hK] at HG HP hlen ⊢
  have hKl : K.length ≤ 1048576 := by
    have h1 := Tr.kidsTo_le xs i (Tr.endN xs i)
    have h2 := (Tr.endN_dn hok (i := i) (by rw [HL.out]; exact hi')).2.1
    rw [hK, Tr.kidsR]
    rw [HL.out] at h2
    omega
  clear hki hok hK
  have HFL := Lib.hid (flat_len K g)
  have HFT := Lib.hid (flat_take K g)
  have Ho := Lib.hid (World.ownsRow_lit (base := w.heap.size) (e := 3) (size := 1) w #[] 0 (Nat.le_refl _) (Nat.zero_le _) rfl)
  have HB := Lib.hid ((Below.refl w.heap.size w).alloc (Nat.le_refl _) (.cells #[] 3))
  have H1 := Lib.hid ((H.out.below HB.out).more HB.out.size)
  go_enter Try.func66, Try.ntmps66
  go_wp2_with fail
  refine (specKidsOf_any _ _ _ xs _ _ H1.out hn).mono ?_
  rintro e w1 ⟨Ak, ck, rfl, hk, hb⟩
  rw [HKI.out] at hk ⊢
  have Ho := Lib.hid (own_below Ho.out hb)
  have HB := Lib.hid (HB.out.trans (hb.mono HB.out.size))
  have hsz : (w.alloc (.cells #[] 3)).heap.size = w.heap.size + 1 := by simp
  have hap : Apart (.slice Ak (Zs.up K).length ck) (.slice (some ⟨w.heap.size, 0, none⟩) 0 0) := by
    rcases hq : (Value.slice Ak (Zs.up K).length ck).ownBlock with _ | gk
    · exact .inl hq
    · refine .inr ?_
      have := (hk.lt gk hq).1
      rw [hq]
      show some gk ≠ some w.heap.size
      intro e
      injection e
      omega
  have Hk := Lib.hid (own_base hk (show w.heap.size ≤ (w.alloc (.cells #[] 3)).heap.size by omega))
  have Hap := Lib.hid hap
  clear hb hk hap hsz H1
  rw [Zs.up_length] at Hk Hap ⊢
  go_wp2
  go_loopw [7, 5] (fun kv ov wr => ∃ t : Nat, t ≤ K.length ∧ kv = .int .i64 t ∧ wr.ownsRow w.heap.size 3 1 ov (Zs.up ((K.take t).flatMap g)).length (ints (Zs.up ((K.take t).flatMap g))) ∧ wr.ownsRow w.heap.size 3 1 (.slice Ak K.length ck) K.length (ints (Zs.up K)) ∧ Apart (.slice Ak K.length ck) ov ∧ Below w.heap.size w wr) (fun k _ _ => K.length - (intOf k).toNat)
  case atStart => exact ⟨0, Nat.zero_le _, rfl, Ho.out, Hk.out, Hap.out, HB.out⟩
  case round =>
    clear Ho HB Hk Hap
    obtain ⟨t, ht, rfl, hown, hkid, hap, hB⟩ := hrel
    have Ho := Lib.hid hown
    have HB := Lib.hid hB
    have Hk := Lib.hid hkid
    have Hap := Lib.hid hap
    clear hown hB hkid hap
    have hfl := HFL.out t
    by_cases hlt : t < K.length
    · obtain ⟨gk, rfl, _, _⟩ := own_form Hk.out (by omega)
      have c1 := own_int Hk.out (k := t) (by rw [Zs.up_length]; exact hlt)
      rw [Zs.up_at K t hlt] at c1
      have hf1 := HFT.out t hlt
      have hfl1 := HFL.out (t + 1)
      have H1 := Lib.hid ((H.out.below HB.out).more HB.out.size)
      have hg1 := HP.out t hlt
      have t0 : (0 : Int) ≤ (t : Int) := by omega
      have t1 : (t : Int) < (K.length : Int) := by omega
      rw [hf1, List.length_append] at hfl1
      have Hf1 := Lib.hid hf1
      clear hf1
      go_wp2_with fail
      refine (HG.out t hlt wr H1.out).mono ?_
      rintro e w2 ⟨A2, c2, rfl, ho2, hb⟩
      have Ho := Lib.hid (own_below Ho.out hb)
      have Hk := Lib.hid (own_below Hk.out hb)
      have HB := Lib.hid (HB.out.trans (hb.mono HB.out.size))
      have I2 := Lib.hid (IntIn.of_own ho2)
      have hsx := HB.out.size
      clear ho2 hb c1
      go_wp2_with (at_builtin; go_loud (refine append_ints w2 rfl _ _ 25 rfl w.heap.size 3 i0 Try.underlying25 Hi.out hz0 hz1 hz2 u5 (Zs.up ((K.take t).flatMap g)).length (Zs.up ((K.take t).flatMap g)) rfl Ho.out rfl (Zs.up (g K[t])) A2 c2 rfl I2.out (by rw [Zs.up_length]; exact hg1) (by rw [Zs.up_length, Zs.up_length]; omega) hsx ?_); intro v' w3 hown hgrow hwhere)
      have hb3 := Below.grown HB.out hgrow hsx (fun k hk => (Ho.out.lt k hk).1)
      have Hk3 := Lib.hid (World.ownsRow.kept Hk.out hgrow Hap.out)
      have Hap3 := Lib.hid (Hap.out.grew Hk.out hwhere)
      rw [← Zs.up_append, ← Hf1.out] at hown
      go_roundw
      case rel => exact ⟨t + 1, by omega, by go_num, hown, Hk3.out, Hap3.out, hb3⟩
      case measure => simp [intOf]; omega
    · obtain rfl : t = K.length := by omega
      have Ht := Lib.hid (show (K.take K.length).flatMap g = K.flatMap g by rw [List.take_length])
      rw [Ht.out] at Ho hfl
      have hsx := HB.out.size
      go_wp2_with (at_builtin; go_loud (refine append_int_at wr rfl _ _ 25 rfl w.heap.size 3 i0 Try.underlying25 Hi.out hz0 hz1 hz2 u5 (Zs.up (K.flatMap g)).length (Zs.up (K.flatMap g)) rfl Ho.out rfl (i : Int) rfl (by rw [Zs.up_length]; omega) hsx ?_); intro v' w3 hown hgrow hwhere)
      have hb3 := Kit.below_own HB.out Ho.out hgrow
      rw [show Zs.up (K.flatMap g) ++ [(i : Int)] = Zs.up (K.flatMap g ++ [i]) by rw [Zs.up_append]; rfl] at hown
      obtain ⟨A3, c3, rfl⟩ := own_slice hown
      go_ret
      exact ⟨A3, c3, rfl, hown, hb3⟩

theorem Tr.postF_ne (xs : Tr) (f i : Nat) : 0 < (Tr.postF xs f i).length := by
  cases f <;> simp [Tr.postF]
theorem Tr.kids_sub {xs : Tr} (hok : Tr.ok xs = true) {i : Nat} (hi : i < xs.length) : ∀ j ∈ Tr.kidsR xs i, i < j ∧ j < Tr.endN xs i := by
  intro j hj
  unfold Tr.kidsR Tr.kidsTo at hj
  simp only [List.mem_filter, List.mem_range, Bool.and_eq_true, decide_eq_true_eq] at hj
  omega
theorem l6Post_any (A : Option Addr) (n c : Nat) (xs : Tr) (hok : Tr.ok xs = true) (hxl : xs.length = n) : ∀ (f i : Nat), i < n → Tr.endN xs i - i ≤ f + 1 → ∀ (w : World), NdIn w w.heap.size A n xs →
    Calls Try.prog 66 #[.slice A n c, .int .i64 i] w (OwnInts 3 (Zs.up (Tr.postF xs f i)) w) := by
  have hle := (Tr.ok_iff.1 hok).2
  intro f
  induction f with
  | zero =>
    intro i hi hf w h
    have a := Tr.endN_dn hok (i := i) (by omega)
    have hk : Tr.kidsR xs i = [] := by
      unfold Tr.kidsR
      rw [show Tr.endN xs i = i + 1 by omega, Tr.kidsTo_start]
    have := l6Post_body A n c xs hok (by omega) i hi (fun _ => []) (by intro t ht; rw [hk] at ht; simp at ht) (by intro t ht; rw [hk] at ht; simp at ht) (by rw [hk]; simp) w h
    rw [hk] at this
    exact this
  | succ f ih =>
    intro i hi hf w h
    have hsp := (Tr.postF_spec hok (f + 1) i (by omega) hf).1
    have a := Tr.endN_dn hok (i := i) (by omega)
    have hp : Tr.postF xs (f + 1) i = (Tr.kidsR xs i).flatMap (Tr.postF xs f) ++ [i] := rfl
    rw [hp] at hsp ⊢
    rw [List.length_append] at hsp
    refine l6Post_body A n c xs hok (by omega) i hi (Tr.postF xs f) (fun t ht w' h' => ?_) (fun t ht => Tr.postF_ne _ _ _) (by simp only [List.length_singleton] at hsp; omega) w h
    have hm := Tr.kids_sub hok (i := i) (by omega) _ (List.getElem_mem ht)
    have hs := Tr.endN_in hok (i := i) (by omega) hm.1 hm.2
    exact ih _ (by omega) (by omega) w' h'

set_option maxHeartbeats 800000 in
theorem specPostOrder_any (A : Option Addr) (n c : Nat) (xs : Tr) (w : World) (h : NdIn w w.heap.size A n xs) (hn : n ≤ 1048576) :
    Calls Try.prog 26 #[.slice A n c] w (OwnInts 3 (Zs.up (Tr.post xs)) w) := by
  have H := Lib.hid h
  clear h
  have HL := Lib.hid H.out.1
  rcases hok : Tr.ok xs with _ | _
  · have Hf := Lib.hid (show Zs.up (Tr.post xs) = [] by unfold Tr.post; rw [hok]; rfl)
    have Hok := Lib.hid hok
    clear hok
    go_enter Try.func26, Try.ntmps26
    go_wp2_with fail
    refine (specTreeOk_any _ _ _ xs _ H.out hn).mono ?_
    rintro e w1 ⟨rfl, hd⟩
    have HB := Lib.hid (hd.toBelow (B := w.heap.size))
    clear hd
    rw [Hok.out]
    have hsx := HB.out.size
    go_wp2
    go_ret
    exact ⟨_, _, by rw [Hf.out]; rfl, by rw [Hf.out]; exact World.ownsRow_lit w1 #[] 0 hsx (Nat.zero_le _) rfl, HB.out.alloc hsx _⟩
  · have hle := (Tr.ok_iff.1 hok).2
    rw [HL.out] at hle
    have Hf := Lib.hid (show Tr.post xs = Tr.postF xs xs.length 0 by unfold Tr.post; rw [hok]; rfl)
    have Hc := Lib.hid (fun w h => l6Post_any A n c xs hok HL.out xs.length 0 (by omega) (by rw [Tr.endN_zero hok]; omega) w h)
    have Hok := Lib.hid hok
    clear hok
    go_enter Try.func26, Try.ntmps26
    go_wp2_with fail
    refine (specTreeOk_any _ _ _ xs _ H.out hn).mono ?_
    rintro e w1 ⟨rfl, hd⟩
    have HB := Lib.hid (hd.toBelow (B := w.heap.size))
    have H1 := Lib.hid (H.out.to_drawn hd)
    clear hd
    rw [Hok.out]
    go_wp2_with fail
    refine (Hc.out w1 H1.out).mono ?_
    rintro e w2 ⟨A2, c2, rfl, ho, hb⟩
    have hsx := HB.out.size
    have HB := Lib.hid (HB.out.trans (hb.mono hsx))
    have Ho := Lib.hid (own_base ho hsx)
    clear hb ho
    go_wp2
    go_ret
    exact ⟨A2, c2, by rw [Hf.out]; rfl, by rw [Hf.out]; exact Ho.out, HB.out⟩

end Go.Proofs.Ytajplmopdipbnaa

/- Contracts (Dst). -/
namespace Go.Proofs.Ytajplmopdipbnaa
open Go.RowKit
set_option linter.unusedVariables false

/-! The distances of two trees under costs, as numbers; what a table under way holds. -/
def Co.cs (k : Co) : Cs := ⟨Co.del k, Co.ins k, Co.rel k⟩
section
variable (xs ys : Tr) (k : Co)
/-- forests from place p to place a (of the first) and from q to b (of the second) -/
def RR (p a q b : Nat) : Int := RD (Co.cs k) (Tr.la xs) (Tr.la ys) (Tr.xa xs) (Tr.xa ys) p a q b
/-- the trees at two places -/
def TT (a b : Nat) : Int := TD (Co.cs k) (Tr.la xs) (Tr.la ys) (Tr.xa xs) (Tr.xa ys) a b
end
theorem Co.fit3 {k : Co} (h : Co.ok k = true) : Zs.fit k.d 6 = true ∧ Zs.fit k.i 6 = true ∧ Zs.fit k.r 36 = true := by
  simp only [Co.ok, Bool.and_eq_true] at h
  exact ⟨h.1.1.1, h.1.1.2, h.1.2⟩
theorem Co.nonneg' (k : Co) : (∀ a, 0 ≤ Co.del k a ∧ Co.del k a ≤ 1000) ∧ (∀ a, 0 ≤ Co.ins k a ∧ Co.ins k a ≤ 1000) ∧ ∀ a b, 0 ≤ Co.rel k a b ∧ Co.rel k a b ≤ 1000 := by
  refine ⟨fun a => ?_, fun a => ?_, fun a b => ?_⟩
  · unfold Co.del
    split
    · rename_i h
      simp only [Bool.and_eq_true] at h
      have := Zs.fit_iff.1 (Co.fit3 h.1).1
      have hl : 0 ≤ a ∧ a ≤ 5 := by simpa [Lab.ok] using h.2
      exact this.2 a.toNat (by omega)
    · omega
  · unfold Co.ins
    split
    · rename_i h
      simp only [Bool.and_eq_true] at h
      have := Zs.fit_iff.1 (Co.fit3 h.1).2.1
      have hl : 0 ≤ a ∧ a ≤ 5 := by simpa [Lab.ok] using h.2
      exact this.2 a.toNat (by omega)
    · omega
  · unfold Co.rel
    split
    · rename_i h
      simp only [Bool.and_eq_true] at h
      have := Zs.fit_iff.1 (Co.fit3 h.1.1).2.2
      have hl : 0 ≤ a ∧ a ≤ 5 := by simpa [Lab.ok] using h.1.2
      have hm : 0 ≤ b ∧ b ≤ 5 := by simpa [Lab.ok] using h.2
      exact this.2 (a * 6 + b).toNat (by omega)
    · omega
theorem Co.cs_nonneg (k : Co) : (Co.cs k).nonneg := ⟨fun a => ((Co.nonneg' k).1 a).1, fun a => ((Co.nonneg' k).2.1 a).1, fun a b => ((Co.nonneg' k).2.2 a b).1⟩
theorem Co.del_at {k : Co} (h : Co.ok k = true) {u : Nat} (hu : u < 6) : Co.del k u = Zs.at k.d u := by
  unfold Co.del
  have : Lab.ok (u : Int) = true := by simp [Lab.ok]; omega
  rw [h, this]; rfl
theorem Co.ins_at {k : Co} (h : Co.ok k = true) {u : Nat} (hu : u < 6) : Co.ins k u = Zs.at k.i u := by
  unfold Co.ins
  have : Lab.ok (u : Int) = true := by simp [Lab.ok]; omega
  rw [h, this]; rfl
theorem Co.rel_at {k : Co} (h : Co.ok k = true) {u v : Nat} (hu : u < 6) (hv : v < 6) : Co.rel k u v = Zs.at k.r (u * 6 + v) := by
  unfold Co.rel
  have h1 : Lab.ok (u : Int) = true := by simp [Lab.ok]; omega
  have h2 : Lab.ok (v : Int) = true := by simp [Lab.ok]; omega
  rw [h, h1, h2]; rfl
section
variable {xs : Tr} (hok : Tr.ok xs = true)
include hok
theorem Tr.len24 : 1 ≤ xs.length ∧ xs.length ≤ 24 := (Tr.ok_iff.1 hok).2
theorem Tr.xa_lab {p : Nat} (hp : p < xs.length) : ∃ u : Nat, u < 6 ∧ Tr.xa xs p = (u : Int) := by
  obtain ⟨i, h1, _, _, h4, _⟩ := Tr.la_at hok hp
  have := (Tr.ok_at hok h1).1
  exact ⟨(Tr.l xs i).toNat, by omega, by rw [h4]; omega⟩
theorem Tr.xa_last : Tr.xa xs (xs.length - 1) = Tr.l xs 0 := by
  have h1 := (Tr.ok_iff.1 hok).2
  obtain ⟨i, a, b, _, d, _⟩ := Tr.la_at hok (p := xs.length - 1) (by omega)
  have h0 := Tr.rk_inj hok (i := 0) (j := i) (by omega) a (by
    rw [b]
    unfold Tr.rk
    rw [Tr.endN_zero hok, Tr.dn_zero hok]
    omega)
  rw [d, ← h0]
theorem Tr.lfs_len : (Tr.lfs xs).length = xs.length := by rw [Tr.lfs_length, Tr.post_length hok]
theorem Tr.lab_len : (Tr.lab xs).length = xs.length := by rw [Tr.lab_length, Tr.post_length hok]
theorem Tr.la_up {p : Nat} (hp : p < xs.length) : Zs.at (Zs.up (Tr.lfs xs)) p = (Tr.la xs p : Int) := by
  have hl := Tr.lfs_len hok
  rw [Zs.up_at _ _ (by omega)]
  unfold Tr.la
  rw [List.getD_eq_getElem?_getD, List.getElem?_eq_getElem (by omega)]
  rfl
theorem Tr.krs_lt {q : Nat} (hq : q ∈ Tr.krs xs) : q < xs.length := by
  have hlen := Tr.lfs_len hok
  unfold Tr.krs Tr.krTo at hq
  rw [hlen] at hq
  simp only [List.mem_filter, List.mem_range] at hq
  exact hq.1
end
section
variable {xs ys : Tr} {k : Co}
theorem RR_bound (hx : Tr.ok xs = true) (hy : Tr.ok ys = true) {p a q b : Nat} (h1 : p ≤ a) (h2 : a ≤ xs.length) (h3 : q ≤ b) (h4 : b ≤ ys.length) : 0 ≤ RR xs ys k p a q b ∧ RR xs ys k p a q b ≤ 48000 := by
  have n1 := (Tr.len24 hx).2
  have n2 := (Tr.len24 hy).2
  have s1 := fr_size (la := Tr.la xs) (x := Tr.xa xs) (Tr.la_nest hx) _ p a rfl h1 h2
  have s2 := fr_size (la := Tr.la ys) (x := Tr.xa ys) (Tr.la_nest hy) _ q b rfl h3 h4
  have u := FD_le (K := Co.cs k) (M := 1000) (fun a => ((Co.nonneg' k).1 a).2) (fun a => ((Co.nonneg' k).2.1 a).2) _ (fr (Tr.la xs) (Tr.xa xs) p a) (fr (Tr.la ys) (Tr.xa ys) q b) rfl
  have l := FD_nonneg (Co.cs_nonneg k) _ (fr (Tr.la xs) (Tr.xa xs) p a) (fr (Tr.la ys) (Tr.xa ys) q b) rfl
  unfold RR RD
  rw [s1, s2] at u
  omega
theorem TT_eq (a b : Nat) : TT xs ys k a b = RR xs ys k (Tr.la xs a) (a + 1) (Tr.la ys b) (b + 1) := rfl
theorem TT_bound (hx : Tr.ok xs = true) (hy : Tr.ok ys = true) {a b : Nat} (h1 : a < xs.length) (h2 : b < ys.length) : 0 ≤ TT xs ys k a b ∧ TT xs ys k a b ≤ 48000 := by
  have := (Tr.la_nest hx a h1).1
  have := (Tr.la_nest hy b h2).1
  rw [TT_eq]
  exact RR_bound hx hy (by omega) (by omega) (by omega) (by omega)
end
theorem idx_inj {m a b x y : Nat} (hb : b < m) (hy : y < m) (h : a * m + b = x * m + y) : a = x ∧ b = y := by
  have h1 : (b + m * a) / m = (y + m * x) / m := by rw [Nat.mul_comm m a, Nat.mul_comm m x]; congr 1; omega
  rw [Nat.add_mul_div_left _ _ (by omega), Nat.add_mul_div_left _ _ (by omega), Nat.div_eq_of_lt hb, Nat.div_eq_of_lt hy] at h1
  have : a = x := by omega
  subst this
  exact ⟨rfl, by omega⟩
theorem idx_lt {n m a b : Nat} (ha : a < n) (hb : b < m) : a * m + b < n * m := by
  have : (a + 1) * m ≤ n * m := Nat.mul_le_mul_right m (by omega)
  rw [Nat.add_mul] at this
  omega
/-- a table of forests from places p and q on under way at places x and y of key roots i and j, and the trees -/
structure Fill (xs ys : Tr) (k : Co) (i j x y : Nat) (F : Nat → Nat → Int) (T0 T : List Int) : Prop where
  f : ∀ a b, Tr.la xs i ≤ a → a ≤ i + 1 → Tr.la ys j ≤ b → b ≤ j + 1 → (a ≤ x ∨ (a = x + 1 ∧ b ≤ y) ∨ b = Tr.la ys j) → F a b = RR xs ys k (Tr.la xs i) a (Tr.la ys j) b
  len : T.length = xs.length * ys.length
  t1 : ∀ a b, a ≤ i → b ≤ j → Tr.la xs a = Tr.la xs i → Tr.la ys b = Tr.la ys j → (a < x ∨ (a = x ∧ b < y)) → Zs.at T (a * ys.length + b) = TT xs ys k a b
  t2 : ∀ a b, a < xs.length → b < ys.length → ¬ (a ≤ i ∧ b ≤ j ∧ Tr.la xs a = Tr.la xs i ∧ Tr.la ys b = Tr.la ys j) → Zs.at T (a * ys.length + b) = Zs.at T0 (a * ys.length + b)
/-- what the trees hold ahead of the table of key roots i and j -/
def Ahead (xs ys : Tr) (k : Co) (i j : Nat) (T : List Int) : Prop :=
  ∀ a b, Tr.la xs i ≤ a → a ≤ i → Tr.la ys j ≤ b → b ≤ j → ¬ (Tr.la xs a = Tr.la xs i ∧ Tr.la ys b = Tr.la ys j) → Zs.at T (a * ys.length + b) = TT xs ys k a b
theorem Zs.at_set {T : List Int} {u v : Nat} {z : Int} (hv : v < T.length) : Zs.at (T.set v z) u = if u = v then z else Zs.at T u := by
  unfold Zs.at
  rw [List.getD_eq_getElem?_getD, List.getD_eq_getElem?_getD, List.getElem?_set]
  by_cases e : v = u
  · subst e; rw [if_pos rfl, if_pos hv, if_pos rfl]; rfl
  · rw [if_neg e, if_neg (fun h => e h.symm)]
section
variable {xs ys : Tr} {k : Co} {i j x y : Nat} {F F' : Nat → Nat → Int} {T0 T : List Int} (hx : Tr.ok xs = true) (hy : Tr.ok ys = true) (hi : i < xs.length) (hj : j < ys.length)
include hx hy hi hj
/-- the facts of one cell -/
theorem Fill.geo (px : Tr.la xs i ≤ x) (xi : x ≤ i) (qy : Tr.la ys j ≤ y) (yj : y ≤ j) : Tr.la xs i ≤ Tr.la xs x ∧ Tr.la xs x ≤ x ∧ Tr.la ys j ≤ Tr.la ys y ∧ Tr.la ys y ≤ y := by
  have A := Tr.la_nest hx
  have B := Tr.la_nest hy
  have a1 : Tr.la xs i ≤ Tr.la xs x := by
    rcases Nat.lt_or_ge x i with h | h
    · exact (A i hi).2 x px h
    · rw [show x = i by omega]; exact Nat.le_refl _
  have b1 : Tr.la ys j ≤ Tr.la ys y := by
    rcases Nat.lt_or_ge y j with h | h
    · exact (B j hj).2 y qy h
    · rw [show y = j by omega]; exact Nat.le_refl _
  exact ⟨a1, (A x (by omega)).1, b1, (B y (by omega)).1⟩
theorem Fill.reads (h : Fill xs ys k i j x y F T0 T) (px : Tr.la xs i ≤ x) (xi : x ≤ i) (qy : Tr.la ys j ≤ y) (yj : y ≤ j) :
    F x (y + 1) = RR xs ys k (Tr.la xs i) x (Tr.la ys j) (y + 1) ∧ F (x + 1) y = RR xs ys k (Tr.la xs i) (x + 1) (Tr.la ys j) y ∧ F x y = RR xs ys k (Tr.la xs i) x (Tr.la ys j) y ∧
    F (Tr.la xs x) (Tr.la ys y) = RR xs ys k (Tr.la xs i) (Tr.la xs x) (Tr.la ys j) (Tr.la ys y) := by
  obtain ⟨g1, g2, g3, g4⟩ := Fill.geo hx hy hi hj px xi qy yj
  exact ⟨h.f _ _ (by omega) (by omega) (by omega) (by omega) (.inl (Nat.le_refl _)), h.f _ _ (by omega) (by omega) (by omega) (by omega) (.inr (.inl ⟨rfl, Nat.le_refl _⟩)),
    h.f _ _ (by omega) (by omega) (by omega) (by omega) (.inl (Nat.le_refl _)), h.f _ _ (by omega) (by omega) (by omega) (by omega) (.inl g2)⟩
theorem Fill.first (hA : Ahead xs ys k i j T0) (h : Fill xs ys k i j x y F T0 T) (px : Tr.la xs i ≤ x) (xi : x ≤ i) (qy : Tr.la ys j ≤ y) (yj : y ≤ j)
    (e : Tr.la xs x = Tr.la xs i ∧ Tr.la ys y = Tr.la ys j) {v : Int} (hv : v = min (min (F x (y + 1) + Co.del k (Tr.xa xs x)) (F (x + 1) y + Co.ins k (Tr.xa ys y))) (F x y + Co.rel k (Tr.xa xs x) (Tr.xa ys y)))
    (hF : ∀ a b, Tr.la xs i ≤ a → a ≤ i + 1 → Tr.la ys j ≤ b → b ≤ j + 1 → F' a b = if a = x + 1 ∧ b = y + 1 then v else F a b) :
    v = TT xs ys k x y ∧ Fill xs ys k i j x (y + 1) F' T0 (T.set (x * ys.length + y) v) := by
  obtain ⟨g1, g2, g3, g4⟩ := Fill.geo hx hy hi hj px xi qy yj
  obtain ⟨r1, r2, r3, _⟩ := Fill.reads hx hy hi hj h px xi qy yj
  have hvT : v = TT xs ys k x y := by
    rw [hv, r1, r2, r3, ← e.1, ← e.2]
    unfold TT
    rw [TD_rec (Tr.la_nest hx) (Tr.la_nest hy) (by omega) (by omega)]
    rfl
  have hvR : v = RR xs ys k (Tr.la xs i) (x + 1) (Tr.la ys j) (y + 1) := by rw [hvT, TT_eq, e.1, e.2]
  have hlt : x * ys.length + y < T.length := by rw [h.len]; exact idx_lt (by omega) (by omega)
  refine ⟨hvT, ⟨fun a b a1 a2 b1 b2 hc => ?_, by rw [List.length_set, h.len], fun a b a1 b1 la lb hc => ?_, fun a b a1 b1 hn => ?_⟩⟩
  · rw [hF a b a1 a2 b1 b2]
    by_cases c : a = x + 1 ∧ b = y + 1
    · rw [if_pos c, c.1, c.2]; exact hvR
    · rw [if_neg c]; exact h.f a b a1 a2 b1 b2 (by omega)
  · rw [Zs.at_set hlt]
    by_cases c : a * ys.length + b = x * ys.length + y
    · obtain ⟨rfl, rfl⟩ := idx_inj (by omega) (by omega) c
      rw [if_pos rfl]; exact hvT
    · rw [if_neg c]
      refine h.t1 a b a1 b1 la lb ?_
      have : ¬ (a = x ∧ b = y) := fun e => c (by rw [e.1, e.2])
      omega
  · rw [Zs.at_set hlt, if_neg, h.t2 a b a1 b1 hn]
    intro c
    obtain ⟨rfl, rfl⟩ := idx_inj (by omega) (by omega) c
    exact hn ⟨xi, yj, e.1, e.2⟩
theorem Fill.other (hA : Ahead xs ys k i j T0) (h : Fill xs ys k i j x y F T0 T) (px : Tr.la xs i ≤ x) (xi : x ≤ i) (qy : Tr.la ys j ≤ y) (yj : y ≤ j)
    (e : ¬ (Tr.la xs x = Tr.la xs i ∧ Tr.la ys y = Tr.la ys j)) {v : Int} (hv : v = min (min (F x (y + 1) + Co.del k (Tr.xa xs x)) (F (x + 1) y + Co.ins k (Tr.xa ys y))) (F (Tr.la xs x) (Tr.la ys y) + Zs.at T (x * ys.length + y)))
    (hF : ∀ a b, Tr.la xs i ≤ a → a ≤ i + 1 → Tr.la ys j ≤ b → b ≤ j + 1 → F' a b = if a = x + 1 ∧ b = y + 1 then v else F a b) :
    Fill xs ys k i j x (y + 1) F' T0 T := by
  obtain ⟨g1, g2, g3, g4⟩ := Fill.geo hx hy hi hj px xi qy yj
  obtain ⟨r1, r2, _, r4⟩ := Fill.reads hx hy hi hj h px xi qy yj
  have hT : Zs.at T (x * ys.length + y) = TT xs ys k x y := by
    rw [h.t2 x y (by omega) (by omega) (fun c => e ⟨c.2.2.1, c.2.2.2⟩)]
    exact hA x y px xi qy yj e
  have hvR : v = RR xs ys k (Tr.la xs i) (x + 1) (Tr.la ys j) (y + 1) := by
    rw [hv, r1, r2, r4, hT]
    unfold RR TT
    rw [RD_trees (Tr.la_nest hx) (Tr.la_nest hy) g1 (by omega) g3 (by omega)]
    rfl
  refine ⟨fun a b a1 a2 b1 b2 hc => ?_, h.len, fun a b a1 b1 la lb hc => ?_, h.t2⟩
  · rw [hF a b a1 a2 b1 b2]
    by_cases c : a = x + 1 ∧ b = y + 1
    · rw [if_pos c, c.1, c.2]; exact hvR
    · rw [if_neg c]; exact h.f a b a1 a2 b1 b2 (by omega)
  · refine h.t1 a b a1 b1 la lb ?_
    have : ¬ (a = x ∧ b = y) := fun c => e (by rw [← c.1, ← c.2]; exact ⟨la, lb⟩)
    omega
/-- borders done, no cell yet -/
theorem Fill.start (hl : T.length = xs.length * ys.length) (h1 : ∀ a, Tr.la xs i ≤ a → a ≤ i + 1 → F a (Tr.la ys j) = RR xs ys k (Tr.la xs i) a (Tr.la ys j) (Tr.la ys j))
    (h2 : ∀ b, Tr.la ys j ≤ b → b ≤ j + 1 → F (Tr.la xs i) b = RR xs ys k (Tr.la xs i) (Tr.la xs i) (Tr.la ys j) b) : Fill xs ys k i j (Tr.la xs i) (Tr.la ys j) F T T := by
  refine ⟨fun a b a1 a2 b1 b2 hc => ?_, hl, fun a b a1 b1 la lb hc => ?_, fun _ _ _ _ _ => rfl⟩
  · rcases hc with c | c | c
    · have : a = Tr.la xs i := by omega
      subst this; exact h2 b b1 b2
    · have : b = Tr.la ys j := by omega
      subst this; exact h1 a a1 a2
    · subst c; exact h1 a a1 a2
  · have := (Tr.la_nest hx a (by omega)).1
    have := (Tr.la_nest hy b (by omega)).1
    omega
end
section
variable {xs ys : Tr} {k : Co} {i j x y : Nat} {F F' : Nat → Nat → Int} {T0 T : List Int}
/-- the value that is read of the trees -/
theorem Fill.tree (hi : i < xs.length) (hj : j < ys.length) (hA : Ahead xs ys k i j T0) (h : Fill xs ys k i j x y F T0 T) (px : Tr.la xs i ≤ x) (xi : x ≤ i) (qy : Tr.la ys j ≤ y) (yj : y ≤ j) (e : ¬ (Tr.la xs x = Tr.la xs i ∧ Tr.la ys y = Tr.la ys j)) :
    Zs.at T (x * ys.length + y) = TT xs ys k x y := by
  rw [h.t2 x y (by omega) (by omega) (fun c => e ⟨c.2.2.1, c.2.2.2⟩)]
  exact hA x y px xi qy yj e
theorem Fill.next (hy : Tr.ok ys = true) (hj : j < ys.length) (h : Fill xs ys k i j x (j + 1) F T0 T) : Fill xs ys k i j (x + 1) (Tr.la ys j) F T0 T := by
  have g := (Tr.la_nest hy j hj).1
  refine ⟨fun a b a1 a2 b1 b2 hc => h.f a b a1 a2 b1 b2 (by omega), h.len, fun a b a1 b1 la lb hc => ?_, h.t2⟩
  have := (Tr.la_nest hy b (by omega)).1
  exact h.t1 a b a1 b1 la lb (by omega)
theorem RR_zero : RR xs ys k (Tr.la xs i) (Tr.la xs i) (Tr.la ys j) (Tr.la ys j) = 0 := RD_none (Nat.le_refl _) (Nat.le_refl _)
theorem RR_left (hx : Tr.ok xs = true) (hi : i < xs.length) (px : Tr.la xs i ≤ x) (xi : x ≤ i) : RR xs ys k (Tr.la xs i) (x + 1) (Tr.la ys j) (Tr.la ys j) = RR xs ys k (Tr.la xs i) x (Tr.la ys j) (Tr.la ys j) + Co.del k (Tr.xa xs x) :=
  RD_left (Tr.la_nest hx) px (by omega) (Nat.le_refl _)
theorem RR_right (hy : Tr.ok ys = true) (hj : j < ys.length) (qy : Tr.la ys j ≤ y) (yj : y ≤ j) : RR xs ys k (Tr.la xs i) (Tr.la xs i) (Tr.la ys j) (y + 1) = RR xs ys k (Tr.la xs i) (Tr.la xs i) (Tr.la ys j) y + Co.ins k (Tr.xa ys y) :=
  RD_right (Tr.la_nest hy) (Nat.le_refl _) qy (by omega)
end
/-! over the pairs of key roots -/
def Tr.kr (xs : Tr) (a : Nat) : Nat := (Tr.krs xs).getD a 0
theorem Tr.kr_mem {xs : Tr} {a : Nat} (h : a < (Tr.krs xs).length) : Tr.kr xs a ∈ Tr.krs xs := by
  unfold Tr.kr
  rw [List.getD_eq_getElem?_getD, List.getElem?_eq_getElem h]
  exact List.getElem_mem h
theorem Tr.kr_rise {xs : Tr} {a b : Nat} (hab : a < b) (hb : b < (Tr.krs xs).length) : Tr.kr xs a < Tr.kr xs b := by
  have := Tr.krs_rise hab hb
  unfold Tr.kr
  rw [List.getD_eq_getElem?_getD, List.getD_eq_getElem?_getD, List.getElem?_eq_getElem hb, List.getElem?_eq_getElem (by omega)]
  exact this
theorem Tr.kr_up {xs : Tr} {a : Nat} (h : a < (Tr.krs xs).length) : Zs.at (Zs.up (Tr.krs xs)) a = (Tr.kr xs a : Int) := by
  rw [Zs.up_at _ _ h]
  unfold Tr.kr
  rw [List.getD_eq_getElem?_getD, List.getElem?_eq_getElem h]
  rfl
/-- the trees after the first pairs of key roots: all of the first kk, and the first ll beside the next one -/
structure Roots (xs ys : Tr) (k : Co) (kk ll : Nat) (T : List Int) : Prop where
  len : T.length = xs.length * ys.length
  t : ∀ a b a' b', a < xs.length → b < ys.length → a' < (Tr.krs xs).length → b' < (Tr.krs ys).length → (a' < kk ∨ (a' = kk ∧ b' < ll)) → a ≤ Tr.kr xs a' → b ≤ Tr.kr ys b' → Tr.la xs a = Tr.la xs (Tr.kr xs a') → Tr.la ys b = Tr.la ys (Tr.kr ys b') →
    Zs.at T (a * ys.length + b) = TT xs ys k a b
/-- the place of a key root -/
theorem Tr.kr_of {xs : Tr} (hok : Tr.ok xs = true) {p : Nat} (hp : p < xs.length) : ∃ a, a < (Tr.krs xs).length ∧ p ≤ Tr.kr xs a ∧ Tr.la xs (Tr.kr xs a) = Tr.la xs p := by
  obtain ⟨q, h1, h2, h3, h4⟩ := Tr.kr_ex hok hp
  obtain ⟨a, ha, e⟩ := List.getElem_of_mem h1
  refine ⟨a, ha, ?_⟩
  have : Tr.kr xs a = q := by
    unfold Tr.kr
    rw [List.getD_eq_getElem?_getD, List.getElem?_eq_getElem ha, e]
    rfl
  rw [this]
  exact ⟨h2, h4⟩
/-- two key roots with the same first leaf are one -/
theorem Tr.kr_same {xs : Tr} (hok : Tr.ok xs = true) {a b : Nat} (ha : a < (Tr.krs xs).length) (hb : b < (Tr.krs xs).length) (h : Tr.la xs (Tr.kr xs a) = Tr.la xs (Tr.kr xs b)) : a = b := by
  rcases Nat.lt_trichotomy a b with c | c | c
  · exact absurd h.symm (Tr.kr_last hok (Tr.kr_mem ha) (Tr.krs_lt hok (Tr.kr_mem hb)) (Tr.kr_rise c hb))
  · exact c
  · exact absurd h (Tr.kr_last hok (Tr.kr_mem hb) (Tr.krs_lt hok (Tr.kr_mem ha)) (Tr.kr_rise c ha))
section
variable {xs ys : Tr} {k : Co} {kk ll : Nat} {T T' : List Int} (hx : Tr.ok xs = true) (hy : Tr.ok ys = true)
include hx hy
theorem Roots.ahead (hk : kk < (Tr.krs xs).length) (hl : ll < (Tr.krs ys).length) (h : Roots xs ys k kk ll T) : Ahead xs ys k (Tr.kr xs kk) (Tr.kr ys ll) T := by
  intro a b a1 a2 b1 b2 hn
  have i1 := Tr.krs_lt hx (Tr.kr_mem hk)
  have j1 := Tr.krs_lt hy (Tr.kr_mem hl)
  obtain ⟨a', c1, c2, c3⟩ := Tr.kr_of hx (p := a) (by omega)
  obtain ⟨b', d1, d2, d3⟩ := Tr.kr_of hy (p := b) (by omega)
  refine h.t a b a' b' (by omega) (by omega) c1 d1 ?_ c2 d2 c3.symm d3.symm
  by_cases e : Tr.la xs a = Tr.la xs (Tr.kr xs kk)
  · have hkk := Tr.kr_same hx c1 hk (c3.trans e)
    have e2 : Tr.la ys b ≠ Tr.la ys (Tr.kr ys ll) := fun e2 => hn ⟨e, e2⟩
    have := Tr.kr_under hy j1 b1 b2 e2 (Tr.krs_lt hy (Tr.kr_mem d1)) d2 d3
    refine .inr ⟨hkk, ?_⟩
    rcases Nat.lt_trichotomy b' ll with g | g | g
    · exact g
    · subst g; omega
    · have := Tr.kr_rise g d1; omega
  · have := Tr.kr_under hx i1 a1 a2 e (Tr.krs_lt hx (Tr.kr_mem c1)) c2 c3
    refine .inl ?_
    rcases Nat.lt_trichotomy a' kk with g | g | g
    · exact g
    · subst g; omega
    · have := Tr.kr_rise g c1; omega
theorem Roots.all (h : Roots xs ys k (Tr.krs xs).length 0 T) {a b : Nat} (ha : a < xs.length) (hb : b < ys.length) : Zs.at T (a * ys.length + b) = TT xs ys k a b := by
  obtain ⟨a', c1, c2, c3⟩ := Tr.kr_of hx ha
  obtain ⟨b', d1, d2, d3⟩ := Tr.kr_of hy hb
  exact h.t a b a' b' ha hb c1 d1 (.inl c1) c2 d2 c3.symm d3.symm
end
section
variable {xs ys : Tr} {k : Co} {kk ll : Nat} {T T' : List Int}
theorem Roots.step (hk : kk < (Tr.krs xs).length) (hl : ll < (Tr.krs ys).length) (h : Roots xs ys k kk ll T) {F : Nat → Nat → Int} {y : Nat}
    (hf : Fill xs ys k (Tr.kr xs kk) (Tr.kr ys ll) (Tr.kr xs kk + 1) y F T T') : Roots xs ys k kk (ll + 1) T' := by
  refine ⟨hf.len, fun a b a' b' ha hb ha' hb' hc a1 b1 la lb => ?_⟩
  by_cases e : a ≤ Tr.kr xs kk ∧ b ≤ Tr.kr ys ll ∧ Tr.la xs a = Tr.la xs (Tr.kr xs kk) ∧ Tr.la ys b = Tr.la ys (Tr.kr ys ll)
  · exact hf.t1 a b e.1 e.2.1 e.2.2.1 e.2.2.2 (.inl (by omega))
  · rw [hf.t2 a b ha hb e]
    refine h.t a b a' b' ha hb ha' hb' ?_ a1 b1 la lb
    rcases hc with c | ⟨c1, c2⟩
    · exact .inl c
    · refine .inr ⟨c1, ?_⟩
      subst c1
      rcases Nat.lt_or_ge b' ll with g | g
      · exact g
      · have : b' = ll := by omega
        subst this
        exact absurd ⟨a1, b1, la, lb⟩ e
theorem Roots.next (h : Roots xs ys k kk (Tr.krs ys).length T) : Roots xs ys k (kk + 1) 0 T :=
  ⟨h.len, fun a b a' b' ha hb ha' hb' hc a1 b1 la lb => h.t a b a' b' ha hb ha' hb' (by omega) a1 b1 la lb⟩
theorem Roots.start (hl : T.length = xs.length * ys.length) : Roots xs ys k 0 0 T := ⟨hl, fun a b a' b' _ _ _ _ hc => by omega⟩
end
/-- all distances of subtrees -/
def Tr.tds (xs ys : Tr) (k : Co) : List Int := (List.range (xs.length * ys.length)).map fun t => TT xs ys k (t / ys.length) (t % ys.length)
def Tr.dists (xs ys : Tr) (k : Co) : List Int := if Tr.ok xs && Tr.ok ys && Co.ok k then Tr.tds xs ys k else []
def Tr.dist (xs ys : Tr) (k : Co) : Int := if Tr.ok xs && Tr.ok ys && Co.ok k then TT xs ys k (xs.length - 1) (ys.length - 1) else -1
def Tr.rootDist (xs ys : Tr) (k : Co) : Int := if Tr.ok xs && Tr.ok ys && Co.ok k then RR xs ys k 0 (xs.length - 1) 0 (ys.length - 1) + Co.rel k (Tr.l xs 0) (Tr.l ys 0) else -1
theorem Roots.tds {xs ys : Tr} {k : Co} {T : List Int} (hx : Tr.ok xs = true) (hy : Tr.ok ys = true) (h : Roots xs ys k (Tr.krs xs).length 0 T) : T = Tr.tds xs ys k := by
  have hm := (Tr.len24 hy).1
  refine Zs.ext (by rw [h.len]; simp [Tr.tds]) fun t ht => ?_
  rw [h.len] at ht
  have h1 : t / ys.length < xs.length := Nat.div_lt_of_lt_mul (by rw [Nat.mul_comm]; exact ht)
  have h2 : t % ys.length < ys.length := Nat.mod_lt _ (by omega)
  have e := Nat.div_add_mod t ys.length
  have := Roots.all hx hy h h1 h2
  rw [Nat.mul_comm, e] at this
  rw [this]
  simp [Zs.at, Tr.tds, List.getD_eq_getElem?_getD, ht]
theorem Tr.tds_length (xs ys : Tr) (k : Co) : (Tr.tds xs ys k).length = xs.length * ys.length := by simp [Tr.tds]
theorem Tr.tds_last {xs ys : Tr} {k : Co} (hx : Tr.ok xs = true) (hy : Tr.ok ys = true) : Zs.at (Tr.tds xs ys k) (xs.length * ys.length - 1) = TT xs ys k (xs.length - 1) (ys.length - 1) := by
  have hn := (Tr.len24 hx).1
  have hm := (Tr.len24 hy).1
  obtain ⟨n, hn'⟩ : ∃ n, xs.length = n + 1 := ⟨xs.length - 1, by omega⟩
  have e : xs.length * ys.length - 1 = (ys.length - 1) + ys.length * n := by
    rw [hn', Nat.add_mul, Nat.mul_comm n]; omega
  have h1 : (xs.length * ys.length - 1) / ys.length = xs.length - 1 := by
    rw [e, Nat.add_mul_div_left _ _ (by omega), Nat.div_eq_of_lt (by omega)]; omega
  have h2 : (xs.length * ys.length - 1) % ys.length = ys.length - 1 := by
    rw [e, Nat.add_mul_mod_self_left, Nat.mod_eq_of_lt (by omega)]
  have hp : 0 < xs.length * ys.length := Nat.mul_pos (by omega) (by omega)
  have hlt : xs.length * ys.length - 1 < xs.length * ys.length := by omega
  have : Zs.at (Tr.tds xs ys k) (xs.length * ys.length - 1) = TT xs ys k ((xs.length * ys.length - 1) / ys.length) ((xs.length * ys.length - 1) % ys.length) := by
    simp [Zs.at, Tr.tds, List.getD_eq_getElem?_getD, hlt]
  rw [this, h1, h2]

end Go.Proofs.Ytajplmopdipbnaa

/- Worlds that grow. -/
namespace Go.Proofs.Ytajplmopdipbnaa
open Go.RowKit
set_option linter.unusedVariables false

theorem Kit.grown_refl (w : World) (r : Option Nat) : w.grownBy w r := ⟨rfl, rfl, rfl, Nat.le_refl _, fun _ _ _ => rfl⟩
theorem Kit.grown_trans {a b c : World} {r : Option Nat} (h : a.grownBy b r) (g : b.grownBy c r) : a.grownBy c r :=
  ⟨g.os.trans h.os, g.tape.trans h.tape, g.output.trans h.output, Nat.le_trans h.size g.size, fun k hk hne => (g.block k (Nat.lt_of_lt_of_le hk h.size) hne).trans (h.block k hk hne)⟩
theorem Kit.grown_none {a b : World} {r : Option Nat} (h : a.grownBy b none) : a.grownBy b r := ⟨h.os, h.tape, h.output, h.size, fun k hk _ => h.block k hk (by simp)⟩
theorem Kit.grown_set (w : World) (B o : Nat) (u : Value) : w.grownBy (w.setCell ⟨B, o, none⟩ u) (some B) :=
  ⟨rfl, rfl, rfl, by simp [World.setCell], fun k hk hne => Below.heap_setCell _ _ _ _ (by intro h; subst h; exact hne rfl)⟩
theorem Kit.grown_drewN (w : World) (n : Nat) (r : Option Nat) : w.grownBy (w.drewN n) r := ⟨rfl, rfl, rfl, Nat.le_refl _, fun _ _ _ => rfl⟩
theorem Kit.grown_then_drewN {w w' : World} {r : Option Nat} (h : w.grownBy w' r) (n : Nat) : w.grownBy (w'.drewN n) r := ⟨h.os, h.tape, h.output, h.size, h.block⟩
theorem Kit.grown_then_set {w w' : World} {B : Nat} (h : w.grownBy w' (some B)) (o : Nat) (u : Value) : w.grownBy (w'.setCell ⟨B, o, none⟩ u) (some B) := Kit.grown_trans h (Kit.grown_set w' B o u)
theorem Kit.below_of_grown {B : Nat} {w w' : World} {r : Option Nat} (h : w.grownBy w' r) (hr : ∀ k, r = some k → B ≤ k) (hB : B ≤ w.heap.size) : Below B w w' :=
  (Below.refl _ w).grown h hB hr

end Go.Proofs.Ytajplmopdipbnaa

/- Contracts (BoxC). -/
namespace Go.Proofs.Ytajplmopdipbnaa
open Go.RowKit
set_option linter.unusedVariables false

/-- a block of three cells -/
def Box3 (w : World) (g : Nat) (v0 v1 v2 : Value) : Prop := w.cell? ⟨g, 0, none⟩ = some v0 ∧ w.cell? ⟨g, 1, none⟩ = some v1 ∧ w.cell? ⟨g, 2, none⟩ = some v2
theorem Box3.drawn {w w' : World} {g : Nat} {v0 v1 v2 : Value} (h : Box3 w g v0 v1 v2) (hd : Drawn w w') : Box3 w' g v0 v1 v2 := ⟨(hd.cell _).trans h.1, (hd.cell _).trans h.2.1, (hd.cell _).trans h.2.2⟩
theorem Box3.below {w w' : World} {g B : Nat} {v0 v1 v2 : Value} (h : Box3 w g v0 v1 v2) (hb : Below B w w') (hg : g < B) : Box3 w' g v0 v1 v2 := ⟨(hb.cell (p := ⟨g, 0, none⟩) hg).trans h.1, (hb.cell (p := ⟨g, 1, none⟩) hg).trans h.2.1, (hb.cell (p := ⟨g, 2, none⟩) hg).trans h.2.2⟩
theorem Box3.made (w : World) (v0 v1 v2 : Value) (e : TypeId) : Box3 (w.alloc (.cells #[v0, v1, v2] e)) w.heap.size v0 v1 v2 := ⟨by simp, by simp, by simp⟩
theorem Box3.free (w : World) (v0 v1 v2 : Value) (e : TypeId) (off : Nat) : (w.alloc (.cells #[v0, v1, v2] e)).frozen? ⟨w.heap.size, off, none⟩ = false := by simp
theorem free_below {w w' : World} {g B : Nat} (hb : Below B w w') (hg : g < B) (h : ∀ off, w.frozen? ⟨g, off, none⟩ = false) (off : Nat) : w'.frozen? ⟨g, off, none⟩ = false := by
  have e := hb.block g hg
  have := h off
  unfold World.frozen? at this ⊢
  simp only [e]
  exact this
theorem Box3.alloc {w : World} {g : Nat} {v0 v1 v2 : Value} (h : Box3 w g v0 v1 v2) (hg : g < w.heap.size) (o : Obj) : Box3 (w.alloc o) g v0 v1 v2 :=
  ⟨(World.cell?_alloc_lt w o ⟨g, 0, none⟩ hg).trans h.1, (World.cell?_alloc_lt w o ⟨g, 1, none⟩ hg).trans h.2.1, (World.cell?_alloc_lt w o ⟨g, 2, none⟩ hg).trans h.2.2⟩

end Go.Proofs.Ytajplmopdipbnaa

/- Contracts (Dtb). -/
namespace Go.Proofs.Ytajplmopdipbnaa
open Go.RowKit
set_option linter.unusedVariables false

/-! The program's table of distances: one block of 635 cells, the trees' row, the rows that it reads. -/
/-- a row of ints that no store of the table reaches -/
structure RowOff (w : World) (g gt : Nat) (ad : Addr) (n : Nat) (zs : List Int) : Prop where
  len : zs.length = n
  lt : ad.block < w.heap.size
  ng : ad.block ≠ g
  nt : ad.block ≠ gt
  at_ : ∀ k, k < n → w.cell? (ad.add k) = some (.int .i64 (Zs.at zs k))
/-- where the table's parts lie -/
structure DtD where
  g : Nat
  gt : Nat
  a0 : Addr
  a1 : Addr
  a2 : Addr
  b0 : Addr
  b1 : Addr
  b2 : Addr
  k0 : Addr
  k1 : Addr
  k2 : Addr
  ca0 : Nat
  ca1 : Nat
  ca2 : Nat
  cb0 : Nat
  cb1 : Nat
  cb2 : Nat
  ck0 : Nat
  ck1 : Nat
  ck2 : Nat
def updF (F : Nat → Nat → Int) (x y : Nat) (v : Int) : Nat → Nat → Int := fun a b => if a = x ∧ b = y then v else F a b
structure DT (B : Nat) (D : DtD) (xs ys : Tr) (k : Co) (F : Nat → Nat → Int) (T : List Int) (w : World) : Prop where
  gB : B ≤ D.g
  gl : D.g < w.heap.size
  gg : D.gt ≠ D.g
  fz : ∀ off, w.frozen? ⟨D.g, off, none⟩ = false
  h0 : w.cell? ⟨D.g, 0, none⟩ = some (.slice (some D.a0) xs.length D.ca0)
  h1 : w.cell? ⟨D.g, 1, none⟩ = some (.slice (some D.a1) xs.length D.ca1)
  h2 : w.cell? ⟨D.g, 2, none⟩ = some (.slice (some D.a2) (Tr.krs xs).length D.ca2)
  h3 : w.cell? ⟨D.g, 3, none⟩ = some (.slice (some D.b0) ys.length D.cb0)
  h4 : w.cell? ⟨D.g, 4, none⟩ = some (.slice (some D.b1) ys.length D.cb1)
  h5 : w.cell? ⟨D.g, 5, none⟩ = some (.slice (some D.b2) (Tr.krs ys).length D.cb2)
  h6 : w.cell? ⟨D.g, 6, none⟩ = some (.slice (some D.k0) 6 D.ck0)
  h7 : w.cell? ⟨D.g, 7, none⟩ = some (.slice (some D.k1) 6 D.ck1)
  h8 : w.cell? ⟨D.g, 8, none⟩ = some (.slice (some D.k2) 36 D.ck2)
  h9 : w.cell? ⟨D.g, 9, none⟩ = some (.slice (some ⟨D.gt, 0, none⟩) (xs.length * ys.length) (xs.length * ys.length))
  fr : ∀ x y, x < 25 → y < 25 → w.cell? ⟨D.g, 10 + x * 25 + y, none⟩ = some (.int .i64 (F x y))
  row : w.ownsRow B 3 1 (.slice (some ⟨D.gt, 0, none⟩) (xs.length * ys.length) (xs.length * ys.length)) (xs.length * ys.length) (ints T)
  ra0 : RowOff w D.g D.gt D.a0 xs.length (Tr.lab xs)
  ra1 : RowOff w D.g D.gt D.a1 xs.length (Zs.up (Tr.lfs xs))
  ra2 : RowOff w D.g D.gt D.a2 (Tr.krs xs).length (Zs.up (Tr.krs xs))
  rb0 : RowOff w D.g D.gt D.b0 ys.length (Tr.lab ys)
  rb1 : RowOff w D.g D.gt D.b1 ys.length (Zs.up (Tr.lfs ys))
  rb2 : RowOff w D.g D.gt D.b2 (Tr.krs ys).length (Zs.up (Tr.krs ys))
  rk0 : RowOff w D.g D.gt D.k0 6 k.d
  rk1 : RowOff w D.g D.gt D.k1 6 k.i
  rk2 : RowOff w D.g D.gt D.k2 36 k.r
theorem RowOff.keep {w w' : World} {g gt n : Nat} {ad : Addr} {zs : List Int} (h : RowOff w g gt ad n zs) (hs : w.heap.size ≤ w'.heap.size) (hk : ∀ p : Addr, p.block < w.heap.size → p.block ≠ g → p.block ≠ gt → w'.cell? p = w.cell? p) : RowOff w' g gt ad n zs :=
  ⟨h.len, Nat.lt_of_lt_of_le h.lt hs, h.ng, h.nt, fun k hk' => by rw [hk _ (by rw [block_of_add]; exact h.lt) (by rw [block_of_add]; exact h.ng) (by rw [block_of_add]; exact h.nt)]; exact h.at_ k hk'⟩
section
variable {B : Nat} {D : DtD} {xs ys : Tr} {k : Co} {F : Nat → Nat → Int} {T : List Int} {w w' : World}
theorem DT.drawn (h : DT B D xs ys k F T w) (hd : Drawn w w') : DT B D xs ys k F T w' := by obtain ⟨m, rfl⟩ := hd; exact ⟨h.gB, h.gl, h.gg, h.fz, h.h0, h.h1, h.h2, h.h3, h.h4, h.h5, h.h6, h.h7, h.h8, h.h9, h.fr, h.row, ⟨h.ra0.1, h.ra0.2, h.ra0.3, h.ra0.4, h.ra0.5⟩, ⟨h.ra1.1, h.ra1.2, h.ra1.3, h.ra1.4, h.ra1.5⟩, ⟨h.ra2.1, h.ra2.2, h.ra2.3, h.ra2.4, h.ra2.5⟩, ⟨h.rb0.1, h.rb0.2, h.rb0.3, h.rb0.4, h.rb0.5⟩, ⟨h.rb1.1, h.rb1.2, h.rb1.3, h.rb1.4, h.rb1.5⟩, ⟨h.rb2.1, h.rb2.2, h.rb2.3, h.rb2.4, h.rb2.5⟩, ⟨h.rk0.1, h.rk0.2, h.rk0.3, h.rk0.4, h.rk0.5⟩, ⟨h.rk1.1, h.rk1.2, h.rk1.3, h.rk1.4, h.rk1.5⟩, ⟨h.rk2.1, h.rk2.2, h.rk2.3, h.rk2.4, h.rk2.5⟩⟩
theorem DT.tlen (h : DT B D xs ys k F T w) : T.length = xs.length * ys.length := by have := h.row.1; rw [ints_length] at this; omega
theorem DT.tB (h : DT B D xs ys k F T w) : B ≤ D.gt ∧ D.gt < w.heap.size := h.row.lt D.gt rfl
theorem DT.setF (h : DT B D xs ys k F T w) {x y : Nat} (hx : x < 25) (hy : y < 25) (v : Int) : DT B D xs ys k (updF F x y v) T (w.setCell ⟨D.g, 10 + x * 25 + y, none⟩ (.int .i64 v)) := by
  have hsz : (w.setCell ⟨D.g, 10 + x * 25 + y, none⟩ (.int .i64 v)).heap.size = w.heap.size := by simp
  have ho : ∀ p : Addr, p.block < w.heap.size → p.block ≠ D.g → p.block ≠ D.gt → (w.setCell ⟨D.g, 10 + x * 25 + y, none⟩ (.int .i64 v)).cell? p = w.cell? p := fun p _ hp _ => World.cell?_setCell_other _ _ _ _ (fun e => hp (by rw [← e]))
  have hl : ∀ o, o < 10 → (w.setCell ⟨D.g, 10 + x * 25 + y, none⟩ (.int .i64 v)).cell? ⟨D.g, o, none⟩ = w.cell? ⟨D.g, o, none⟩ := fun o ho => World.cell?_setCell_other _ _ _ _ (fun e => by injection e with e1 e2; omega)
  have hle : w.heap.size ≤ (w.setCell ⟨D.g, 10 + x * 25 + y, none⟩ (.int .i64 v)).heap.size := by omega
  have r {ad : Addr} {n : Nat} {zs : List Int} (q : RowOff w D.g D.gt ad n zs) := q.keep hle ho
  exact {
    gB := h.gB, gl := by rw [hsz]; exact h.gl, gg := h.gg
    fz := fun off => by rw [World.frozen?_setCell]; exact h.fz off
    h0 := (hl _ (by omega)).trans h.h0, h1 := (hl _ (by omega)).trans h.h1, h2 := (hl _ (by omega)).trans h.h2
    h3 := (hl _ (by omega)).trans h.h3, h4 := (hl _ (by omega)).trans h.h4, h5 := (hl _ (by omega)).trans h.h5
    h6 := (hl _ (by omega)).trans h.h6, h7 := (hl _ (by omega)).trans h.h7, h8 := (hl _ (by omega)).trans h.h8
    h9 := (hl _ (by omega)).trans h.h9
    fr := fun a b ha hb => by
      unfold updF
      by_cases e : a = x ∧ b = y
      · rw [if_pos e, e.1, e.2]
        exact World.cell?_setCell_same' _ _ _ (by rw [h.fr x y hx hy]; rfl)
      · rw [if_neg e, World.cell?_setCell_other _ _ _ _ (fun e' => by injection e' with e1 e2; omega)]
        exact h.fr a b ha hb
    row := h.row.kept (Kit.grown_set w D.g _ _) (.inr fun e => h.gg (by injection e))
    ra0 := r h.ra0, ra1 := r h.ra1, ra2 := r h.ra2, rb0 := r h.rb0, rb1 := r h.rb1, rb2 := r h.rb2, rk0 := r h.rk0, rk1 := r h.rk1, rk2 := r h.rk2 }
theorem DT.setT (h : DT B D xs ys k F T w) (u : Nat) (v : Int) : DT B D xs ys k F (T.set u v) (w.setCell ⟨D.gt, u, none⟩ (.int .i64 v)) := by
  have hsz : (w.setCell ⟨D.gt, u, none⟩ (.int .i64 v)).heap.size = w.heap.size := by simp
  have ho : ∀ p : Addr, p.block < w.heap.size → p.block ≠ D.g → p.block ≠ D.gt → (w.setCell ⟨D.gt, u, none⟩ (.int .i64 v)).cell? p = w.cell? p := fun p _ _ hp => World.cell?_setCell_other _ _ _ _ (fun e => hp (by rw [← e]))
  have hl : ∀ o, (w.setCell ⟨D.gt, u, none⟩ (.int .i64 v)).cell? ⟨D.g, o, none⟩ = w.cell? ⟨D.g, o, none⟩ := fun o => World.cell?_setCell_other _ _ _ _ (fun e => by injection e with e1 e2; exact h.gg e1)
  have hle : w.heap.size ≤ (w.setCell ⟨D.gt, u, none⟩ (.int .i64 v)).heap.size := by omega
  have r {ad : Addr} {n : Nat} {zs : List Int} (q : RowOff w D.g D.gt ad n zs) := q.keep hle ho
  exact {
    gB := h.gB, gl := by rw [hsz]; exact h.gl, gg := h.gg
    fz := fun off => by rw [World.frozen?_setCell]; exact h.fz off
    h0 := (hl _).trans h.h0, h1 := (hl _).trans h.h1, h2 := (hl _).trans h.h2, h3 := (hl _).trans h.h3, h4 := (hl _).trans h.h4, h5 := (hl _).trans h.h5
    h6 := (hl _).trans h.h6, h7 := (hl _).trans h.h7, h8 := (hl _).trans h.h8, h9 := (hl _).trans h.h9
    fr := fun a b ha hb => (hl _).trans (h.fr a b ha hb)
    row := by have := (h.row.stored u (.int .i64 v)).1; rw [ints_set] at this; exact this
    ra0 := r h.ra0, ra1 := r h.ra1, ra2 := r h.ra2, rb0 := r h.rb0, rb1 := r h.rb1, rb2 := r h.rb2, rk0 := r h.rk0, rk1 := r h.rk1, rk2 := r h.rk2 }
end

end Go.Proofs.Ytajplmopdipbnaa

/- Contracts (F8). -/
namespace Go.Proofs.Ytajplmopdipbnaa
open Go.RowKit
set_option linter.unusedVariables false

/-! The model's table of forests: one row from the key roots' first leaves on. -/
def ix (p q W a b : Nat) : Nat := (a - p) * W + (b - q)
theorem ix_inj {p q W a b x y : Nat} (ha : p ≤ a) (hx : p ≤ x) (hb : q ≤ b) (hy : q ≤ y) (hbW : b - q < W) (hyW : y - q < W) (h : ix p q W a b = ix p q W x y) : a = x ∧ b = y := by
  obtain ⟨h1, h2⟩ := idx_inj hbW hyW h
  omega
theorem ix_lt {p q i j a b : Nat} (ha : a ≤ i + 1) (hb : b ≤ j + 1) (hp : p ≤ i) (hq : q ≤ j) : ix p q (j - q + 2) a b < (i - p + 2) * (j - q + 2) := idx_lt (by omega) (by omega)
/-- the row f and the trees, beside what stood ahead of f -/
structure F8 (B gt hf nf nm : Nat) (w0 w1 : World) (f T : List Int) (wr : World) : Prop where
  kb : ∀ p : Addr, p.block < hf → p.block ≠ gt → wr.cell? p = w1.cell? p
  rf : wr.ownsRow hf 3 1 (.slice (some ⟨hf, 0, none⟩) nf nf) nf (ints f)
  rt : wr.ownsRow B 3 1 (.slice (some ⟨gt, 0, none⟩) nm nm) nm (ints T)
  bl : Below B w0 wr
section
variable {B gt hf nf nm : Nat} {w0 w1 wr w' : World} {f T : List Int}
theorem F8.drawn (h : F8 B gt hf nf nm w0 w1 f T wr) (hd : Drawn wr w') : F8 B gt hf nf nm w0 w1 f T w' :=
  ⟨fun p h1 h2 => (hd.cell p).trans (h.kb p h1 h2), own_drawn h.rf hd, own_drawn h.rt hd, Drawn.below h.bl hd⟩
theorem F8.flen (h : F8 B gt hf nf nm w0 w1 f T wr) : f.length = nf := by have := h.rf.1; rw [ints_length] at this; omega
theorem F8.tlen (h : F8 B gt hf nf nm w0 w1 f T wr) : T.length = nm := by have := h.rt.1; rw [ints_length] at this; omega
theorem F8.setf (h : F8 B gt hf nf nm w0 w1 f T wr) (hg : gt < hf) (hB : B ≤ hf) (u : Nat) (v : Int) : F8 B gt hf nf nm w0 w1 (f.set u v) T (wr.setCell ⟨hf, u, none⟩ (.int .i64 v)) := by
  refine ⟨fun p h1 h2 => ?_, ?_, h.rt.kept (Kit.grown_set wr hf _ _) (.inr fun e => ?_), h.bl.setCell hB _⟩
  · rw [World.cell?_setCell_other _ _ _ _ (fun e => by rw [← e] at h1; exact absurd h1 (Nat.lt_irrefl _))]
    exact h.kb p h1 h2
  · have := (h.rf.stored u (.int .i64 v)).1
    rw [ints_set] at this
    exact this
  · have e' : gt = hf := by injection e
    omega
theorem F8.sett (h : F8 B gt hf nf nm w0 w1 f T wr) (hg : gt < hf) (hB : B ≤ gt) (u : Nat) (v : Int) : F8 B gt hf nf nm w0 w1 f (T.set u v) (wr.setCell ⟨gt, u, none⟩ (.int .i64 v)) := by
  refine ⟨fun p h1 h2 => ?_, h.rf.kept (Kit.grown_set wr gt _ _) (.inr fun e => ?_), ?_, h.bl.setCell hB _⟩
  · rw [World.cell?_setCell_other _ _ _ _ (fun e => by rw [← e] at h2; exact h2 rfl)]
    exact h.kb p h1 h2
  · have e' : hf = gt := by injection e
    omega
  · have := (h.rt.stored u (.int .i64 v)).1
    rw [ints_set] at this
    exact this
theorem F8.row {ad : Addr} {n : Nat} {zs : List Int} (h : F8 B gt hf nf nm w0 w1 f T wr) (hr : RowOff w1 gt gt ad n zs) (hl : ad.block < hf) {k : Nat} (hk : k < n) : wr.cell? (ad.add k) = some (.int .i64 (Zs.at zs k)) := by
  rw [h.kb _ (by rw [block_of_add]; exact hl) (by rw [block_of_add]; exact hr.ng)]
  exact hr.at_ k hk
end

end Go.Proofs.Ytajplmopdipbnaa

/- The facts of one cell of the model's table of forests. -/
namespace Go.Proofs.Ytajplmopdipbnaa
open Go.RowKit
set_option linter.unusedVariables false

theorem RowOff.made {w : World} {gt n : Nat} {ad : Addr} {zs : List Int} {o : Obj} (h : RowOff w gt gt ad n zs) : RowOff (w.alloc o) gt gt ad n zs :=
  ⟨h.len, by have := h.lt; simp; omega, h.ng, h.nt, fun k hk => by rw [World.cell?_alloc_lt w o _ (by rw [block_of_add]; exact h.lt)]; exact h.at_ k hk⟩
theorem ix_set {p q W i j x y nf : Nat} {f : List Int} {v : Int} (hlt : ix p q W (x + 1) (y + 1) < f.length) (px : p ≤ x) (qy : q ≤ y) (yj : y ≤ j) (hW : j - q + 2 ≤ W) (hqj : q ≤ j) :
    ∀ a b, p ≤ a → a ≤ i + 1 → q ≤ b → b ≤ j + 1 → (fun a b => Zs.at (f.set (ix p q W (x + 1) (y + 1)) v) (ix p q W a b)) a b = if a = x + 1 ∧ b = y + 1 then v else (fun a b => Zs.at f (ix p q W a b)) a b := by
  intro a b a1 a2 b1 b2
  show Zs.at (f.set (ix p q W (x + 1) (y + 1)) v) (ix p q W a b) = _
  rw [Zs.at_set hlt]
  by_cases e : a = x + 1 ∧ b = y + 1
  · rw [if_pos e, if_pos (by rw [e.1, e.2])]
  · rw [if_neg e, if_neg (fun c => e (ix_inj a1 (by omega) b1 (by omega) (by omega) (by omega) c))]
theorem l8_nums {p q W V i j x y n m nf nm : Nat} (hpi : p ≤ i) (hqj : q ≤ j) (hpx : p ≤ x) (hxi : x ≤ i) (hqy : q ≤ y) (hyj : y ≤ j) (hi : i < n) (hj : j < m) (hn : n ≤ 24) (hm : m ≤ 24) (hW : W = j - q + 2) (hV : V = i - p + 2) (hnf : nf = V * W) (hnm : nm = n * m) :
    ∃ r1 r s u1 u2 v1 v2 v3 v4 z0 z1 : Nat, (ix p q W x (y + 1) = v1 ∧ ix p q W (x + 1) (y + 1) = v2 ∧ ix p q W (x + 1) y = v3 ∧ ix p q W x y = v4 ∧ z1 = x * m + y) ∧ (v1 < nf ∧ v2 < nf ∧ v3 < nf ∧ v4 < nf ∧ z1 < nm) ∧
      (IntKind.i64.wrap ((x : Int) * (m : Int)) = (z0 : Int) ∧ (z0 : Int) + (y : Int) = (z1 : Int) ∧ IntKind.i64.wrap (z1 : Int) = (z1 : Int) ∧ IntKind.i64.wrap ((r1 : Int) * (W : Int)) = (u1 : Int) ∧ IntKind.i64.wrap ((r : Int) * (W : Int)) = (u2 : Int)) ∧
      ((r : Int) - 1 = (r1 : Int) ∧ (u1 : Int) + (s : Int) = (v1 : Int) ∧ (u2 : Int) + (s : Int) = (v2 : Int) ∧ (v2 : Int) - 1 = (v3 : Int) ∧ (v1 : Int) - 1 = (v4 : Int)) ∧
      (IntKind.i64.wrap (r1 : Int) = (r1 : Int) ∧ IntKind.i64.wrap (v1 : Int) = (v1 : Int) ∧ IntKind.i64.wrap (v2 : Int) = (v2 : Int) ∧ IntKind.i64.wrap (v3 : Int) = (v3 : Int) ∧ IntKind.i64.wrap (v4 : Int) = (v4 : Int)) ∧ ((x : Int) - (p : Int) + 1 = (r : Int) ∧ (y : Int) - (q : Int) + 1 = (s : Int)) ∧
      ((0 : Int) ≤ (x : Int) ∧ (x : Int) < (n : Int) ∧ (0 : Int) ≤ (y : Int) ∧ (y : Int) < (m : Int)) ∧ ((0 : Int) ≤ (v1 : Int) ∧ (v1 : Int) < (nf : Int) ∧ (0 : Int) ≤ (v2 : Int) ∧ (v2 : Int) < (nf : Int) ∧ (0 : Int) ≤ (v3 : Int) ∧ (v3 : Int) < (nf : Int) ∧ (0 : Int) ≤ (v4 : Int) ∧ (v4 : Int) < (nf : Int) ∧ (0 : Int) ≤ (z1 : Int) ∧ (z1 : Int) < (nm : Int)) := by
  have k1 : (x - p) * W ≤ 24 * 26 := Nat.mul_le_mul (by omega) (by omega)
  have k2 : (x - p + 1) * W ≤ 25 * 26 := Nat.mul_le_mul (by omega) (by omega)
  have k3 : x * m ≤ 24 * 24 := Nat.mul_le_mul (by omega) (by omega)
  have j1 : ix p q W x (y + 1) = (x - p) * W + (y - q + 1) := by unfold ix; rw [show y + 1 - q = y - q + 1 by omega]
  have j2 : ix p q W (x + 1) (y + 1) = (x - p + 1) * W + (y - q + 1) := by unfold ix; rw [show y + 1 - q = y - q + 1 by omega, show x + 1 - p = x - p + 1 by omega]
  have j3 : ix p q W (x + 1) y = (x - p + 1) * W + (y - q) := by unfold ix; rw [show x + 1 - p = x - p + 1 by omega]
  have j4 : ix p q W x y = (x - p) * W + (y - q) := rfl
  have l1 : ix p q W x (y + 1) < nf := by rw [hnf, hV, hW]; exact ix_lt (by omega) (by omega) hpi hqj
  have l2 : ix p q W (x + 1) (y + 1) < nf := by rw [hnf, hV, hW]; exact ix_lt (by omega) (by omega) hpi hqj
  have l3 : ix p q W (x + 1) y < nf := by rw [hnf, hV, hW]; exact ix_lt (by omega) (by omega) hpi hqj
  have l4 : ix p q W x y < nf := by rw [hnf, hV, hW]; exact ix_lt (by omega) (by omega) hpi hqj
  have lz : x * m + y < nm := by rw [hnm]; exact idx_lt (by omega) (by omega)
  have m1 : ((x - p : Nat) : Int) * (W : Int) = (((x - p) * W : Nat) : Int) := (Int.natCast_mul _ _).symm
  have m2 : ((x - p + 1 : Nat) : Int) * (W : Int) = (((x - p + 1) * W : Nat) : Int) := (Int.natCast_mul _ _).symm
  have m3 : (x : Int) * (m : Int) = ((x * m : Nat) : Int) := (Int.natCast_mul _ _).symm
  rw [j1] at l1
  rw [j2] at l2
  rw [j3] at l3
  rw [j4] at l4
  obtain ⟨a, ha⟩ : ∃ a, a = (x - p) * W := ⟨_, rfl⟩
  obtain ⟨b, hb⟩ : ∃ b, b = (x - p + 1) * W := ⟨_, rfl⟩
  obtain ⟨c, hc⟩ : ∃ c, c = x * m := ⟨_, rfl⟩
  rw [← ha] at k1 j1 j4 l1 l4 m1
  rw [← hb] at k2 j2 j3 l2 l3 m2
  rw [← hc] at k3 lz m3
  refine ⟨x - p, x - p + 1, y - q + 1, a, b, a + (y - q + 1), b + (y - q + 1), b + (y - q), a + (y - q), c, c + y, ⟨j1, j2, j3, j4, by rw [hc]⟩, ⟨l1, l2, l3, l4, lz⟩, ⟨?_, ?_, ?_, ?_, ?_⟩, ⟨?_, ?_, ?_, ?_, ?_⟩, ⟨?_, ?_, ?_, ?_, ?_⟩, ⟨?_, ?_⟩, ⟨?_, ?_, ?_, ?_⟩, ⟨?_, ?_, ?_, ?_, ?_, ?_, ?_, ?_, ?_, ?_⟩⟩
  · rw [m3]; exact Kit.w64 (by omega) (by omega)
  · omega
  · exact Kit.w64 (by omega) (by omega)
  · rw [m1]; exact Kit.w64 (by omega) (by omega)
  · rw [m2]; exact Kit.w64 (by omega) (by omega)
  all_goals first | omega | exact Kit.w64 (by omega) (by omega)
theorem l8_nums2 {p q W V i j lx ly n m nf : Nat} (hpi : p ≤ i) (hqj : q ≤ j) (hpx : p ≤ lx) (hxi : lx ≤ i) (hqy : q ≤ ly) (hyj : ly ≤ j) (hi : i < n) (hj : j < m) (hn : n ≤ 24) (hm : m ≤ 24) (hW : W = j - q + 2) (hV : V = i - p + 2) (hnf : nf = V * W) :
    ∃ h1 h2 h3 h4 : Nat, ix p q W lx ly = h4 ∧ h4 < nf ∧ (lx : Int) - (p : Int) = (h1 : Int) ∧ IntKind.i64.wrap (h1 : Int) = (h1 : Int) ∧ IntKind.i64.wrap ((h1 : Int) * (W : Int)) = (h2 : Int) ∧ (h2 : Int) + (ly : Int) = (h3 : Int) ∧ IntKind.i64.wrap (h3 : Int) = (h3 : Int) ∧ (h3 : Int) - (q : Int) = (h4 : Int) ∧ IntKind.i64.wrap (h4 : Int) = (h4 : Int) ∧ (0 : Int) ≤ (h4 : Int) ∧ (h4 : Int) < (nf : Int) ∧ (0 : Int) ≤ (ly : Int) ∧ (ly : Int) ≤ 24 := by
  have k1 : (lx - p) * W ≤ 24 * 26 := Nat.mul_le_mul (by omega) (by omega)
  have j1 : ix p q W lx ly = (lx - p) * W + (ly - q) := rfl
  have l1 : ix p q W lx ly < nf := by rw [hnf, hV, hW]; exact ix_lt (by omega) (by omega) hpi hqj
  have m1 : ((lx - p : Nat) : Int) * (W : Int) = (((lx - p) * W : Nat) : Int) := (Int.natCast_mul _ _).symm
  rw [j1] at l1
  obtain ⟨a, ha⟩ : ∃ a, a = (lx - p) * W := ⟨_, rfl⟩
  rw [← ha] at k1 j1 l1 m1
  refine ⟨lx - p, a, a + ly, a + (ly - q), j1, l1, ?_, ?_, ?_, ?_, ?_, ?_, ?_, ?_, ?_, ?_, ?_⟩
  · omega
  · exact Kit.w64 (by omega) (by omega)
  · rw [m1]; exact Kit.w64 (by omega) (by omega)
  all_goals first | omega | exact Kit.w64 (by omega) (by omega)
/-- what stands ahead of the loops -/
structure L8 (B gt hf nf nm : Nat) (ax ay ala alb k0 k1 k2 : Addr) (cx cy e0 e1 e2 : Nat) (xs ys : Tr) (k : Co) (i j p q W V : Nat) (T : List Int) (w wb : World) : Prop where
  hx : Tr.ok xs = true
  hy : Tr.ok ys = true
  hk : Co.ok k = true
  hi : i < xs.length
  hj : j < ys.length
  hA : Ahead xs ys k i j T
  hp : p = Tr.la xs i
  hq : q = Tr.la ys j
  hW : W = j - q + 2
  hV : V = i - p + 2
  hnf : nf = V * W
  hnm : nm = xs.length * ys.length
  lx : xs.length ≤ 24
  ly : ys.length ≤ 24
  hpi : p ≤ i
  hqj : q ≤ j
  hfl : w.heap.size < hf
  hgw : gt < w.heap.size
  hBg : B ≤ gt
  hZ : wb.heap.size ≤ hf
  rX : RowOff wb gt gt ax xs.length (Tr.lab xs)
  rY : RowOff wb gt gt ay ys.length (Tr.lab ys)
  rA : RowOff wb gt gt ala xs.length (Zs.up (Tr.lfs xs))
  rB : RowOff wb gt gt alb ys.length (Zs.up (Tr.lfs ys))
  r0 : RowOff wb gt gt k0 6 k.d
  r1 : RowOff wb gt gt k1 6 k.i
  r2 : RowOff wb gt gt k2 36 k.r
  c0 : wb.cell? ⟨w.heap.size, 0, none⟩ = some (.slice (some ax) xs.length cx)
  c1 : wb.cell? ⟨w.heap.size, 1, none⟩ = some (.slice (some ay) ys.length cy)
  c4 : wb.cell? ⟨w.heap.size, 4, none⟩ = some (.slice (some k0) 6 e0)
  c5 : wb.cell? ⟨w.heap.size, 5, none⟩ = some (.slice (some k1) 6 e1)
  c6 : wb.cell? ⟨w.heap.size, 6, none⟩ = some (.slice (some k2) 36 e2)
section
variable {B gt hf nf nm : Nat} {ax ay ala alb k0 k1 k2 : Addr} {cx cy e0 e1 e2 : Nat} {xs ys : Tr} {k : Co} {T T1 f : List Int} {i j x y p q W V : Nat} {w wb wr : World}
set_option maxHeartbeats 1600000 in
set_option maxRecDepth 100000 in
theorem l8_cellA (FR : L8 B gt hf nf nm ax ay ala alb k0 k1 k2 cx cy e0 e1 e2 xs ys k i j p q W V T w wb) (HF : F8 B gt hf nf nm w wb f T1 wr) (HS : Fill xs ys k i j x y (fun a b => Zs.at f (ix p q W a b)) T T1) (hpx : p ≤ x) (hlt : x ≤ i) (hqy : q ≤ y) (hlt2 : y ≤ j) (ef : Tr.la xs x = Tr.la xs i ∧ Tr.la ys y = Tr.la ys j) :
    ∃ (ua ub r1 r s u1 u2 v1 v2 v3 v4 z0 z1 a6 t6 : Nat) (dv iv A1 A2 A3 A5 rv m0 v : Int), RowKit.Hid (((x : Int) - (p : Int) + 1 = (r : Int)) ∧ ((y : Int) - (q : Int) + 1 = (s : Int))) ∧
    RowKit.Hid ((wr.cell? (ala.add i) = some (.int .i64 (p : Int))) ∧ (wr.cell? (alb.add j) = some (.int .i64 (q : Int))) ∧ (wr.cell? ⟨w.heap.size, 0, none⟩ = some (.slice (some ax) xs.length cx)) ∧ (wr.cell? ⟨w.heap.size, 1, none⟩ = some (.slice (some ay) ys.length cy)) ∧ (wr.cell? ⟨w.heap.size, 4, none⟩ = some (.slice (some k0) 6 e0)) ∧ (wr.cell? ⟨w.heap.size, 5, none⟩ = some (.slice (some k1) 6 e1)) ∧ (wr.cell? (ax.add x) = some (.int .i64 (ua : Int))) ∧ (wr.cell? (ay.add y) = some (.int .i64 (ub : Int))) ∧ (wr.cell? (k0.add ua) = some (.int .i64 dv)) ∧ (wr.cell? (k1.add ub) = some (.int .i64 iv)) ∧ (wr.cell? ⟨hf, v1, none⟩ = some (.int .i64 A1)) ∧ (wr.cell? ⟨hf, v3, none⟩ = some (.int .i64 A2)) ∧ ((r : Int) - 1 = (r1 : Int)) ∧ ((u1 : Int) + (s : Int) = (v1 : Int)) ∧ ((u2 : Int) + (s : Int) = (v2 : Int)) ∧ ((v2 : Int) - 1 = (v3 : Int)) ∧ (IntKind.i64.wrap ((r1 : Int)) = (r1 : Int)) ∧ (IntKind.i64.wrap ((v1 : Int)) = (v1 : Int)) ∧ (IntKind.i64.wrap ((v2 : Int)) = (v2 : Int)) ∧ (IntKind.i64.wrap ((v3 : Int)) = (v3 : Int)) ∧ (IntKind.i64.wrap (A1 + dv) = A1 + dv) ∧ (IntKind.i64.wrap (A2 + iv) = A2 + iv) ∧ (IntKind.i64.wrap ((r1 : Int) * (W : Int)) = (u1 : Int)) ∧ (IntKind.i64.wrap ((r : Int) * (W : Int)) = (u2 : Int)) ∧ ((0 : Int) ≤ (x : Int)) ∧ ((x : Int) < (xs.length : Int)) ∧ ((0 : Int) ≤ (y : Int)) ∧ ((y : Int) < (ys.length : Int)) ∧ ((0 : Int) ≤ (ua : Int)) ∧ ((ua : Int) < 6) ∧ ((0 : Int) ≤ (ub : Int)) ∧ ((ub : Int) < 6) ∧ ((0 : Int) ≤ (v1 : Int)) ∧ ((v1 : Int) < (nf : Int)) ∧ ((0 : Int) ≤ (v3 : Int)) ∧ ((v3 : Int) < (nf : Int))) ∧
    RowKit.Hid ((m0 = min (A1 + dv) (A2 + iv))) ∧
    RowKit.Hid ((wr.cell? (ala.add i) = some (.int .i64 (p : Int))) ∧ (wr.cell? (alb.add j) = some (.int .i64 (q : Int))) ∧ (wr.cell? (ala.add x) = some (.int .i64 (p : Int))) ∧ (wr.cell? (alb.add y) = some (.int .i64 (q : Int))) ∧ (((p : Int) == (p : Int)) = true) ∧ (((q : Int) == (q : Int)) = true) ∧ ((0 : Int) ≤ (x : Int)) ∧ ((x : Int) < (xs.length : Int)) ∧ ((0 : Int) ≤ (y : Int)) ∧ ((y : Int) < (ys.length : Int)) ∧ ((0 : Int) ≤ (i : Int)) ∧ ((i : Int) < (xs.length : Int)) ∧ ((0 : Int) ≤ (j : Int)) ∧ ((j : Int) < (ys.length : Int))) ∧
    RowKit.Hid ((wr.cell? ⟨w.heap.size, 0, none⟩ = some (.slice (some ax) xs.length cx)) ∧ (wr.cell? ⟨w.heap.size, 1, none⟩ = some (.slice (some ay) ys.length cy)) ∧ (wr.cell? ⟨w.heap.size, 6, none⟩ = some (.slice (some k2) 36 e2)) ∧ (wr.cell? (ax.add x) = some (.int .i64 (ua : Int))) ∧ (wr.cell? (ay.add y) = some (.int .i64 (ub : Int))) ∧ (wr.cell? (k2.add t6) = some (.int .i64 rv)) ∧ (wr.cell? ⟨hf, v4, none⟩ = some (.int .i64 A3)) ∧ ((ua : Int) * 6 = (a6 : Int)) ∧ ((a6 : Int) + (ub : Int) = (t6 : Int)) ∧ (IntKind.i64.wrap ((a6 : Int)) = (a6 : Int)) ∧ (IntKind.i64.wrap ((t6 : Int)) = (t6 : Int)) ∧ (IntKind.i64.wrap (A3 + rv) = A3 + rv) ∧ ((r : Int) - 1 = (r1 : Int)) ∧ ((u1 : Int) + (s : Int) = (v1 : Int)) ∧ ((v1 : Int) - 1 = (v4 : Int)) ∧ (IntKind.i64.wrap ((r1 : Int)) = (r1 : Int)) ∧ (IntKind.i64.wrap ((v1 : Int)) = (v1 : Int)) ∧ (IntKind.i64.wrap ((v4 : Int)) = (v4 : Int)) ∧ (IntKind.i64.wrap ((r1 : Int) * (W : Int)) = (u1 : Int)) ∧ ((0 : Int) ≤ (t6 : Int)) ∧ ((t6 : Int) < 36) ∧ ((0 : Int) ≤ (v4 : Int)) ∧ ((v4 : Int) < (nf : Int)) ∧ ((0 : Int) ≤ (x : Int)) ∧ ((x : Int) < (xs.length : Int)) ∧ ((0 : Int) ≤ (y : Int)) ∧ ((y : Int) < (ys.length : Int)) ∧ ((0 : Int) ≤ (ua : Int)) ∧ ((ua : Int) < 6) ∧ ((0 : Int) ≤ (ub : Int)) ∧ ((ub : Int) < 6)) ∧
    RowKit.Hid ((v = min m0 (A3 + rv))) ∧
    RowKit.Hid ((IntKind.i64.wrap ((x : Int) * (ys.length : Int)) = (z0 : Int)) ∧ ((z0 : Int) + (y : Int) = (z1 : Int)) ∧ (IntKind.i64.wrap ((z1 : Int)) = (z1 : Int)) ∧ (wr.cell? ⟨gt, z1, none⟩ = some (.int .i64 A5)) ∧ (wr.frozen? ⟨gt, z1, none⟩ = false) ∧ ((0 : Int) ≤ (x : Int)) ∧ ((x : Int) < (xs.length : Int)) ∧ ((0 : Int) ≤ (y : Int)) ∧ ((y : Int) < (ys.length : Int)) ∧ ((0 : Int) ≤ (z1 : Int)) ∧ ((z1 : Int) < (nm : Int)) ∧ ((u2 : Int) + (s : Int) = (v2 : Int)) ∧ (IntKind.i64.wrap ((v2 : Int)) = (v2 : Int)) ∧ (IntKind.i64.wrap ((r : Int) * (W : Int)) = (u2 : Int)) ∧ (wr.cell? ⟨hf, v2, none⟩ = some (.int .i64 (Zs.at f v2))) ∧ (wr.frozen? ⟨hf, v2, none⟩ = false) ∧ (gt ≠ hf) ∧ (hf ≠ gt) ∧ ((0 : Int) ≤ (v2 : Int)) ∧ ((v2 : Int) < (nf : Int))) ∧
    RowKit.Hid ((Fill xs ys k i j x (y + 1) (fun a b => Zs.at (f.set v2 v) (ix p q W a b)) T (T1.set z1 v))) := by
  obtain ⟨hx, hy, hk, hi, hj, hA, hp, hq, hW, hV, hnf, hnm, lx', ly', hpi, hqj, hfl, hgw, hBg, hZ, rX, rY, rA, rB, r0, r1', r2, c0, c1, c4, c5, c6⟩ := FR
  have hWa : j - q + 2 ≤ W := by omega
  obtain ⟨ua, hua, eua⟩ := Tr.xa_lab hx (p := x) (by omega)
  obtain ⟨ub, hub, eub⟩ := Tr.xa_lab hy (p := y) (by omega)
  have kb0 := fun o => HF.kb ⟨w.heap.size, o, none⟩ (by show w.heap.size < hf; omega) (by show w.heap.size ≠ gt; omega)
  have gx := (kb0 0).trans c0
  have gy := (kb0 1).trans c1
  have gd := (kb0 4).trans c4
  have gi := (kb0 5).trans c5
  have gr := (kb0 6).trans c6
  have pa : wr.cell? (ala.add i) = some (.int .i64 (p : Int)) := by rw [HF.row rA (Nat.lt_of_lt_of_le rA.lt hZ) (k := i) hi, Tr.la_up hx hi, ← hp]
  have pb : wr.cell? (alb.add j) = some (.int .i64 (q : Int)) := by rw [HF.row rB (Nat.lt_of_lt_of_le rB.lt hZ) (k := j) hj, Tr.la_up hy hj, ← hq]
  have xl : wr.cell? (ax.add x) = some (.int .i64 (ua : Int)) := by rw [HF.row rX (Nat.lt_of_lt_of_le rX.lt hZ) (k := x) (by omega), ← eua]; rfl
  have yl : wr.cell? (ay.add y) = some (.int .i64 (ub : Int)) := by rw [HF.row rY (Nat.lt_of_lt_of_le rY.lt hZ) (k := y) (by omega), ← eub]; rfl
  obtain ⟨dv, hdv⟩ : ∃ z, z = Zs.at k.d ua := ⟨_, rfl⟩
  obtain ⟨iv, hiv⟩ : ∃ z, z = Zs.at k.i ub := ⟨_, rfl⟩
  have cd : wr.cell? (k0.add ua) = some (.int .i64 (Zs.at k.d ua)) := HF.row r0 (Nat.lt_of_lt_of_le r0.lt hZ) (k := ua) hua
  have ci : wr.cell? (k1.add ub) = some (.int .i64 (Zs.at k.i ub)) := HF.row r1' (Nat.lt_of_lt_of_le r1'.lt hZ) (k := ub) hub
  rw [← hdv] at cd
  rw [← hiv] at ci
  have Edv : Co.del k (Tr.xa xs x) = dv := by rw [eua, Co.del_at hk hua, hdv]
  have Eiv : Co.ins k (Tr.xa ys y) = iv := by rw [eub, Co.ins_at hk hub, hiv]
  have n1 := (Co.nonneg' k).1 (Tr.xa xs x)
  have n2 := (Co.nonneg' k).2.1 (Tr.xa ys y)
  rw [Edv] at n1
  rw [Eiv] at n2
  obtain ⟨lxx, hlxx⟩ : ∃ l, l = Tr.la xs x := ⟨_, rfl⟩
  obtain ⟨lyy, hlyy⟩ : ∃ l, l = Tr.la ys y := ⟨_, rfl⟩
  have geo := Fill.geo hx hy hi hj (by rw [← hp]; exact hpx) hlt (by rw [← hq]; exact hqy) hlt2
  rw [← hp, ← hq, ← hlxx, ← hlyy] at geo
  obtain ⟨g1, g2, g3, g4⟩ := geo
  have pl : wr.cell? (ala.add x) = some (.int .i64 (lxx : Int)) := by rw [HF.row rA (Nat.lt_of_lt_of_le rA.lt hZ) (k := x) (by omega), Tr.la_up hx (by omega), ← hlxx]
  have ql : wr.cell? (alb.add y) = some (.int .i64 (lyy : Int)) := by rw [HF.row rB (Nat.lt_of_lt_of_le rB.lt hZ) (k := y) (by omega), Tr.la_up hy (by omega), ← hlyy]
  obtain ⟨r1, r, s, u1, u2, v1, v2, v3, v4, z0, z1, ⟨j1, j2, j3, j4, j5⟩, ⟨lt1, lt2, lt3, lt4, ltz⟩, ⟨wz, dz, wz1, wu1, wu2⟩, ⟨d1, d2, d3, d4, d5⟩, ⟨x1, x2, x3, x4, x7⟩, ⟨er, es⟩, ⟨bx0, bx1, by0, by1⟩, ⟨bv10, bv11, bv20, bv21, bv30, bv31, bv40, bv41, bz10, bz11⟩⟩ := l8_nums (nm := nm) hpi hqj hpx hlt hqy hlt2 hi hj lx' ly' hW hV hnf hnm
  have rd := Fill.reads hx hy hi hj HS (by rw [← hp]; exact hpx) hlt (by rw [← hq]; exact hqy) hlt2
  rw [← hp, ← hq, ← hlxx, ← hlyy] at rd
  obtain ⟨q1, q2, q3, q4⟩ := rd
  obtain ⟨A1, hA1⟩ : ∃ A, A = Zs.at f v1 := ⟨_, rfl⟩
  obtain ⟨A2, hA2⟩ : ∃ A, A = Zs.at f v3 := ⟨_, rfl⟩
  obtain ⟨A3, hA3⟩ : ∃ A, A = Zs.at f v4 := ⟨_, rfl⟩
  obtain ⟨A5, hA5⟩ : ∃ A, A = Zs.at T1 z1 := ⟨_, rfl⟩
  rw [j1] at q1
  rw [j3] at q2
  rw [j4] at q3
  have ba := RR_bound (k := k) hx hy (p := p) (a := x) (q := q) (b := y) (by omega) (by omega) (by omega) (by omega)
  have bb := RR_bound (k := k) hx hy (p := p) (a := x) (q := q) (b := y + 1) (by omega) (by omega) (by omega) (by omega)
  have bc := RR_bound (k := k) hx hy (p := p) (a := x + 1) (q := q) (b := y) (by omega) (by omega) (by omega) (by omega)
  rw [← q3, ← hA3] at ba
  rw [← q1, ← hA1] at bb
  rw [← q2, ← hA2] at bc
  have gf1 := own_int HF.rf (k := v1) (by rw [HF.flen]; exact lt1)
  have gf2 := own_int HF.rf (k := v2) (by rw [HF.flen]; exact lt2)
  have gf3 := own_int HF.rf (k := v3) (by rw [HF.flen]; exact lt3)
  have gf4 := own_int HF.rf (k := v4) (by rw [HF.flen]; exact lt4)
  have gz := own_int HF.rt (k := z1) (by rw [HF.tlen]; exact ltz)
  have ff2 := HF.rf.frozenAt v2
  have fz := HF.rt.frozenAt z1
  rw [← hA1] at gf1
  rw [← hA2] at gf3
  rw [← hA3] at gf4
  rw [← hA5] at gz
  have x5 : IntKind.i64.wrap (A1 + dv) = A1 + dv := Kit.w64 (by omega) (by omega)
  have x6 : IntKind.i64.wrap (A2 + iv) = A2 + iv := Kit.w64 (by omega) (by omega)
  have bua0 : (0 : Int) ≤ (ua : Int) := by omega
  have bua1 : (ua : Int) < 6 := by omega
  have bub0 : (0 : Int) ≤ (ub : Int) := by omega
  have bub1 : (ub : Int) < 6 := by omega
  have bi0 : (0 : Int) ≤ (i : Int) := by omega
  have bi1 : (i : Int) < (xs.length : Int) := by omega
  have bj0 : (0 : Int) ≤ (j : Int) := by omega
  have bj1 : (j : Int) < (ys.length : Int) := by omega
  have ne1 : gt ≠ hf := by omega
  have ne2 : hf ≠ gt := by omega
  obtain ⟨m0, hm⟩ : ∃ m, m = min (A1 + dv) (A2 + iv) := ⟨_, rfl⟩
  have QA1 : A1 = Zs.at f (ix p q W x (y + 1)) := by rw [hA1, j1]
  have QA2 : A2 = Zs.at f (ix p q W (x + 1) y) := by rw [hA2, j3]
  have QA3 : A3 = Zs.at f (ix p q W x y) := by rw [hA3, j4]
  have fs : ∀ v, ∀ a b, Tr.la xs i ≤ a → a ≤ i + 1 → Tr.la ys j ≤ b → b ≤ j + 1 → (fun a b => Zs.at (f.set (ix p q W (x + 1) (y + 1)) v) (ix p q W a b)) a b = if a = x + 1 ∧ b = y + 1 then v else (fun a b => Zs.at f (ix p q W a b)) a b := by
    intro v
    rw [← hp, ← hq]
    exact ix_set (nf := nf) (by rw [j2, HF.flen]; exact lt2) hpx hqy hlt2 hWa hqj
  have e3 : lxx = p := by rw [hlxx, ef.1, ← hp]
  have e4 : lyy = q := by rw [hlyy, ef.2, ← hq]
  rw [e3] at pl
  rw [e4] at ql
  obtain ⟨a6, ha6⟩ : ∃ a, a = ua * 6 := ⟨_, rfl⟩
  obtain ⟨t6, ht6⟩ : ∃ a, a = a6 + ub := ⟨_, rfl⟩
  obtain ⟨rv, hrv⟩ : ∃ z, z = Zs.at k.r t6 := ⟨_, rfl⟩
  have ht36 : t6 < 36 := by omega
  have cr : wr.cell? (k2.add t6) = some (.int .i64 (Zs.at k.r t6)) := HF.row r2 (Nat.lt_of_lt_of_le r2.lt hZ) (k := t6) ht36
  rw [← hrv] at cr
  have Erv : Co.rel k (Tr.xa xs x) (Tr.xa ys y) = rv := by rw [eua, eub, Co.rel_at hk hua hub, ← ha6, ← ht6, hrv]
  have n3 := (Co.nonneg' k).2.2 (Tr.xa xs x) (Tr.xa ys y)
  rw [Erv] at n3
  have y1 : (ua : Int) * 6 = (a6 : Int) := by omega
  have y2 : (a6 : Int) + (ub : Int) = (t6 : Int) := by omega
  have y3 : IntKind.i64.wrap (a6 : Int) = (a6 : Int) := Kit.w64 (by omega) (by omega)
  have y4 : IntKind.i64.wrap (t6 : Int) = (t6 : Int) := Kit.w64 (by omega) (by omega)
  have y5 : IntKind.i64.wrap (A3 + rv) = A3 + rv := Kit.w64 (by omega) (by omega)
  have bt60 : (0 : Int) ≤ (t6 : Int) := by omega
  have bt61 : (t6 : Int) < 36 := by omega
  have e1 : ((p : Int) == (p : Int)) = true := by simp
  have e2 : ((q : Int) == (q : Int)) = true := by simp
  obtain ⟨v, hv⟩ : ∃ v, v = min m0 (A3 + rv) := ⟨_, rfl⟩
  have st := (Fill.first (v := v) (F' := fun a b => Zs.at (f.set (ix p q W (x + 1) (y + 1)) v) (ix p q W a b)) hx hy hi hj hA HS (by rw [← hp]; exact hpx) hlt (by rw [← hq]; exact hqy) hlt2 ef (by rw [hv, hm, QA1, QA2, QA3, Edv, Eiv, Erv]) (fs v)).2
  rw [j2, ← j5] at st
  exact ⟨ua, ub, r1, r, s, u1, u2, v1, v2, v3, v4, z0, z1, a6, t6, dv, iv, A1, A2, A3, A5, rv, m0, v, Lib.hid ⟨er, es⟩, Lib.hid ⟨pa, pb, gx, gy, gd, gi, xl, yl, cd, ci, gf1, gf3, d1, d2, d3, d4, x1, x2, x3, x4, x5, x6, wu1, wu2, bx0, bx1, by0, by1, bua0, bua1, bub0, bub1, bv10, bv11, bv30, bv31⟩, Lib.hid hm, Lib.hid ⟨pa, pb, pl, ql, e1, e2, bx0, bx1, by0, by1, bi0, bi1, bj0, bj1⟩, Lib.hid ⟨gx, gy, gr, xl, yl, cr, gf4, y1, y2, y3, y4, y5, d1, d2, d5, x1, x2, x7, wu1, bt60, bt61, bv40, bv41, bx0, bx1, by0, by1, bua0, bua1, bub0, bub1⟩, Lib.hid hv, Lib.hid ⟨wz, dz, wz1, gz, fz, bx0, bx1, by0, by1, bz10, bz11, d3, x3, wu2, gf2, ff2, ne1, ne2, bv20, bv21⟩, Lib.hid st⟩
set_option maxHeartbeats 1600000 in
set_option maxRecDepth 100000 in
theorem l8_cellB (FR : L8 B gt hf nf nm ax ay ala alb k0 k1 k2 cx cy e0 e1 e2 xs ys k i j p q W V T w wb) (HF : F8 B gt hf nf nm w wb f T1 wr) (HS : Fill xs ys k i j x y (fun a b => Zs.at f (ix p q W a b)) T T1) (hpx : p ≤ x) (hlt : x ≤ i) (hqy : q ≤ y) (hlt2 : y ≤ j) (ef : ¬ (Tr.la xs x = Tr.la xs i ∧ Tr.la ys y = Tr.la ys j)) :
    ∃ (ua ub r1 r s u1 u2 v1 v2 v3 v4 z0 z1 lxx lyy h1 h2 h3 h4 : Nat) (dv iv A1 A2 A4 A5 m0 v : Int), RowKit.Hid (((x : Int) - (p : Int) + 1 = (r : Int)) ∧ ((y : Int) - (q : Int) + 1 = (s : Int))) ∧
    RowKit.Hid ((wr.cell? (ala.add i) = some (.int .i64 (p : Int))) ∧ (wr.cell? (alb.add j) = some (.int .i64 (q : Int))) ∧ (wr.cell? ⟨w.heap.size, 0, none⟩ = some (.slice (some ax) xs.length cx)) ∧ (wr.cell? ⟨w.heap.size, 1, none⟩ = some (.slice (some ay) ys.length cy)) ∧ (wr.cell? ⟨w.heap.size, 4, none⟩ = some (.slice (some k0) 6 e0)) ∧ (wr.cell? ⟨w.heap.size, 5, none⟩ = some (.slice (some k1) 6 e1)) ∧ (wr.cell? (ax.add x) = some (.int .i64 (ua : Int))) ∧ (wr.cell? (ay.add y) = some (.int .i64 (ub : Int))) ∧ (wr.cell? (k0.add ua) = some (.int .i64 dv)) ∧ (wr.cell? (k1.add ub) = some (.int .i64 iv)) ∧ (wr.cell? ⟨hf, v1, none⟩ = some (.int .i64 A1)) ∧ (wr.cell? ⟨hf, v3, none⟩ = some (.int .i64 A2)) ∧ ((r : Int) - 1 = (r1 : Int)) ∧ ((u1 : Int) + (s : Int) = (v1 : Int)) ∧ ((u2 : Int) + (s : Int) = (v2 : Int)) ∧ ((v2 : Int) - 1 = (v3 : Int)) ∧ (IntKind.i64.wrap ((r1 : Int)) = (r1 : Int)) ∧ (IntKind.i64.wrap ((v1 : Int)) = (v1 : Int)) ∧ (IntKind.i64.wrap ((v2 : Int)) = (v2 : Int)) ∧ (IntKind.i64.wrap ((v3 : Int)) = (v3 : Int)) ∧ (IntKind.i64.wrap (A1 + dv) = A1 + dv) ∧ (IntKind.i64.wrap (A2 + iv) = A2 + iv) ∧ (IntKind.i64.wrap ((r1 : Int) * (W : Int)) = (u1 : Int)) ∧ (IntKind.i64.wrap ((r : Int) * (W : Int)) = (u2 : Int)) ∧ ((0 : Int) ≤ (x : Int)) ∧ ((x : Int) < (xs.length : Int)) ∧ ((0 : Int) ≤ (y : Int)) ∧ ((y : Int) < (ys.length : Int)) ∧ ((0 : Int) ≤ (ua : Int)) ∧ ((ua : Int) < 6) ∧ ((0 : Int) ≤ (ub : Int)) ∧ ((ub : Int) < 6) ∧ ((0 : Int) ≤ (v1 : Int)) ∧ ((v1 : Int) < (nf : Int)) ∧ ((0 : Int) ≤ (v3 : Int)) ∧ ((v3 : Int) < (nf : Int))) ∧
    RowKit.Hid ((m0 = min (A1 + dv) (A2 + iv))) ∧
    RowKit.Hid ((wr.cell? (ala.add i) = some (.int .i64 (p : Int))) ∧ (wr.cell? (alb.add j) = some (.int .i64 (q : Int))) ∧ (wr.cell? (ala.add x) = some (.int .i64 (lxx : Int))) ∧ (wr.cell? (alb.add y) = some (.int .i64 (lyy : Int))) ∧ ((0 : Int) ≤ (x : Int)) ∧ ((x : Int) < (xs.length : Int)) ∧ ((0 : Int) ≤ (y : Int)) ∧ ((y : Int) < (ys.length : Int)) ∧ ((0 : Int) ≤ (i : Int)) ∧ ((i : Int) < (xs.length : Int)) ∧ ((0 : Int) ≤ (j : Int)) ∧ ((j : Int) < (ys.length : Int))) ∧
    RowKit.Hid ((((lxx : Int) == (p : Int)) = false ∨ (((lxx : Int) == (p : Int)) = true ∧ ((lyy : Int) == (q : Int)) = false))) ∧
    RowKit.Hid ((wr.cell? (alb.add j) = some (.int .i64 (q : Int))) ∧ (wr.cell? (ala.add i) = some (.int .i64 (p : Int))) ∧ (wr.cell? (ala.add x) = some (.int .i64 (lxx : Int))) ∧ (wr.cell? (alb.add y) = some (.int .i64 (lyy : Int))) ∧ (wr.cell? ⟨hf, h4, none⟩ = some (.int .i64 A4)) ∧ (wr.cell? ⟨gt, z1, none⟩ = some (.int .i64 A5)) ∧ ((lxx : Int) - (p : Int) = (h1 : Int)) ∧ (IntKind.i64.wrap ((h1 : Int)) = (h1 : Int)) ∧ (IntKind.i64.wrap ((h1 : Int) * (W : Int)) = (h2 : Int)) ∧ ((h2 : Int) + (lyy : Int) = (h3 : Int)) ∧ (IntKind.i64.wrap ((h3 : Int)) = (h3 : Int)) ∧ ((h3 : Int) - (q : Int) = (h4 : Int)) ∧ (IntKind.i64.wrap ((h4 : Int)) = (h4 : Int)) ∧ (IntKind.i64.wrap (A4 + A5) = A4 + A5) ∧ (IntKind.i64.wrap ((x : Int) * (ys.length : Int)) = (z0 : Int)) ∧ ((z0 : Int) + (y : Int) = (z1 : Int)) ∧ (IntKind.i64.wrap ((z1 : Int)) = (z1 : Int)) ∧ ((0 : Int) ≤ (x : Int)) ∧ ((x : Int) < (xs.length : Int)) ∧ ((0 : Int) ≤ (y : Int)) ∧ ((y : Int) < (ys.length : Int)) ∧ ((0 : Int) ≤ (z1 : Int)) ∧ ((z1 : Int) < (nm : Int)) ∧ ((0 : Int) ≤ (h4 : Int)) ∧ ((h4 : Int) < (nf : Int)) ∧ ((0 : Int) ≤ (i : Int)) ∧ ((i : Int) < (xs.length : Int)) ∧ ((0 : Int) ≤ (j : Int)) ∧ ((j : Int) < (ys.length : Int))) ∧
    RowKit.Hid ((v = min m0 (A4 + A5))) ∧
    RowKit.Hid (((u2 : Int) + (s : Int) = (v2 : Int)) ∧ (IntKind.i64.wrap ((v2 : Int)) = (v2 : Int)) ∧ (IntKind.i64.wrap ((r : Int) * (W : Int)) = (u2 : Int)) ∧ (wr.cell? ⟨hf, v2, none⟩ = some (.int .i64 (Zs.at f v2))) ∧ (wr.frozen? ⟨hf, v2, none⟩ = false) ∧ (gt ≠ hf) ∧ (hf ≠ gt) ∧ ((0 : Int) ≤ (v2 : Int)) ∧ ((v2 : Int) < (nf : Int)) ∧ ((0 : Int) ≤ (x : Int)) ∧ ((x : Int) < (xs.length : Int)) ∧ ((0 : Int) ≤ (y : Int)) ∧ ((y : Int) < (ys.length : Int))) ∧
    RowKit.Hid ((Fill xs ys k i j x (y + 1) (fun a b => Zs.at (f.set v2 v) (ix p q W a b)) T T1)) := by
  obtain ⟨hx, hy, hk, hi, hj, hA, hp, hq, hW, hV, hnf, hnm, lx', ly', hpi, hqj, hfl, hgw, hBg, hZ, rX, rY, rA, rB, r0, r1', r2, c0, c1, c4, c5, c6⟩ := FR
  have hWa : j - q + 2 ≤ W := by omega
  obtain ⟨ua, hua, eua⟩ := Tr.xa_lab hx (p := x) (by omega)
  obtain ⟨ub, hub, eub⟩ := Tr.xa_lab hy (p := y) (by omega)
  have kb0 := fun o => HF.kb ⟨w.heap.size, o, none⟩ (by show w.heap.size < hf; omega) (by show w.heap.size ≠ gt; omega)
  have gx := (kb0 0).trans c0
  have gy := (kb0 1).trans c1
  have gd := (kb0 4).trans c4
  have gi := (kb0 5).trans c5
  have gr := (kb0 6).trans c6
  have pa : wr.cell? (ala.add i) = some (.int .i64 (p : Int)) := by rw [HF.row rA (Nat.lt_of_lt_of_le rA.lt hZ) (k := i) hi, Tr.la_up hx hi, ← hp]
  have pb : wr.cell? (alb.add j) = some (.int .i64 (q : Int)) := by rw [HF.row rB (Nat.lt_of_lt_of_le rB.lt hZ) (k := j) hj, Tr.la_up hy hj, ← hq]
  have xl : wr.cell? (ax.add x) = some (.int .i64 (ua : Int)) := by rw [HF.row rX (Nat.lt_of_lt_of_le rX.lt hZ) (k := x) (by omega), ← eua]; rfl
  have yl : wr.cell? (ay.add y) = some (.int .i64 (ub : Int)) := by rw [HF.row rY (Nat.lt_of_lt_of_le rY.lt hZ) (k := y) (by omega), ← eub]; rfl
  obtain ⟨dv, hdv⟩ : ∃ z, z = Zs.at k.d ua := ⟨_, rfl⟩
  obtain ⟨iv, hiv⟩ : ∃ z, z = Zs.at k.i ub := ⟨_, rfl⟩
  have cd : wr.cell? (k0.add ua) = some (.int .i64 (Zs.at k.d ua)) := HF.row r0 (Nat.lt_of_lt_of_le r0.lt hZ) (k := ua) hua
  have ci : wr.cell? (k1.add ub) = some (.int .i64 (Zs.at k.i ub)) := HF.row r1' (Nat.lt_of_lt_of_le r1'.lt hZ) (k := ub) hub
  rw [← hdv] at cd
  rw [← hiv] at ci
  have Edv : Co.del k (Tr.xa xs x) = dv := by rw [eua, Co.del_at hk hua, hdv]
  have Eiv : Co.ins k (Tr.xa ys y) = iv := by rw [eub, Co.ins_at hk hub, hiv]
  have n1 := (Co.nonneg' k).1 (Tr.xa xs x)
  have n2 := (Co.nonneg' k).2.1 (Tr.xa ys y)
  rw [Edv] at n1
  rw [Eiv] at n2
  obtain ⟨lxx, hlxx⟩ : ∃ l, l = Tr.la xs x := ⟨_, rfl⟩
  obtain ⟨lyy, hlyy⟩ : ∃ l, l = Tr.la ys y := ⟨_, rfl⟩
  have geo := Fill.geo hx hy hi hj (by rw [← hp]; exact hpx) hlt (by rw [← hq]; exact hqy) hlt2
  rw [← hp, ← hq, ← hlxx, ← hlyy] at geo
  obtain ⟨g1, g2, g3, g4⟩ := geo
  have pl : wr.cell? (ala.add x) = some (.int .i64 (lxx : Int)) := by rw [HF.row rA (Nat.lt_of_lt_of_le rA.lt hZ) (k := x) (by omega), Tr.la_up hx (by omega), ← hlxx]
  have ql : wr.cell? (alb.add y) = some (.int .i64 (lyy : Int)) := by rw [HF.row rB (Nat.lt_of_lt_of_le rB.lt hZ) (k := y) (by omega), Tr.la_up hy (by omega), ← hlyy]
  obtain ⟨r1, r, s, u1, u2, v1, v2, v3, v4, z0, z1, ⟨j1, j2, j3, j4, j5⟩, ⟨lt1, lt2, lt3, lt4, ltz⟩, ⟨wz, dz, wz1, wu1, wu2⟩, ⟨d1, d2, d3, d4, d5⟩, ⟨x1, x2, x3, x4, x7⟩, ⟨er, es⟩, ⟨bx0, bx1, by0, by1⟩, ⟨bv10, bv11, bv20, bv21, bv30, bv31, bv40, bv41, bz10, bz11⟩⟩ := l8_nums (nm := nm) hpi hqj hpx hlt hqy hlt2 hi hj lx' ly' hW hV hnf hnm
  have rd := Fill.reads hx hy hi hj HS (by rw [← hp]; exact hpx) hlt (by rw [← hq]; exact hqy) hlt2
  rw [← hp, ← hq, ← hlxx, ← hlyy] at rd
  obtain ⟨q1, q2, q3, q4⟩ := rd
  obtain ⟨A1, hA1⟩ : ∃ A, A = Zs.at f v1 := ⟨_, rfl⟩
  obtain ⟨A2, hA2⟩ : ∃ A, A = Zs.at f v3 := ⟨_, rfl⟩
  obtain ⟨A3, hA3⟩ : ∃ A, A = Zs.at f v4 := ⟨_, rfl⟩
  obtain ⟨A5, hA5⟩ : ∃ A, A = Zs.at T1 z1 := ⟨_, rfl⟩
  rw [j1] at q1
  rw [j3] at q2
  rw [j4] at q3
  have ba := RR_bound (k := k) hx hy (p := p) (a := x) (q := q) (b := y) (by omega) (by omega) (by omega) (by omega)
  have bb := RR_bound (k := k) hx hy (p := p) (a := x) (q := q) (b := y + 1) (by omega) (by omega) (by omega) (by omega)
  have bc := RR_bound (k := k) hx hy (p := p) (a := x + 1) (q := q) (b := y) (by omega) (by omega) (by omega) (by omega)
  rw [← q3, ← hA3] at ba
  rw [← q1, ← hA1] at bb
  rw [← q2, ← hA2] at bc
  have gf1 := own_int HF.rf (k := v1) (by rw [HF.flen]; exact lt1)
  have gf2 := own_int HF.rf (k := v2) (by rw [HF.flen]; exact lt2)
  have gf3 := own_int HF.rf (k := v3) (by rw [HF.flen]; exact lt3)
  have gf4 := own_int HF.rf (k := v4) (by rw [HF.flen]; exact lt4)
  have gz := own_int HF.rt (k := z1) (by rw [HF.tlen]; exact ltz)
  have ff2 := HF.rf.frozenAt v2
  have fz := HF.rt.frozenAt z1
  rw [← hA1] at gf1
  rw [← hA2] at gf3
  rw [← hA3] at gf4
  rw [← hA5] at gz
  have x5 : IntKind.i64.wrap (A1 + dv) = A1 + dv := Kit.w64 (by omega) (by omega)
  have x6 : IntKind.i64.wrap (A2 + iv) = A2 + iv := Kit.w64 (by omega) (by omega)
  have bua0 : (0 : Int) ≤ (ua : Int) := by omega
  have bua1 : (ua : Int) < 6 := by omega
  have bub0 : (0 : Int) ≤ (ub : Int) := by omega
  have bub1 : (ub : Int) < 6 := by omega
  have bi0 : (0 : Int) ≤ (i : Int) := by omega
  have bi1 : (i : Int) < (xs.length : Int) := by omega
  have bj0 : (0 : Int) ≤ (j : Int) := by omega
  have bj1 : (j : Int) < (ys.length : Int) := by omega
  have ne1 : gt ≠ hf := by omega
  have ne2 : hf ≠ gt := by omega
  obtain ⟨m0, hm⟩ : ∃ m, m = min (A1 + dv) (A2 + iv) := ⟨_, rfl⟩
  have QA1 : A1 = Zs.at f (ix p q W x (y + 1)) := by rw [hA1, j1]
  have QA2 : A2 = Zs.at f (ix p q W (x + 1) y) := by rw [hA2, j3]
  have QA3 : A3 = Zs.at f (ix p q W x y) := by rw [hA3, j4]
  have fs : ∀ v, ∀ a b, Tr.la xs i ≤ a → a ≤ i + 1 → Tr.la ys j ≤ b → b ≤ j + 1 → (fun a b => Zs.at (f.set (ix p q W (x + 1) (y + 1)) v) (ix p q W a b)) a b = if a = x + 1 ∧ b = y + 1 then v else (fun a b => Zs.at f (ix p q W a b)) a b := by
    intro v
    rw [← hp, ← hq]
    exact ix_set (nf := nf) (by rw [j2, HF.flen]; exact lt2) hpx hqy hlt2 hWa hqj
  obtain ⟨h1, h2, h3, h4, i1, i2, i3, i4, i5, i6, i7, i8, i9, bh40, bh41, i12, i13⟩ := l8_nums2 (lx := lxx) (ly := lyy) hpi hqj g1 (by omega) g3 (by omega) hi hj lx' ly' hW hV hnf
  rw [i1] at q4
  have tr := Fill.tree hi hj hA HS (by rw [← hp]; exact hpx) hlt (by rw [← hq]; exact hqy) hlt2 ef
  rw [← j5, ← hA5] at tr
  obtain ⟨A4, hA4⟩ : ∃ A, A = Zs.at f h4 := ⟨_, rfl⟩
  have b4' := RR_bound (k := k) hx hy (p := p) (a := lxx) (q := q) (b := lyy) (by omega) (by omega) (by omega) (by omega)
  have b5' := TT_bound (k := k) hx hy (a := x) (b := y) (by omega) (by omega)
  rw [← q4, ← hA4] at b4'
  rw [← tr] at b5'
  have gf5 := own_int HF.rf (k := h4) (by rw [HF.flen]; exact i2)
  rw [← hA4] at gf5
  have y5 : IntKind.i64.wrap (A4 + A5) = A4 + A5 := Kit.w64 (by omega) (by omega)
  obtain ⟨v, hv⟩ : ∃ v, v = min m0 (A4 + A5) := ⟨_, rfl⟩
  have st := Fill.other (v := v) (F' := fun a b => Zs.at (f.set (ix p q W (x + 1) (y + 1)) v) (ix p q W a b)) hx hy hi hj hA HS (by rw [← hp]; exact hpx) hlt (by rw [← hq]; exact hqy) hlt2 ef (by rw [hv, hm, QA1, QA2, hA4, hA5, Edv, Eiv, ← hlxx, ← hlyy, ← j5]; show _ = min (min _ _) (Zs.at f (ix p q W lxx lyy) + _); rw [i1]) (fs v)
  rw [j2] at st
  have ne : ((lxx : Int) == (p : Int)) = false ∨ (((lxx : Int) == (p : Int)) = true ∧ ((lyy : Int) == (q : Int)) = false) := by
    by_cases h : lxx = p
    · by_cases h' : lyy = q
      · exact absurd ⟨by rw [← hlxx, h, hp], by rw [← hlyy, h', hq]⟩ ef
      · exact .inr ⟨by simp [h], by simp; omega⟩
    · exact .inl (by simp; omega)
  exact ⟨ua, ub, r1, r, s, u1, u2, v1, v2, v3, v4, z0, z1, lxx, lyy, h1, h2, h3, h4, dv, iv, A1, A2, A4, A5, m0, v, Lib.hid ⟨er, es⟩, Lib.hid ⟨pa, pb, gx, gy, gd, gi, xl, yl, cd, ci, gf1, gf3, d1, d2, d3, d4, x1, x2, x3, x4, x5, x6, wu1, wu2, bx0, bx1, by0, by1, bua0, bua1, bub0, bub1, bv10, bv11, bv30, bv31⟩, Lib.hid hm, Lib.hid ⟨pa, pb, pl, ql, bx0, bx1, by0, by1, bi0, bi1, bj0, bj1⟩, Lib.hid ne, Lib.hid ⟨pb, pa, pl, ql, gf5, gz, i3, i4, i5, i6, i7, i8, i9, y5, wz, dz, wz1, bx0, bx1, by0, by1, bz10, bz11, bh40, bh41, bi0, bi1, bj0, bj1⟩, Lib.hid hv, Lib.hid ⟨d3, x3, wu2, gf2, ff2, ne1, ne2, bv20, bv21, bx0, bx1, by0, by1⟩, Lib.hid st⟩
end

end Go.Proofs.Ytajplmopdipbnaa

/- Contracts (Part). -/
namespace Go.Proofs.Ytajplmopdipbnaa
open Go.RowKit
set_option linter.unusedVariables false

/-- of a row the first k values, then zeroes -/
def Zs.part (F : List Int) (k : Nat) : List Int := F.take k ++ List.replicate (F.length - k) 0
theorem Zs.part_length (F : List Int) (k : Nat) (h : k ≤ F.length) : (Zs.part F k).length = F.length := by simp [Zs.part]; omega
theorem Zs.part_zero (F : List Int) : Zs.part F 0 = List.replicate F.length 0 := by simp [Zs.part]
theorem Zs.part_all (F : List Int) : Zs.part F F.length = F := by simp [Zs.part]
theorem Zs.part_set (F : List Int) (k : Nat) (h : k < F.length) : (Zs.part F k).set k (Zs.at F k) = Zs.part F (k + 1) := by
  unfold Zs.part
  have hl : (F.take k).length = k := by simp; omega
  rw [List.set_append_right _ _ (by omega), hl, Nat.sub_self, show F.length - k = (F.length - (k + 1)) + 1 by omega, List.replicate_succ, List.set_cons_zero, List.take_succ_eq_append_getElem h, List.append_assoc]
  simp [Zs.at, List.getD_eq_getElem?_getD, h]
theorem made_zeros (z n : Nat) : (madeCells (Value.int .i64 0).cells (n * 1)).toList = ints (List.replicate n 0) := by
  unfold madeCells ints
  refine List.ext_getElem (by simp) fun k h1 h2 => ?_
  simp at h1 h2 ⊢
  show (#[Value.int .i64 0] : Array Value)[k % 1]! = _
  rw [Nat.mod_one]
  rfl
theorem info_intZ : (Try.prog.info? 3).map (fun i => (i.zero, i.size, i.bytes)) = some (some (.int .i64 0), 1, 8) := by kernel_rfl

end Go.Proofs.Ytajplmopdipbnaa
