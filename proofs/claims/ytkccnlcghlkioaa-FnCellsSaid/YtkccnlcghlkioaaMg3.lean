/- Texts of one claim laid into one file, in build order: KidS, PostS, Dst, Cel, CelP, RankS, LeafS, KeyS, CelS, Part, LabOkI, Num, C1P. -/
import Derived.Test.YtkccnlcghlkioaaMg2
import Derived.BigQuiet
import Derived.Lib.Bytealg
import Derived.Lib.Strings
import Derived.Outline
import Derived.Test.YtkccnlcghlkioaaRows
import Derived.WalkKit
/- Contracts (KidS). -/
namespace Go.Proofs.Ytkccnlcghlkioaa
open Go.RowKit
set_option linter.unusedVariables false

theorem info_intS : (Try.prog.info? 3).map (fun i => (i.zero, i.size, i.bytes)) = some (some (.int .i64 0), 1, 8) := by kernel_rfl

set_option maxHeartbeats 800000 in
set_option maxRecDepth 100000 in
theorem specKidsOf_any (A : Option Addr) (n c : Nat) (xs : Tr) (i : Int) (w : World) (h : NdIn w w.heap.size A n xs) (hn : n ≤ 1048576) :
    Calls Try.prog 100 #[.slice A n c, .int .i64 i] w (OwnInts 3 (Tr.kidsI xs i) w) := by
  have H := Lib.hid h
  clear h
  have HL := Lib.hid H.out.1
  obtain ⟨i0, hi, hz0, hz1, hz2⟩ := info_parts info_intS
  rcases hok : Tr.has xs i with _ | _
  · have Hf := Lib.hid (Tr.kidsI_no hok)
    have Hok := Lib.hid hok
    clear hok
    go_enter Try.func100, Try.ntmps100
    go_wp2
    refine wp_loop_rounds 1 ?_
    rw [rounds_succ]
    go_wp2_with fail
    refine (l3At_any _ _ _ xs _ _ ((H.out.to_below ((Below.refl _ _).alloc (Nat.le_refl _) _))) hn).mono ?_
    rintro e w1 ⟨rfl, hd1⟩
    have HB := Lib.hid (Drawn.below ((Below.refl w.heap.size w).alloc (Nat.le_refl _) _) hd1)
    have Ho := Lib.hid (own_drawn (World.ownsRow_lit (e := 3) (size := 1) w #[] 0 (Nat.le_refl _) (Nat.zero_le _) rfl) hd1)
    clear hd1
    rw [Hok.out]
    go_wp2
    go_ret
    exact ⟨_, _, by rw [Hf.out]; rfl, by rw [Hf.out]; exact Ho.out, HB.out⟩
  · have h1 := (Tr.has_iff.1 hok).2
    have h0 := (Tr.has_iff.1 hok).1
    rw [HL.out] at h1
    have hbd := Lib.hid fun k => Tr.ok_at (xs := xs) h0 (k := k)
    obtain ⟨j, rfl⟩ := Int.eq_ofNat_of_zero_le h1.1
    have hj : j < n := by omega
    have Hf := Lib.hid (Tr.kidsI_yes hok)
    have He := Lib.hid (Tr.endOf_yes hok)
    have hE := Tr.endN_spec xs j (by rw [HL.out]; exact hj)
    have hE1 := hE.1
    have hE2 := hE.2.1
    rw [HL.out] at hE2
    have Hok := Lib.hid hok
    clear hok h1 h0 hE
    go_enter Try.func100, Try.ntmps100
    go_wp2
    go_loopw [6, 5] (fun kv ov wr => ∃ k : Nat, j < k ∧ k ≤ Tr.endN xs j ∧ kv = .int .i64 k ∧ wr.ownsRow w.heap.size 3 1 ov (Tr.kidsZ xs j k).length (ints (Tr.kidsZ xs j k)) ∧ Below w.heap.size w wr) (fun k _ _ => n - (intOf k).toNat)
    case atStart => exact ⟨j + 1, by omega, by omega, by go_num, by rw [Tr.kidsZ_start]; exact World.ownsRow_lit w #[] 0 (Nat.le_refl _) (Nat.zero_le _) rfl, (Below.refl _ _).alloc (Nat.le_refl _) _⟩
    case round =>
      obtain ⟨k, hjk, hk, rfl, hown, hB⟩ := hrel
      have hz := Lib.hid (H.out.to_below hB)
      have Ho := Lib.hid hown
      have HB := Lib.hid hB
      clear hown hB
      go_wp2_with fail
      refine (l3At_any _ _ _ xs _ _ hz.out hn).mono ?_
      rintro e w1 ⟨rfl, hd1⟩
      have hz := Lib.hid (hz.out.to_drawn hd1)
      have Ho := Lib.hid (own_drawn Ho.out hd1)
      have HB := Lib.hid (Drawn.below HB.out hd1)
      clear hd1
      rw [Hok.out]
      go_wp2_with fail
      refine (specEndOf_any _ _ _ xs _ _ hz.out hn).mono ?_
      rintro e w2 ⟨rfl, hd2⟩
      have hz := Lib.hid (hz.out.to_drawn hd2)
      have Ho := Lib.hid (own_drawn Ho.out hd2)
      have HB := Lib.hid (Drawn.below HB.out hd2)
      have hsz2 := HB.out.size
      clear hd2
      rw [He.out]
      by_cases hlt : k < Tr.endN xs j
      · obtain ⟨ad, rfl, hb, hl, hd⟩ := hz.out.at_ (k := k) (by omega)
        obtain ⟨hl', hd'⟩ := hz.out.here hj
        clear hl hl'
        have Hs := Lib.hid (Tr.kidsZ_succ xs j k hjk)
        have hlen := Tr.kidsZ_len xs j k
        have hk0 : (0 : Int) ≤ (k : Int) := by omega
        have hj0 : (0 : Int) ≤ (j : Int) := by omega
        have hbj := (hbd.out j (by rw [HL.out]; exact hj)).2.1
        have a5 : IntKind.i64.wrap (Tr.d xs j + 1) = Tr.d xs j + 1 := Kit.w64 (by omega) (by omega)
        by_cases hq : Tr.d xs k = Tr.d xs j + 1
        · have q : (Tr.d xs k == Tr.d xs j + 1) = true := by simpa using hq
          have Hq := Lib.hid hq
          clear hq
          go_wp2
          go_quiet (fail)
          clear a5
          go_wp2_with (at_builtin; go_loud (refine append_int (World.drewN w2 nq) rfl _ _ 25 rfl w.heap.size 3 i0 Try.underlying25 hi hz0 hz1 hz2 u5 (Tr.kidsZ xs j k).length (Tr.kidsZ xs j k) rfl (Ho.out : World.ownsRow (World.drewN w2 nq) _ _ _ _ _ _) rfl (k : Int) rfl (by omega) hsz2 ?_; intro v1 w3 hown3 hgrow3))
          have hb3 := Kit.below_own (below_drewN HB.out _) (Ho.out : World.ownsRow (World.drewN w2 nq) _ _ _ _ _ _) hgrow3
          go_roundw
          case rel => exact ⟨k + 1, by omega, by omega, by go_num, by rw [Hs.out, if_pos Hq.out]; exact hown3, hb3⟩
          case measure => simp [intOf]; omega
        · have q : (Tr.d xs k == Tr.d xs j + 1) = false := by simpa using hq
          have Hq := Lib.hid hq
          clear hq
          go_wp2
          go_quiet (fail)
          clear a5
          go_wp2
          go_roundw
          case rel => exact ⟨k + 1, by omega, by omega, by go_num, by rw [Hs.out, if_neg (by have := Hq.out; omega)]; exact (Ho.out : World.ownsRow (World.drewN w2 nq) _ _ _ _ _ _), below_drewN HB.out _⟩
          case measure => simp [intOf]; omega
      · obtain rfl : k = Tr.endN xs j := by omega
        obtain ⟨A', c', rfl⟩ := own_slice Ho.out
        go_wp2
        go_ret
        exact ⟨A', c', by rw [Hf.out]; rfl, by rw [Hf.out]; exact Ho.out, HB.out⟩

end Go.Proofs.Ytkccnlcghlkioaa

/- Contracts (PostS). -/
namespace Go.Proofs.Ytkccnlcghlkioaa
open Go.RowKit
set_option linter.unusedVariables false

/-- kids of i, row of numbers -/
def Tr.kidsR (xs : Tr) (i : Nat) : List Nat := Tr.kidsTo xs i (Tr.endN xs i)
theorem info_intP : (Try.prog.info? 3).map (fun i => (i.zero, i.size, i.bytes)) = some (some (.int .i64 0), 1, 8) := by kernel_rfl
def Zs.up (l : List Nat) : List Int := l.map fun (m : Nat) => (m : Int)
theorem Zs.up_length (l : List Nat) : (Zs.up l).length = l.length := by simp [Zs.up]
theorem Zs.up_append (a b : List Nat) : Zs.up (a ++ b) = Zs.up a ++ Zs.up b := by simp [Zs.up]
theorem Zs.up_at (l : List Nat) (k : Nat) (h : k < l.length) : Zs.at (Zs.up l) k = (l[k] : Int) := by simp [Zs.at, Zs.up, List.getD_eq_getElem?_getD, h]
theorem flat_take (l : List Nat) (g : Nat → List Nat) (t : Nat) (h : t < l.length) : (l.take (t + 1)).flatMap g = (l.take t).flatMap g ++ g l[t] := by
  rw [List.take_succ_eq_append_getElem h, List.flatMap_append]
  simp
theorem flat_len (l : List Nat) (g : Nat → List Nat) (t : Nat) : ((l.take t).flatMap g).length ≤ (l.flatMap g).length := by
  have : l.flatMap g = (l.take t).flatMap g ++ (l.drop t).flatMap g := by rw [← List.flatMap_append, List.take_append_drop]
  rw [this, List.length_append]
  omega

set_option maxHeartbeats 1600000 in
set_option maxRecDepth 100000 in
theorem l6Post_body (A : Option Addr) (n c : Nat) (xs : Tr) (hok : Tr.ok xs = true) (hn : n ≤ 1048576) (i : Nat) (hi' : i < n) (g : Nat → List Nat)
    (hg : ∀ (t : Nat) (ht : t < (Tr.kidsR xs i).length) (w : World), NdIn w w.heap.size A n xs → Calls Try.prog 97 #[.slice A n c, .int .i64 (Tr.kidsR xs i)[t]] w (OwnInts 3 (Zs.up (g (Tr.kidsR xs i)[t])) w))
    (hpos : ∀ (t : Nat) (ht : t < (Tr.kidsR xs i).length), 0 < (g (Tr.kidsR xs i)[t]).length) (hlen : ((Tr.kidsR xs i).flatMap g).length ≤ 24)
    (w : World) (h : NdIn w w.heap.size A n xs) :
    Calls Try.prog 97 #[.slice A n c, .int .i64 i] w (OwnInts 3 (Zs.up ((Tr.kidsR xs i).flatMap g ++ [i])) w) := by
  have H := Lib.hid h
  have HL := Lib.hid H.out.1
  have HG := Lib.hid hg
  have HP := Lib.hid hpos
  clear h hg hpos
  obtain ⟨i0, hi, hz0, hz1, hz2⟩ := info_parts info_intP
  have Hi := Lib.hid hi
  clear hi
  have hki : Tr.kidsI xs (i : Int) = Zs.up (Tr.kidsR xs i) := by
    rw [Tr.kidsI_yes (Tr.has_iff.2 ⟨hok, by omega, by rw [HL.out]; omega⟩)]
    rfl
  obtain ⟨K, hK⟩ : ∃ K, K = Tr.kidsR xs i := ⟨_, rfl⟩
  have HKI := Lib.hid (hki.trans (by rw [← hK]))
  rw [← hK] at HG HP hlen ⊢
  have hKl : K.length ≤ 1048576 := by
    have h1 := Tr.kidsTo_le xs i (Tr.endN xs i)
    have h2 := (Tr.endN_dn hok (i := i) (by rw [HL.out]; exact hi')).2.1
    rw [hK, Tr.kidsR]
    rw [HL.out] at h2
    omega
  clear hki hok hK
  have HFL := Lib.hid (flat_len K g)
  have HFT := Lib.hid (flat_take K g)
  have Ho := Lib.hid (World.ownsRow_lit (base := w.heap.size) (e := 3) (size := 1) w #[] 0 (Nat.le_refl _) (Nat.zero_le _) rfl)
  have HB := Lib.hid ((Below.refl w.heap.size w).alloc (Nat.le_refl _) (.cells #[] 3))
  have H1 := Lib.hid ((H.out.below HB.out).more HB.out.size)
  go_enter Try.func97, Try.ntmps97
  go_wp2_with fail
  refine (specKidsOf_any _ _ _ xs _ _ H1.out hn).mono ?_
  rintro e w1 ⟨Ak, ck, rfl, hk, hb⟩
  rw [HKI.out] at hk ⊢
  have Ho := Lib.hid (own_below Ho.out hb)
  have HB := Lib.hid (HB.out.trans (hb.mono HB.out.size))
  have hsz : (w.alloc (.cells #[] 3)).heap.size = w.heap.size + 1 := by simp
  have hap : Apart (.slice Ak (Zs.up K).length ck) (.slice (some ⟨w.heap.size, 0, none⟩) 0 0) := by
    rcases hq : (Value.slice Ak (Zs.up K).length ck).ownBlock with _ | gk
    · exact .inl hq
    · refine .inr ?_
      have := (hk.lt gk hq).1
      rw [hq]
      show some gk ≠ some w.heap.size
      intro e
      injection e
      omega
  have Hk := Lib.hid (own_base hk (show w.heap.size ≤ (w.alloc (.cells #[] 3)).heap.size by omega))
  have Hap := Lib.hid hap
  clear hb hk hap hsz H1
  rw [Zs.up_length] at Hk Hap ⊢
  go_wp2
  go_loopw [7, 5] (fun kv ov wr => ∃ t : Nat, t ≤ K.length ∧ kv = .int .i64 t ∧ wr.ownsRow w.heap.size 3 1 ov (Zs.up ((K.take t).flatMap g)).length (ints (Zs.up ((K.take t).flatMap g))) ∧ wr.ownsRow w.heap.size 3 1 (.slice Ak K.length ck) K.length (ints (Zs.up K)) ∧ Apart (.slice Ak K.length ck) ov ∧ Below w.heap.size w wr) (fun k _ _ => K.length - (intOf k).toNat)
  case atStart => exact ⟨0, Nat.zero_le _, rfl, Ho.out, Hk.out, Hap.out, HB.out⟩
  case round =>
    clear Ho HB Hk Hap
    obtain ⟨t, ht, rfl, hown, hkid, hap, hB⟩ := hrel
    have Ho := Lib.hid hown
    have HB := Lib.hid hB
    have Hk := Lib.hid hkid
    have Hap := Lib.hid hap
    clear hown hB hkid hap
    have hfl := HFL.out t
    by_cases hlt : t < K.length
    · obtain ⟨gk, rfl, _, _⟩ := own_form Hk.out (by omega)
      have c1 := own_int Hk.out (k := t) (by rw [Zs.up_length]; exact hlt)
      rw [Zs.up_at K t hlt] at c1
      have hf1 := HFT.out t hlt
      have hfl1 := HFL.out (t + 1)
      have H1 := Lib.hid ((H.out.below HB.out).more HB.out.size)
      have hg1 := HP.out t hlt
      have t0 : (0 : Int) ≤ (t : Int) := by omega
      have t1 : (t : Int) < (K.length : Int) := by omega
      rw [hf1, List.length_append] at hfl1
      have Hf1 := Lib.hid hf1
      clear hf1
      go_wp2_with fail
      refine (HG.out t hlt wr H1.out).mono ?_
      rintro e w2 ⟨A2, c2, rfl, ho2, hb⟩
      have Ho := Lib.hid (own_below Ho.out hb)
      have Hk := Lib.hid (own_below Hk.out hb)
      have HB := Lib.hid (HB.out.trans (hb.mono HB.out.size))
      have I2 := Lib.hid (IntIn.of_own ho2)
      have hsx := HB.out.size
      clear ho2 hb c1
      go_wp2_with (at_builtin; go_loud (refine append_ints w2 rfl _ _ 25 rfl w.heap.size 3 i0 Try.underlying25 Hi.out hz0 hz1 hz2 u5 (Zs.up ((K.take t).flatMap g)).length (Zs.up ((K.take t).flatMap g)) rfl Ho.out rfl (Zs.up (g K[t])) A2 c2 rfl I2.out (by rw [Zs.up_length]; exact hg1) (by rw [Zs.up_length, Zs.up_length]; omega) hsx ?_); intro v' w3 hown hgrow hwhere)
      have hb3 := Below.grown HB.out hgrow hsx (fun k hk => (Ho.out.lt k hk).1)
      have Hk3 := Lib.hid (World.ownsRow.kept Hk.out hgrow Hap.out)
      have Hap3 := Lib.hid (Hap.out.grew Hk.out hwhere)
      rw [← Zs.up_append, ← Hf1.out] at hown
      go_roundw
      case rel => exact ⟨t + 1, by omega, by go_num, hown, Hk3.out, Hap3.out, hb3⟩
      case measure => simp [intOf]; omega
    · obtain rfl : t = K.length := by omega
      have Ht := Lib.hid (show (K.take K.length).flatMap g = K.flatMap g by rw [List.take_length])
      rw [Ht.out] at Ho hfl
      have hsx := HB.out.size
      go_wp2_with (at_builtin; go_loud (refine append_int_at wr rfl _ _ 25 rfl w.heap.size 3 i0 Try.underlying25 Hi.out hz0 hz1 hz2 u5 (Zs.up (K.flatMap g)).length (Zs.up (K.flatMap g)) rfl Ho.out rfl (i : Int) rfl (by rw [Zs.up_length]; omega) hsx ?_); intro v' w3 hown hgrow hwhere)
      have hb3 := Kit.below_own HB.out Ho.out hgrow
      rw [show Zs.up (K.flatMap g) ++ [(i : Int)] = Zs.up (K.flatMap g ++ [i]) by rw [Zs.up_append]; rfl] at hown
      obtain ⟨A3, c3, rfl⟩ := own_slice hown
      go_ret
      exact ⟨A3, c3, rfl, hown, hb3⟩

theorem Tr.postF_ne (xs : Tr) (f i : Nat) : 0 < (Tr.postF xs f i).length := by
  cases f <;> simp [Tr.postF]
theorem Tr.kids_sub {xs : Tr} (hok : Tr.ok xs = true) {i : Nat} (hi : i < xs.length) : ∀ j ∈ Tr.kidsR xs i, i < j ∧ j < Tr.endN xs i := by
  intro j hj
  unfold Tr.kidsR Tr.kidsTo at hj
  simp only [List.mem_filter, List.mem_range, Bool.and_eq_true, decide_eq_true_eq] at hj
  omega
theorem l6Post_any (A : Option Addr) (n c : Nat) (xs : Tr) (hok : Tr.ok xs = true) (hxl : xs.length = n) : ∀ (f i : Nat), i < n → Tr.endN xs i - i ≤ f + 1 → ∀ (w : World), NdIn w w.heap.size A n xs →
    Calls Try.prog 97 #[.slice A n c, .int .i64 i] w (OwnInts 3 (Zs.up (Tr.postF xs f i)) w) := by
  have hle := (Tr.ok_iff.1 hok).2
  intro f
  induction f with
  | zero =>
    intro i hi hf w h
    have a := Tr.endN_dn hok (i := i) (by omega)
    have hk : Tr.kidsR xs i = [] := by
      unfold Tr.kidsR
      rw [show Tr.endN xs i = i + 1 by omega, Tr.kidsTo_start]
    have := l6Post_body A n c xs hok (by omega) i hi (fun _ => []) (by intro t ht; rw [hk] at ht; simp at ht) (by intro t ht; rw [hk] at ht; simp at ht) (by rw [hk]; simp) w h
    rw [hk] at this
    exact this
  | succ f ih =>
    intro i hi hf w h
    have hsp := (Tr.postF_spec hok (f + 1) i (by omega) hf).1
    have a := Tr.endN_dn hok (i := i) (by omega)
    have hp : Tr.postF xs (f + 1) i = (Tr.kidsR xs i).flatMap (Tr.postF xs f) ++ [i] := rfl
    rw [hp] at hsp ⊢
    rw [List.length_append] at hsp
    refine l6Post_body A n c xs hok (by omega) i hi (Tr.postF xs f) (fun t ht w' h' => ?_) (fun t ht => Tr.postF_ne _ _ _) (by simp only [List.length_singleton] at hsp; omega) w h
    have hm := Tr.kids_sub hok (i := i) (by omega) _ (List.getElem_mem ht)
    have hs := Tr.endN_in hok (i := i) (by omega) hm.1 hm.2
    exact ih _ (by omega) (by omega) w' h'

set_option maxHeartbeats 800000 in
theorem specPostOrder_any (A : Option Addr) (n c : Nat) (xs : Tr) (w : World) (h : NdIn w w.heap.size A n xs) (hn : n ≤ 1048576) :
    Calls Try.prog 81 #[.slice A n c] w (OwnInts 3 (Zs.up (Tr.post xs)) w) := by
  have H := Lib.hid h
  clear h
  have HL := Lib.hid H.out.1
  rcases hok : Tr.ok xs with _ | _
  · have Hf := Lib.hid (show Zs.up (Tr.post xs) = [] by unfold Tr.post; rw [hok]; rfl)
    have Hok := Lib.hid hok
    clear hok
    go_enter Try.func81, Try.ntmps81
    go_wp2_with fail
    refine (specTreeOk_any _ _ _ xs _ H.out hn).mono ?_
    rintro e w1 ⟨rfl, hd⟩
    have HB := Lib.hid (hd.toBelow (B := w.heap.size))
    clear hd
    rw [Hok.out]
    have hsx := HB.out.size
    go_wp2
    go_ret
    exact ⟨_, _, by rw [Hf.out]; rfl, by rw [Hf.out]; exact World.ownsRow_lit w1 #[] 0 hsx (Nat.zero_le _) rfl, HB.out.alloc hsx _⟩
  · have hle := (Tr.ok_iff.1 hok).2
    rw [HL.out] at hle
    have Hf := Lib.hid (show Tr.post xs = Tr.postF xs xs.length 0 by unfold Tr.post; rw [hok]; rfl)
    have Hc := Lib.hid (fun w h => l6Post_any A n c xs hok HL.out xs.length 0 (by omega) (by rw [Tr.endN_zero hok]; omega) w h)
    have Hok := Lib.hid hok
    clear hok
    go_enter Try.func81, Try.ntmps81
    go_wp2_with fail
    refine (specTreeOk_any _ _ _ xs _ H.out hn).mono ?_
    rintro e w1 ⟨rfl, hd⟩
    have HB := Lib.hid (hd.toBelow (B := w.heap.size))
    have H1 := Lib.hid (H.out.to_drawn hd)
    clear hd
    rw [Hok.out]
    go_wp2_with fail
    refine (Hc.out w1 H1.out).mono ?_
    rintro e w2 ⟨A2, c2, rfl, ho, hb⟩
    have hsx := HB.out.size
    have HB := Lib.hid (HB.out.trans (hb.mono hsx))
    have Ho := Lib.hid (own_base ho hsx)
    clear hb ho
    go_wp2
    go_ret
    exact ⟨A2, c2, by rw [Hf.out]; rfl, by rw [Hf.out]; exact Ho.out, HB.out⟩

end Go.Proofs.Ytkccnlcghlkioaa

/- Contracts (Dst). -/
namespace Go.Proofs.Ytkccnlcghlkioaa
open Go.RowKit
set_option linter.unusedVariables false

/-! The distances of two trees under costs, as numbers; what a table under way holds. -/
def Co.cs (k : Co) : Cs := ⟨Co.del k, Co.ins k, Co.rel k⟩
section
variable (xs ys : Tr) (k : Co)
/-- forests from place p to place a (of the first) and from q to b (of the second) -/
def RR (p a q b : Nat) : Int := RD (Co.cs k) (Tr.la xs) (Tr.la ys) (Tr.xa xs) (Tr.xa ys) p a q b
/-- the trees at two places -/
def TT (a b : Nat) : Int := TD (Co.cs k) (Tr.la xs) (Tr.la ys) (Tr.xa xs) (Tr.xa ys) a b
end
theorem Co.fit3 {k : Co} (h : Co.ok k = true) : Zs.fit k.d 6 = true ∧ Zs.fit k.i 6 = true ∧ Zs.fit k.r 36 = true := by
  simp only [Co.ok, Bool.and_eq_true] at h
  exact ⟨h.1.1.1, h.1.1.2, h.1.2⟩
theorem Co.nonneg' (k : Co) : (∀ a, 0 ≤ Co.del k a ∧ Co.del k a ≤ 1000) ∧ (∀ a, 0 ≤ Co.ins k a ∧ Co.ins k a ≤ 1000) ∧ ∀ a b, 0 ≤ Co.rel k a b ∧ Co.rel k a b ≤ 1000 := by
  refine ⟨fun a => ?_, fun a => ?_, fun a b => ?_⟩
  · unfold Co.del
    split
    · rename_i h
      simp only [Bool.and_eq_true] at h
      have := Zs.fit_iff.1 (Co.fit3 h.1).1
      have hl : 0 ≤ a ∧ a ≤ 5 := by simpa [Lab.ok] using h.2
      exact this.2 a.toNat (by omega)
    · omega
  · unfold Co.ins
    split
    · rename_i h
      simp only [Bool.and_eq_true] at h
      have := Zs.fit_iff.1 (Co.fit3 h.1).2.1
      have hl : 0 ≤ a ∧ a ≤ 5 := by simpa [Lab.ok] using h.2
      exact this.2 a.toNat (by omega)
    · omega
  · unfold Co.rel
    split
    · rename_i h
      simp only [Bool.and_eq_true] at h
      have := Zs.fit_iff.1 (Co.fit3 h.1.1).2.2
      have hl : 0 ≤ a ∧ a ≤ 5 := by simpa [Lab.ok] using h.1.2
      have hm : 0 ≤ b ∧ b ≤ 5 := by simpa [Lab.ok] using h.2
      exact this.2 (a * 6 + b).toNat (by omega)
    · omega
theorem Co.cs_nonneg (k : Co) : (Co.cs k).nonneg := ⟨fun a => ((Co.nonneg' k).1 a).1, fun a => ((Co.nonneg' k).2.1 a).1, fun a b => ((Co.nonneg' k).2.2 a b).1⟩
theorem Co.del_at {k : Co} (h : Co.ok k = true) {u : Nat} (hu : u < 6) : Co.del k u = Zs.at k.d u := by
  unfold Co.del
  have : Lab.ok (u : Int) = true := by simp [Lab.ok]; omega
  rw [h, this]; rfl
theorem Co.ins_at {k : Co} (h : Co.ok k = true) {u : Nat} (hu : u < 6) : Co.ins k u = Zs.at k.i u := by
  unfold Co.ins
  have : Lab.ok (u : Int) = true := by simp [Lab.ok]; omega
  rw [h, this]; rfl
theorem Co.rel_at {k : Co} (h : Co.ok k = true) {u v : Nat} (hu : u < 6) (hv : v < 6) : Co.rel k u v = Zs.at k.r (u * 6 + v) := by
  unfold Co.rel
  have h1 : Lab.ok (u : Int) = true := by simp [Lab.ok]; omega
  have h2 : Lab.ok (v : Int) = true := by simp [Lab.ok]; omega
  rw [h, h1, h2]; rfl
section
variable {xs : Tr} (hok : Tr.ok xs = true)
include hok
theorem Tr.len24 : 1 ≤ xs.length ∧ xs.length ≤ 24 := (Tr.ok_iff.1 hok).2
theorem Tr.xa_lab {p : Nat} (hp : p < xs.length) : ∃ u : Nat, u < 6 ∧ Tr.xa xs p = (u : Int) := by
  obtain ⟨i, h1, _, _, h4, _⟩ := Tr.la_at hok hp
  have := (Tr.ok_at hok h1).1
  exact ⟨(Tr.l xs i).toNat, by omega, by rw [h4]; omega⟩
theorem Tr.xa_last : Tr.xa xs (xs.length - 1) = Tr.l xs 0 := by
  have h1 := (Tr.ok_iff.1 hok).2
  obtain ⟨i, a, b, _, d, _⟩ := Tr.la_at hok (p := xs.length - 1) (by omega)
  have h0 := Tr.rk_inj hok (i := 0) (j := i) (by omega) a (by
    rw [b]
    unfold Tr.rk
    rw [Tr.endN_zero hok, Tr.dn_zero hok]
    omega)
  rw [d, ← h0]
theorem Tr.lfs_len : (Tr.lfs xs).length = xs.length := by rw [Tr.lfs_length, Tr.post_length hok]
theorem Tr.lab_len : (Tr.lab xs).length = xs.length := by rw [Tr.lab_length, Tr.post_length hok]
theorem Tr.la_up {p : Nat} (hp : p < xs.length) : Zs.at (Zs.up (Tr.lfs xs)) p = (Tr.la xs p : Int) := by
  have hl := Tr.lfs_len hok
  rw [Zs.up_at _ _ (by omega)]
  unfold Tr.la
  rw [List.getD_eq_getElem?_getD, List.getElem?_eq_getElem (by omega)]
  rfl
theorem Tr.krs_lt {q : Nat} (hq : q ∈ Tr.krs xs) : q < xs.length := by
  have hlen := Tr.lfs_len hok
  unfold Tr.krs Tr.krTo at hq
  rw [hlen] at hq
  simp only [List.mem_filter, List.mem_range] at hq
  exact hq.1
end
section
variable {xs ys : Tr} {k : Co}
theorem RR_bound (hx : Tr.ok xs = true) (hy : Tr.ok ys = true) {p a q b : Nat} (h1 : p ≤ a) (h2 : a ≤ xs.length) (h3 : q ≤ b) (h4 : b ≤ ys.length) : 0 ≤ RR xs ys k p a q b ∧ RR xs ys k p a q b ≤ 48000 := by
  have n1 := (Tr.len24 hx).2
  have n2 := (Tr.len24 hy).2
  have s1 := fr_size (la := Tr.la xs) (x := Tr.xa xs) (Tr.la_nest hx) _ p a rfl h1 h2
  have s2 := fr_size (la := Tr.la ys) (x := Tr.xa ys) (Tr.la_nest hy) _ q b rfl h3 h4
  have u := FD_le (K := Co.cs k) (M := 1000) (fun a => ((Co.nonneg' k).1 a).2) (fun a => ((Co.nonneg' k).2.1 a).2) _ (fr (Tr.la xs) (Tr.xa xs) p a) (fr (Tr.la ys) (Tr.xa ys) q b) rfl
  have l := FD_nonneg (Co.cs_nonneg k) _ (fr (Tr.la xs) (Tr.xa xs) p a) (fr (Tr.la ys) (Tr.xa ys) q b) rfl
  unfold RR RD
  rw [s1, s2] at u
  omega
theorem TT_eq (a b : Nat) : TT xs ys k a b = RR xs ys k (Tr.la xs a) (a + 1) (Tr.la ys b) (b + 1) := rfl
theorem TT_bound (hx : Tr.ok xs = true) (hy : Tr.ok ys = true) {a b : Nat} (h1 : a < xs.length) (h2 : b < ys.length) : 0 ≤ TT xs ys k a b ∧ TT xs ys k a b ≤ 48000 := by
  have := (Tr.la_nest hx a h1).1
  have := (Tr.la_nest hy b h2).1
  rw [TT_eq]
  exact RR_bound hx hy (by omega) (by omega) (by omega) (by omega)
end
theorem idx_inj {m a b x y : Nat} (hb : b < m) (hy : y < m) (h : a * m + b = x * m + y) : a = x ∧ b = y := by
  have h1 : (b + m * a) / m = (y + m * x) / m := by rw [Nat.mul_comm m a, Nat.mul_comm m x]; congr 1; omega
  rw [Nat.add_mul_div_left _ _ (by omega), Nat.add_mul_div_left _ _ (by omega), Nat.div_eq_of_lt hb, Nat.div_eq_of_lt hy] at h1
  have : a = x := by omega
  subst this
  exact ⟨rfl, by omega⟩
theorem idx_lt {n m a b : Nat} (ha : a < n) (hb : b < m) : a * m + b < n * m := by
  have : (a + 1) * m ≤ n * m := Nat.mul_le_mul_right m (by omega)
  rw [Nat.add_mul] at this
  omega
/-- a table of forests from places p and q on under way at places x and y of key roots i and j, and the trees -/
structure Fill (xs ys : Tr) (k : Co) (i j x y : Nat) (F : Nat → Nat → Int) (T0 T : List Int) : Prop where
  f : ∀ a b, Tr.la xs i ≤ a → a ≤ i + 1 → Tr.la ys j ≤ b → b ≤ j + 1 → (a ≤ x ∨ (a = x + 1 ∧ b ≤ y) ∨ b = Tr.la ys j) → F a b = RR xs ys k (Tr.la xs i) a (Tr.la ys j) b
  len : T.length = xs.length * ys.length
  t1 : ∀ a b, a ≤ i → b ≤ j → Tr.la xs a = Tr.la xs i → Tr.la ys b = Tr.la ys j → (a < x ∨ (a = x ∧ b < y)) → Zs.at T (a * ys.length + b) = TT xs ys k a b
  t2 : ∀ a b, a < xs.length → b < ys.length → ¬ (a ≤ i ∧ b ≤ j ∧ Tr.la xs a = Tr.la xs i ∧ Tr.la ys b = Tr.la ys j) → Zs.at T (a * ys.length + b) = Zs.at T0 (a * ys.length + b)
/-- what the trees hold ahead of the table of key roots i and j -/
def Ahead (xs ys : Tr) (k : Co) (i j : Nat) (T : List Int) : Prop :=
  ∀ a b, Tr.la xs i ≤ a → a ≤ i → Tr.la ys j ≤ b → b ≤ j → ¬ (Tr.la xs a = Tr.la xs i ∧ Tr.la ys b = Tr.la ys j) → Zs.at T (a * ys.length + b) = TT xs ys k a b
theorem Zs.at_set {T : List Int} {u v : Nat} {z : Int} (hv : v < T.length) : Zs.at (T.set v z) u = if u = v then z else Zs.at T u := by
  unfold Zs.at
  rw [List.getD_eq_getElem?_getD, List.getD_eq_getElem?_getD, List.getElem?_set]
  by_cases e : v = u
  · subst e; rw [if_pos rfl, if_pos hv, if_pos rfl]; rfl
  · rw [if_neg e, if_neg (fun h => e h.symm)]
section
variable {xs ys : Tr} {k : Co} {i j x y : Nat} {F F' : Nat → Nat → Int} {T0 T : List Int} (hx : Tr.ok xs = true) (hy : Tr.ok ys = true) (hi : i < xs.length) (hj : j < ys.length)
include hx hy hi hj
/-- the facts of one cell -/
theorem Fill.geo (px : Tr.la xs i ≤ x) (xi : x ≤ i) (qy : Tr.la ys j ≤ y) (yj : y ≤ j) : Tr.la xs i ≤ Tr.la xs x ∧ Tr.la xs x ≤ x ∧ Tr.la ys j ≤ Tr.la ys y ∧ Tr.la ys y ≤ y := by
  have A := Tr.la_nest hx
  have B := Tr.la_nest hy
  have a1 : Tr.la xs i ≤ Tr.la xs x := by
    rcases Nat.lt_or_ge x i with h | h
    · exact (A i hi).2 x px h
    · rw [show x = i by omega]; exact Nat.le_refl _
  have b1 : Tr.la ys j ≤ Tr.la ys y := by
    rcases Nat.lt_or_ge y j with h | h
    · exact (B j hj).2 y qy h
    · rw [show y = j by omega]; exact Nat.le_refl _
  exact ⟨a1, (A x (by omega)).1, b1, (B y (by omega)).1⟩
theorem Fill.reads (h : Fill xs ys k i j x y F T0 T) (px : Tr.la xs i ≤ x) (xi : x ≤ i) (qy : Tr.la ys j ≤ y) (yj : y ≤ j) :
    F x (y + 1) = RR xs ys k (Tr.la xs i) x (Tr.la ys j) (y + 1) ∧ F (x + 1) y = RR xs ys k (Tr.la xs i) (x + 1) (Tr.la ys j) y ∧ F x y = RR xs ys k (Tr.la xs i) x (Tr.la ys j) y ∧
    F (Tr.la xs x) (Tr.la ys y) = RR xs ys k (Tr.la xs i) (Tr.la xs x) (Tr.la ys j) (Tr.la ys y) := by
  obtain ⟨g1, g2, g3, g4⟩ := Fill.geo hx hy hi hj px xi qy yj
  exact ⟨h.f _ _ (by omega) (by omega) (by omega) (by omega) (.inl (Nat.le_refl _)), h.f _ _ (by omega) (by omega) (by omega) (by omega) (.inr (.inl ⟨rfl, Nat.le_refl _⟩)),
    h.f _ _ (by omega) (by omega) (by omega) (by omega) (.inl (Nat.le_refl _)), h.f _ _ (by omega) (by omega) (by omega) (by omega) (.inl g2)⟩
theorem Fill.first (hA : Ahead xs ys k i j T0) (h : Fill xs ys k i j x y F T0 T) (px : Tr.la xs i ≤ x) (xi : x ≤ i) (qy : Tr.la ys j ≤ y) (yj : y ≤ j)
    (e : Tr.la xs x = Tr.la xs i ∧ Tr.la ys y = Tr.la ys j) {v : Int} (hv : v = min (min (F x (y + 1) + Co.del k (Tr.xa xs x)) (F (x + 1) y + Co.ins k (Tr.xa ys y))) (F x y + Co.rel k (Tr.xa xs x) (Tr.xa ys y)))
    (hF : ∀ a b, Tr.la xs i ≤ a → a ≤ i + 1 → Tr.la ys j ≤ b → b ≤ j + 1 → F' a b = if a = x + 1 ∧ b = y + 1 then v else F a b) :
    v = TT xs ys k x y ∧ Fill xs ys k i j x (y + 1) F' T0 (T.set (x * ys.length + y) v) := by
  obtain ⟨g1, g2, g3, g4⟩ := Fill.geo hx hy hi hj px xi qy yj
  obtain ⟨r1, r2, r3, _⟩ := Fill.reads hx hy hi hj h px xi qy yj
  have hvT : v = TT xs ys k x y := by
    rw [hv, r1, r2, r3, ← e.1, ← e.2]
    unfold TT
    rw [TD_rec (Tr.la_nest hx) (Tr.la_nest hy) (by omega) (by omega)]
    rfl
  have hvR : v = RR xs ys k (Tr.la xs i) (x + 1) (Tr.la ys j) (y + 1) := by rw [hvT, TT_eq, e.1, e.2]
  have hlt : x * ys.length + y < T.length := by rw [h.len]; exact idx_lt (by omega) (by omega)
  refine ⟨hvT, ⟨fun a b a1 a2 b1 b2 hc => ?_, by rw [List.length_set, h.len], fun a b a1 b1 la lb hc => ?_, fun a b a1 b1 hn => ?_⟩⟩
  · rw [hF a b a1 a2 b1 b2]
    by_cases c : a = x + 1 ∧ b = y + 1
    · rw [if_pos c, c.1, c.2]; exact hvR
    · rw [if_neg c]; exact h.f a b a1 a2 b1 b2 (by omega)
  · rw [Zs.at_set hlt]
    by_cases c : a * ys.length + b = x * ys.length + y
    · obtain ⟨rfl, rfl⟩ := idx_inj (by omega) (by omega) c
      rw [if_pos rfl]; exact hvT
    · rw [if_neg c]
      refine h.t1 a b a1 b1 la lb ?_
      have : ¬ (a = x ∧ b = y) := fun e => c (by rw [e.1, e.2])
      omega
  · rw [Zs.at_set hlt, if_neg, h.t2 a b a1 b1 hn]
    intro c
    obtain ⟨rfl, rfl⟩ := idx_inj (by omega) (by omega) c
    exact hn ⟨xi, yj, e.1, e.2⟩
theorem Fill.other (hA : Ahead xs ys k i j T0) (h : Fill xs ys k i j x y F T0 T) (px : Tr.la xs i ≤ x) (xi : x ≤ i) (qy : Tr.la ys j ≤ y) (yj : y ≤ j)
    (e : ¬ (Tr.la xs x = Tr.la xs i ∧ Tr.la ys y = Tr.la ys j)) {v : Int} (hv : v = min (min (F x (y + 1) + Co.del k (Tr.xa xs x)) (F (x + 1) y + Co.ins k (Tr.xa ys y))) (F (Tr.la xs x) (Tr.la ys y) + Zs.at T (x * ys.length + y)))
    (hF : ∀ a b, Tr.la xs i ≤ a → a ≤ i + 1 → Tr.la ys j ≤ b → b ≤ j + 1 → F' a b = if a = x + 1 ∧ b = y + 1 then v else F a b) :
    Fill xs ys k i j x (y + 1) F' T0 T := by
  obtain ⟨g1, g2, g3, g4⟩ := Fill.geo hx hy hi hj px xi qy yj
  obtain ⟨r1, r2, _, r4⟩ := Fill.reads hx hy hi hj h px xi qy yj
  have hT : Zs.at T (x * ys.length + y) = TT xs ys k x y := by
    rw [h.t2 x y (by omega) (by omega) (fun c => e ⟨c.2.2.1, c.2.2.2⟩)]
    exact hA x y px xi qy yj e
  have hvR : v = RR xs ys k (Tr.la xs i) (x + 1) (Tr.la ys j) (y + 1) := by
    rw [hv, r1, r2, r4, hT]
    unfold RR TT
    rw [RD_trees (Tr.la_nest hx) (Tr.la_nest hy) g1 (by omega) g3 (by omega)]
    rfl
  refine ⟨fun a b a1 a2 b1 b2 hc => ?_, h.len, fun a b a1 b1 la lb hc => ?_, h.t2⟩
  · rw [hF a b a1 a2 b1 b2]
    by_cases c : a = x + 1 ∧ b = y + 1
    · rw [if_pos c, c.1, c.2]; exact hvR
    · rw [if_neg c]; exact h.f a b a1 a2 b1 b2 (by omega)
  · refine h.t1 a b a1 b1 la lb ?_
    have : ¬ (a = x ∧ b = y) := fun c => e (by rw [← c.1, ← c.2]; exact ⟨la, lb⟩)
    omega
/-- borders done, no cell yet -/
theorem Fill.start (hl : T.length = xs.length * ys.length) (h1 : ∀ a, Tr.la xs i ≤ a → a ≤ i + 1 → F a (Tr.la ys j) = RR xs ys k (Tr.la xs i) a (Tr.la ys j) (Tr.la ys j))
    (h2 : ∀ b, Tr.la ys j ≤ b → b ≤ j + 1 → F (Tr.la xs i) b = RR xs ys k (Tr.la xs i) (Tr.la xs i) (Tr.la ys j) b) : Fill xs ys k i j (Tr.la xs i) (Tr.la ys j) F T T := by
  refine ⟨fun a b a1 a2 b1 b2 hc => ?_, hl, fun a b a1 b1 la lb hc => ?_, fun _ _ _ _ _ => rfl⟩
  · rcases hc with c | c | c
    · have : a = Tr.la xs i := by omega
      subst this; exact h2 b b1 b2
    · have : b = Tr.la ys j := by omega
      subst this; exact h1 a a1 a2
    · subst c; exact h1 a a1 a2
  · have := (Tr.la_nest hx a (by omega)).1
    have := (Tr.la_nest hy b (by omega)).1
    omega
end
section
variable {xs ys : Tr} {k : Co} {i j x y : Nat} {F F' : Nat → Nat → Int} {T0 T : List Int}
/-- the value that is read of the trees -/
theorem Fill.tree (hi : i < xs.length) (hj : j < ys.length) (hA : Ahead xs ys k i j T0) (h : Fill xs ys k i j x y F T0 T) (px : Tr.la xs i ≤ x) (xi : x ≤ i) (qy : Tr.la ys j ≤ y) (yj : y ≤ j) (e : ¬ (Tr.la xs x = Tr.la xs i ∧ Tr.la ys y = Tr.la ys j)) :
    Zs.at T (x * ys.length + y) = TT xs ys k x y := by
  rw [h.t2 x y (by omega) (by omega) (fun c => e ⟨c.2.2.1, c.2.2.2⟩)]
  exact hA x y px xi qy yj e
theorem Fill.next (hy : Tr.ok ys = true) (hj : j < ys.length) (h : Fill xs ys k i j x (j + 1) F T0 T) : Fill xs ys k i j (x + 1) (Tr.la ys j) F T0 T := by
  have g := (Tr.la_nest hy j hj).1
  refine ⟨fun a b a1 a2 b1 b2 hc => h.f a b a1 a2 b1 b2 (by omega), h.len, fun a b a1 b1 la lb hc => ?_, h.t2⟩
  have := (Tr.la_nest hy b (by omega)).1
  exact h.t1 a b a1 b1 la lb (by omega)
theorem RR_zero : RR xs ys k (Tr.la xs i) (Tr.la xs i) (Tr.la ys j) (Tr.la ys j) = 0 := RD_none (Nat.le_refl _) (Nat.le_refl _)
theorem RR_left (hx : Tr.ok xs = true) (hi : i < xs.length) (px : Tr.la xs i ≤ x) (xi : x ≤ i) : RR xs ys k (Tr.la xs i) (x + 1) (Tr.la ys j) (Tr.la ys j) = RR xs ys k (Tr.la xs i) x (Tr.la ys j) (Tr.la ys j) + Co.del k (Tr.xa xs x) :=
  RD_left (Tr.la_nest hx) px (by omega) (Nat.le_refl _)
theorem RR_right (hy : Tr.ok ys = true) (hj : j < ys.length) (qy : Tr.la ys j ≤ y) (yj : y ≤ j) : RR xs ys k (Tr.la xs i) (Tr.la xs i) (Tr.la ys j) (y + 1) = RR xs ys k (Tr.la xs i) (Tr.la xs i) (Tr.la ys j) y + Co.ins k (Tr.xa ys y) :=
  RD_right (Tr.la_nest hy) (Nat.le_refl _) qy (by omega)
end
/-! over the pairs of key roots -/
def Tr.kr (xs : Tr) (a : Nat) : Nat := (Tr.krs xs).getD a 0
theorem Tr.kr_mem {xs : Tr} {a : Nat} (h : a < (Tr.krs xs).length) : Tr.kr xs a ∈ Tr.krs xs := by
  unfold Tr.kr
  rw [List.getD_eq_getElem?_getD, List.getElem?_eq_getElem h]
  exact List.getElem_mem h
theorem Tr.kr_rise {xs : Tr} {a b : Nat} (hab : a < b) (hb : b < (Tr.krs xs).length) : Tr.kr xs a < Tr.kr xs b := by
  have := Tr.krs_rise hab hb
  unfold Tr.kr
  rw [List.getD_eq_getElem?_getD, List.getD_eq_getElem?_getD, List.getElem?_eq_getElem hb, List.getElem?_eq_getElem (by omega)]
  exact this
theorem Tr.kr_up {xs : Tr} {a : Nat} (h : a < (Tr.krs xs).length) : Zs.at (Zs.up (Tr.krs xs)) a = (Tr.kr xs a : Int) := by
  rw [Zs.up_at _ _ h]
  unfold Tr.kr
  rw [List.getD_eq_getElem?_getD, List.getElem?_eq_getElem h]
  rfl
/-- the trees after the first pairs of key roots: all of the first kk, and the first ll beside the next one -/
structure Roots (xs ys : Tr) (k : Co) (kk ll : Nat) (T : List Int) : Prop where
  len : T.length = xs.length * ys.length
  t : ∀ a b a' b', a < xs.length → b < ys.length → a' < (Tr.krs xs).length → b' < (Tr.krs ys).length → (a' < kk ∨ (a' = kk ∧ b' < ll)) → a ≤ Tr.kr xs a' → b ≤ Tr.kr ys b' → Tr.la xs a = Tr.la xs (Tr.kr xs a') → Tr.la ys b = Tr.la ys (Tr.kr ys b') →
    Zs.at T (a * ys.length + b) = TT xs ys k a b
/-- the place of a key root -/
theorem Tr.kr_of {xs : Tr} (hok : Tr.ok xs = true) {p : Nat} (hp : p < xs.length) : ∃ a, a < (Tr.krs xs).length ∧ p ≤ Tr.kr xs a ∧ Tr.la xs (Tr.kr xs a) = Tr.la xs p := by
  obtain ⟨q, h1, h2, h3, h4⟩ := Tr.kr_ex hok hp
  obtain ⟨a, ha, e⟩ := List.getElem_of_mem h1
  refine ⟨a, ha, ?_⟩
  have : Tr.kr xs a = q := by
    unfold Tr.kr
    rw [List.getD_eq_getElem?_getD, List.getElem?_eq_getElem ha, e]
    rfl
  rw [this]
  exact ⟨h2, h4⟩
/-- two key roots with the same first leaf are one -/
theorem Tr.kr_same {xs : Tr} (hok : Tr.ok xs = true) {a b : Nat} (ha : a < (Tr.krs xs).length) (hb : b < (Tr.krs xs).length) (h : Tr.la xs (Tr.kr xs a) = Tr.la xs (Tr.kr xs b)) : a = b := by
  rcases Nat.lt_trichotomy a b with c | c | c
  · exact absurd h.symm (Tr.kr_last hok (Tr.kr_mem ha) (Tr.krs_lt hok (Tr.kr_mem hb)) (Tr.kr_rise c hb))
  · exact c
  · exact absurd h (Tr.kr_last hok (Tr.kr_mem hb) (Tr.krs_lt hok (Tr.kr_mem ha)) (Tr.kr_rise c ha))
section
variable {xs ys : Tr} {k : Co} {kk ll : Nat} {T T' : List Int} (hx : Tr.ok xs = true) (hy : Tr.ok ys = true)
include hx hy
theorem Roots.ahead (hk : kk < (Tr.krs xs).length) (hl : ll < (Tr.krs ys).length) (h : Roots xs ys k kk ll T) : Ahead xs ys k (Tr.kr xs kk) (Tr.kr ys ll) T := by
  intro a b a1 a2 b1 b2 hn
  have i1 := Tr.krs_lt hx (Tr.kr_mem hk)
  have j1 := Tr.krs_lt hy (Tr.kr_mem hl)
  obtain ⟨a', c1, c2, c3⟩ := Tr.kr_of hx (p := a) (by omega)
  obtain ⟨b', d1, d2, d3⟩ := Tr.kr_of hy (p := b) (by omega)
  refine h.t a b a' b' (by omega) (by omega) c1 d1 ?_ c2 d2 c3.symm d3.symm
  by_cases e : Tr.la xs a = Tr.la xs (Tr.kr xs kk)
  · have hkk := Tr.kr_same hx c1 hk (c3.trans e)
    have e2 : Tr.la ys b ≠ Tr.la ys (Tr.kr ys ll) := fun e2 => hn ⟨e, e2⟩
    have := Tr.kr_under hy j1 b1 b2 e2 (Tr.krs_lt hy (Tr.kr_mem d1)) d2 d3
    refine .inr ⟨hkk, ?_⟩
    rcases Nat.lt_trichotomy b' ll with g | g | g
    · exact g
    · subst g; omega
    · have := Tr.kr_rise g d1; omega
  · have := Tr.kr_under hx i1 a1 a2 e (Tr.krs_lt hx (Tr.kr_mem c1)) c2 c3
    refine .inl ?_
    rcases Nat.lt_trichotomy a' kk with g | g | g
    · exact g
    · subst g; omega
    · have := Tr.kr_rise g c1; omega
theorem Roots.all (h : Roots xs ys k (Tr.krs xs).length 0 T) {a b : Nat} (ha : a < xs.length) (hb : b < ys.length) : Zs.at T (a * ys.length + b) = TT xs ys k a b := by
  obtain ⟨a', c1, c2, c3⟩ := Tr.kr_of hx ha
  obtain ⟨b', d1, d2, d3⟩ := Tr.kr_of hy hb
  exact h.t a b a' b' ha hb c1 d1 (.inl c1) c2 d2 c3.symm d3.symm
end
section
variable {xs ys : Tr} {k : Co} {kk ll : Nat} {T T' : List Int}
theorem Roots.step (hk : kk < (Tr.krs xs).length) (hl : ll < (Tr.krs ys).length) (h : Roots xs ys k kk ll T) {F : Nat → Nat → Int} {y : Nat}
    (hf : Fill xs ys k (Tr.kr xs kk) (Tr.kr ys ll) (Tr.kr xs kk + 1) y F T T') : Roots xs ys k kk (ll + 1) T' := by
  refine ⟨hf.len, fun a b a' b' ha hb ha' hb' hc a1 b1 la lb => ?_⟩
  by_cases e : a ≤ Tr.kr xs kk ∧ b ≤ Tr.kr ys ll ∧ Tr.la xs a = Tr.la xs (Tr.kr xs kk) ∧ Tr.la ys b = Tr.la ys (Tr.kr ys ll)
  · exact hf.t1 a b e.1 e.2.1 e.2.2.1 e.2.2.2 (.inl (by omega))
  · rw [hf.t2 a b ha hb e]
    refine h.t a b a' b' ha hb ha' hb' ?_ a1 b1 la lb
    rcases hc with c | ⟨c1, c2⟩
    · exact .inl c
    · refine .inr ⟨c1, ?_⟩
      subst c1
      rcases Nat.lt_or_ge b' ll with g | g
      · exact g
      · have : b' = ll := by omega
        subst this
        exact absurd ⟨a1, b1, la, lb⟩ e
theorem Roots.next (h : Roots xs ys k kk (Tr.krs ys).length T) : Roots xs ys k (kk + 1) 0 T :=
  ⟨h.len, fun a b a' b' ha hb ha' hb' hc a1 b1 la lb => h.t a b a' b' ha hb ha' hb' (by omega) a1 b1 la lb⟩
theorem Roots.start (hl : T.length = xs.length * ys.length) : Roots xs ys k 0 0 T := ⟨hl, fun a b a' b' _ _ _ _ hc => by omega⟩
end
/-- all distances of subtrees -/
def Tr.tds (xs ys : Tr) (k : Co) : List Int := (List.range (xs.length * ys.length)).map fun t => TT xs ys k (t / ys.length) (t % ys.length)
def Tr.dists (xs ys : Tr) (k : Co) : List Int := if Tr.ok xs && Tr.ok ys && Co.ok k then Tr.tds xs ys k else []
def Tr.dist (xs ys : Tr) (k : Co) : Int := if Tr.ok xs && Tr.ok ys && Co.ok k then TT xs ys k (xs.length - 1) (ys.length - 1) else -1
def Tr.rootDist (xs ys : Tr) (k : Co) : Int := if Tr.ok xs && Tr.ok ys && Co.ok k then RR xs ys k 0 (xs.length - 1) 0 (ys.length - 1) + Co.rel k (Tr.l xs 0) (Tr.l ys 0) else -1
theorem Roots.tds {xs ys : Tr} {k : Co} {T : List Int} (hx : Tr.ok xs = true) (hy : Tr.ok ys = true) (h : Roots xs ys k (Tr.krs xs).length 0 T) : T = Tr.tds xs ys k := by
  have hm := (Tr.len24 hy).1
  refine Zs.ext (by rw [h.len]; simp [Tr.tds]) fun t ht => ?_
  rw [h.len] at ht
  have h1 : t / ys.length < xs.length := Nat.div_lt_of_lt_mul (by rw [Nat.mul_comm]; exact ht)
  have h2 : t % ys.length < ys.length := Nat.mod_lt _ (by omega)
  have e := Nat.div_add_mod t ys.length
  have := Roots.all hx hy h h1 h2
  rw [Nat.mul_comm, e] at this
  rw [this]
  simp [Zs.at, Tr.tds, List.getD_eq_getElem?_getD, ht]
theorem Tr.tds_length (xs ys : Tr) (k : Co) : (Tr.tds xs ys k).length = xs.length * ys.length := by simp [Tr.tds]
theorem Tr.tds_last {xs ys : Tr} {k : Co} (hx : Tr.ok xs = true) (hy : Tr.ok ys = true) : Zs.at (Tr.tds xs ys k) (xs.length * ys.length - 1) = TT xs ys k (xs.length - 1) (ys.length - 1) := by
  have hn := (Tr.len24 hx).1
  have hm := (Tr.len24 hy).1
  obtain ⟨n, hn'⟩ : ∃ n, xs.length = n + 1 := ⟨xs.length - 1, by omega⟩
  have e : xs.length * ys.length - 1 = (ys.length - 1) + ys.length * n := by
    rw [hn', Nat.add_mul, Nat.mul_comm n]; omega
  have h1 : (xs.length * ys.length - 1) / ys.length = xs.length - 1 := by
    rw [e, Nat.add_mul_div_left _ _ (by omega), Nat.div_eq_of_lt (by omega)]; omega
  have h2 : (xs.length * ys.length - 1) % ys.length = ys.length - 1 := by
    rw [e, Nat.add_mul_mod_self_left, Nat.mod_eq_of_lt (by omega)]
  have hp : 0 < xs.length * ys.length := Nat.mul_pos (by omega) (by omega)
  have hlt : xs.length * ys.length - 1 < xs.length * ys.length := by omega
  have : Zs.at (Tr.tds xs ys k) (xs.length * ys.length - 1) = TT xs ys k ((xs.length * ys.length - 1) / ys.length) ((xs.length * ys.length - 1) % ys.length) := by
    simp [Zs.at, Tr.tds, List.getD_eq_getElem?_getD, hlt]
  rw [this, h1, h2]

end Go.Proofs.Ytkccnlcghlkioaa

/- Contracts (Cel). -/
namespace Go.Proofs.Ytkccnlcghlkioaa
open Go.RowKit
set_option linter.unusedVariables false

/-! How many cells the tables of all pairs of key roots have. -/
def Tr.kz (xs : Tr) (a : Nat) : Int := (Tr.kr xs a : Int) - (Tr.la xs (Tr.kr xs a) : Int) + 1
def Tr.keyTo (xs : Tr) : Nat → Int
  | 0 => 0
  | j + 1 => Tr.keyTo xs j + Tr.kz xs j
def Tr.keySz (xs : Tr) : Int := Tr.keyTo xs (Tr.krs xs).length
def Tr.cells8 (xs ys : Tr) : Int := Tr.keySz xs * Tr.keySz ys
theorem Tr.krs_no {xs : Tr} (h : Tr.ok xs = false) : Tr.krs xs = [] := by
  have e : Tr.post xs = [] := by unfold Tr.post; rw [h]; rfl
  unfold Tr.krs Tr.krTo Tr.lfs
  rw [e]
  rfl
theorem Tr.lfs_no {xs : Tr} (h : Tr.ok xs = false) : Tr.lfs xs = [] := by
  have e : Tr.post xs = [] := by unfold Tr.post; rw [h]; rfl
  unfold Tr.lfs
  rw [e]
  rfl
theorem Tr.keySz_no {xs : Tr} (h : Tr.ok xs = false) : Tr.keySz xs = 0 := by
  unfold Tr.keySz
  rw [Tr.krs_no h]
  rfl
theorem Tr.krs_le {xs : Tr} (h : Tr.ok xs = true) : (Tr.krs xs).length ≤ xs.length := by
  have h1 := Tr.krTo_le xs (Tr.lfs xs).length
  have h2 := Tr.lfs_len h
  unfold Tr.krs
  omega
theorem Tr.kz_bound {xs : Tr} (h : Tr.ok xs = true) {a : Nat} (ha : a < (Tr.krs xs).length) : 1 ≤ Tr.kz xs a ∧ Tr.kz xs a ≤ xs.length := by
  have h1 := Tr.krs_lt h (Tr.kr_mem ha)
  have h2 := (Tr.la_nest h _ h1).1
  unfold Tr.kz
  omega
theorem Tr.keyTo_bound {xs : Tr} (h : Tr.ok xs = true) : ∀ j, j ≤ (Tr.krs xs).length → 0 ≤ Tr.keyTo xs j ∧ Tr.keyTo xs j ≤ 24 * (j : Int) := by
  intro j
  induction j with
  | zero => intro _; simp [Tr.keyTo]
  | succ j ih =>
    intro hj
    have h1 := ih (by omega)
    have h2 := Tr.kz_bound h (a := j) (by omega)
    have h3 := (Tr.len24 h).2
    simp only [Tr.keyTo]
    omega
theorem Tr.keySz_bound (xs : Tr) : 0 ≤ Tr.keySz xs ∧ Tr.keySz xs ≤ 576 := by
  cases h : Tr.ok xs with
  | false => rw [Tr.keySz_no h]; omega
  | true =>
    have h1 := Tr.keyTo_bound h _ (Nat.le_refl _)
    have h2 := Tr.krs_le h
    have h3 := (Tr.len24 h).2
    unfold Tr.keySz
    omega

end Go.Proofs.Ytkccnlcghlkioaa

/- Contracts (CelP). -/
namespace Go.Proofs.Ytkccnlcghlkioaa
open Go.RowKit
set_option linter.unusedVariables false

/-! How many cells there are: no fewer than nodes, no more than nodes by height or by leaves. -/
theorem Tr.height_ge (xs : Tr) : ∀ m i, i < m → Tr.d xs i + 1 ≤ Tr.heightTo xs m := by
  intro m
  induction m with
  | zero => intro i h; omega
  | succ m ih =>
    intro i h
    simp only [Tr.heightTo]
    rcases Nat.lt_or_ge i m with c | c
    · have := ih i c; omega
    · have e : i = m := by omega
      subst e; omega
section
variable {xs : Tr} (hok : Tr.ok xs = true)
include hok
/-- the depth at a place -/
theorem Tr.dep_ex {p : Nat} (hp : p < xs.length) : ∃ i, i < xs.length ∧ Tr.rk xs i = p ∧ Tr.la xs p = i - Tr.dn xs i := by
  obtain ⟨i, a, b, c, _⟩ := Tr.la_at hok hp
  exact ⟨i, a, b, c⟩
theorem Tr.dep_lt {i j : Nat} (hi : i < xs.length) (hj : j < xs.length) (h1 : Tr.rk xs i < Tr.rk xs j) (h2 : j - Tr.dn xs j ≤ Tr.rk xs i) : Tr.dn xs j < Tr.dn xs i := by
  have a := Tr.endN_dn hok hi
  have b := Tr.endN_dn hok hj
  have da := Tr.dn_le hok hi
  have db := Tr.dn_le hok hj
  have e1 : Tr.rk xs i = Tr.endN xs i - 1 - Tr.dn xs i := rfl
  rcases Nat.lt_trichotomy i j with h | h | h
  · by_cases hu : j < Tr.endN xs i
    · have := Tr.rk_under hok hi h hu
      omega
    · have g := Tr.gap_mono hok (i := Tr.endN xs i) (j := j) (by omega) hj
      rcases a.2.2.2 with h6 | ⟨h6, h7⟩
      · omega
      · omega
  · subst h; omega
  · by_cases hu : i < Tr.endN xs j
    · exact b.2.2.1 i h hu
    · have := Tr.rk_left hok hj (by omega) hi
      omega
end
/-- how many of the first j key roots have place p -/
def Tr.covTo (xs : Tr) (p : Nat) : Nat → Nat
  | 0 => 0
  | j + 1 => Tr.covTo xs p j + if Tr.la xs (Tr.kr xs j) ≤ p ∧ p ≤ Tr.kr xs j then 1 else 0
def Tr.covAll (xs : Tr) (j : Nat) : Nat → Nat
  | 0 => 0
  | m + 1 => Tr.covAll xs j m + Tr.covTo xs m j
theorem Tr.cov_range (a b : Nat) : ∀ m, (a ≤ b → ∃ s : Nat → Nat, s 0 = 0 ∧ (∀ k, s (k + 1) = s k + if a ≤ k ∧ k ≤ b then 1 else 0) ∧ s m = min m (b + 1) - min m a) := by
  intro m hab
  refine ⟨fun k => min k (b + 1) - min k a, by simp, fun k => ?_, rfl⟩
  show min (k + 1) (b + 1) - min (k + 1) a = (min k (b + 1) - min k a) + _
  split <;> omega
section
variable {xs : Tr} (hok : Tr.ok xs = true)
include hok
theorem Tr.covAll_succ {j : Nat} (hj : j < (Tr.krs xs).length) : ∀ m, Tr.covAll xs (j + 1) m = Tr.covAll xs j m + (min m (Tr.kr xs j + 1) - min m (Tr.la xs (Tr.kr xs j))) := by
  intro m
  have h1 := (Tr.la_nest hok _ (Tr.krs_lt hok (Tr.kr_mem hj))).1
  induction m with
  | zero => simp [Tr.covAll]
  | succ m ih =>
    simp only [Tr.covAll, Tr.covTo, ih]
    split <;> omega
theorem Tr.covAll_eq : ∀ j, j ≤ (Tr.krs xs).length → Tr.keyTo xs j = (Tr.covAll xs j xs.length : Int) := by
  intro j
  induction j with
  | zero =>
    intro _
    have : ∀ m, Tr.covAll xs 0 m = 0 := by
      intro m
      induction m with
      | zero => rfl
      | succ m ih => simp only [Tr.covAll, Tr.covTo, ih]
    rw [this]
    rfl
  | succ j ih =>
    intro hj
    have h1 := Tr.krs_lt hok (Tr.kr_mem (xs := xs) (a := j) (by omega))
    have h2 := (Tr.la_nest hok _ h1).1
    rw [Tr.covAll_succ hok (by omega)]
    simp only [Tr.keyTo]
    rw [ih (by omega)]
    unfold Tr.kz
    omega
/-- a place lies under no more key roots than the tree is high -/
theorem Tr.covTo_le {p : Nat} (hp : p < xs.length) : ∀ j, j ≤ (Tr.krs xs).length → Tr.covTo xs p j = 0 ∨ ∃ a i, a < j ∧ i < xs.length ∧ Tr.rk xs i = Tr.kr xs a ∧ Tr.la xs (Tr.kr xs a) ≤ p ∧ p ≤ Tr.kr xs a ∧ (Tr.dn xs i : Int) + Tr.covTo xs p j ≤ Tr.heightTo xs xs.length := by
  intro j
  induction j with
  | zero => intro _; exact .inl rfl
  | succ j ih =>
    intro hj
    have hjl : j < (Tr.krs xs).length := by omega
    by_cases c : Tr.la xs (Tr.kr xs j) ≤ p ∧ p ≤ Tr.kr xs j
    · have hs : Tr.covTo xs p (j + 1) = Tr.covTo xs p j + 1 := by simp only [Tr.covTo]; rw [if_pos c]
      obtain ⟨i, hi, hr, hl⟩ := Tr.dep_ex hok (Tr.krs_lt hok (Tr.kr_mem hjl))
      have hd := Tr.dn_eq hok hi
      have hh := Tr.height_ge xs xs.length i hi
      rcases ih (by omega) with h0 | ⟨a, i', ha, hi', hr', c1, c2, hle⟩
      · refine .inr ⟨j, i, by omega, hi, hr, c.1, c.2, ?_⟩
        rw [hs, h0]; omega
      · refine .inr ⟨j, i, by omega, hi, hr, c.1, c.2, ?_⟩
        have hrise := Tr.kr_rise (xs := xs) ha hjl
        have := Tr.dep_lt hok hi' hi (by rw [hr, hr']; exact hrise) (by rw [← hl, hr']; omega)
        rw [hs]; omega
    · have hs : Tr.covTo xs p (j + 1) = Tr.covTo xs p j := by simp only [Tr.covTo]; rw [if_neg c]; rfl
      rcases ih (by omega) with h0 | ⟨a, i', ha, hi', hr', c1, c2, hle⟩
      · exact .inl (by rw [hs, h0])
      · exact .inr ⟨a, i', by omega, hi', hr', c1, c2, by rw [hs]; exact hle⟩
theorem Tr.height_pos : 1 ≤ Tr.heightTo xs xs.length := by
  have h1 := (Tr.len24 hok).1
  have h2 := Tr.height_ge xs xs.length 0 (by omega)
  have h3 := (Tr.ok_at hok (k := 0) (by omega)).2.1
  omega
theorem Tr.keySz_height : Tr.keySz xs ≤ (xs.length : Int) * Tr.heightTo xs xs.length := by
  have key : ∀ m, m ≤ xs.length → (Tr.covAll xs (Tr.krs xs).length m : Int) ≤ (m : Int) * Tr.heightTo xs xs.length := by
    intro m
    induction m with
    | zero => intro _; simp [Tr.covAll]
    | succ m ih =>
      intro hm
      have h1 := ih (by omega)
      have h2 : (Tr.covTo xs m (Tr.krs xs).length : Int) ≤ Tr.heightTo xs xs.length := by
        rcases Tr.covTo_le hok (p := m) (by omega) _ (Nat.le_refl _) with h | ⟨_, i, _, _, _, _, _, h⟩
        · have := Tr.height_pos hok; omega
        · omega
      simp only [Tr.covAll]
      rw [Int.natCast_add, Int.natCast_add, Int.add_mul]
      omega
  unfold Tr.keySz
  rw [Tr.covAll_eq hok _ (Nat.le_refl _)]
  exact key _ (Nat.le_refl _)
theorem Tr.keySz_leaves : Tr.keySz xs ≤ (xs.length : Int) * (Tr.leavesTo xs xs.length : Nat) := by
  have key : ∀ j, j ≤ (Tr.krs xs).length → Tr.keyTo xs j ≤ (xs.length : Int) * (j : Int) := by
    intro j
    induction j with
    | zero => intro _; simp [Tr.keyTo]
    | succ j ih =>
      intro hj
      have h1 := ih (by omega)
      have h2 := Tr.kz_bound hok (a := j) (by omega)
      simp only [Tr.keyTo]
      rw [Int.natCast_add, Int.mul_add]
      omega
  have := key _ (Nat.le_refl _)
  rw [← Tr.krs_leaves hok]
  exact this
theorem Tr.keySz_ge : (xs.length : Int) ≤ Tr.keySz xs := by
  obtain ⟨r, hr⟩ := Tr.krs_last hok
  have hl : (Tr.krs xs).length = r.length + 1 := by rw [hr]; simp
  have hk : Tr.kr xs r.length = xs.length - 1 := by
    unfold Tr.kr
    rw [hr, List.getD_eq_getElem?_getD, List.getElem?_append_right (Nat.le_refl _), Nat.sub_self]
    rfl
  have h0 := Tr.keyTo_bound hok r.length (by omega)
  have hz : Tr.kz xs r.length = xs.length := by
    have := (Tr.len24 hok).1
    unfold Tr.kz
    rw [hk, Tr.la_last hok]
    omega
  unfold Tr.keySz
  rw [hl]
  simp only [Tr.keyTo]
  omega
end
/-- the law's sentence -/
theorem Tr.cells_law {xs ys : Tr} (hx : Tr.ok xs = true) (hy : Tr.ok ys = true) {n m h l h' l' : Int} (hn : n = xs.length) (hm : m = ys.length) (hh : h = Tr.heightTo xs xs.length) (hl : l = (Tr.leavesTo xs xs.length : Nat)) (hh' : h' = Tr.heightTo ys ys.length) (hl' : l' = (Tr.leavesTo ys ys.length : Nat)) :
    n * m ≤ Tr.cells8 xs ys ∧ Tr.cells8 xs ys ≤ n * m * min h l * min h' l' := by
  have a1 := Tr.keySz_ge hx
  have a2 := Tr.keySz_ge hy
  have b1 := Tr.keySz_height hx
  have b2 := Tr.keySz_leaves hx
  have c1 := Tr.keySz_height hy
  have c2 := Tr.keySz_leaves hy
  rw [← hn] at a1 b1 b2
  rw [← hm] at a2 c1 c2
  rw [← hh] at b1
  rw [← hl] at b2
  rw [← hh'] at c1
  rw [← hl'] at c2
  have hn0 : 0 ≤ n := by omega
  have hm0 : 0 ≤ m := by omega
  have d1 : Tr.keySz xs ≤ n * min h l := by
    rcases Int.le_total h l with e | e
    · rw [Int.min_eq_left e]; exact b1
    · rw [Int.min_eq_right e]; exact b2
  have d2 : Tr.keySz ys ≤ m * min h' l' := by
    rcases Int.le_total h' l' with e | e
    · rw [Int.min_eq_left e]; exact c1
    · rw [Int.min_eq_right e]; exact c2
  have k1 := Tr.keySz_bound xs
  have k2 := Tr.keySz_bound ys
  refine ⟨Int.mul_le_mul a1 a2 hm0 k1.1, ?_⟩
  have := Int.mul_le_mul d1 d2 k2.1 (by omega)
  unfold Tr.cells8
  rw [show n * m * min h l * min h' l' = n * min h l * (m * min h' l') by
    rw [Int.mul_assoc n m, Int.mul_comm m (min h l), ← Int.mul_assoc n, Int.mul_assoc]]
  exact this

end Go.Proofs.Ytkccnlcghlkioaa

/- Contracts (RankS). -/
namespace Go.Proofs.Ytkccnlcghlkioaa
open Go.RowKit
set_option linter.unusedVariables false

theorem made_ints (z n : Nat) : (madeCells (Value.int .i64 0).cells (n * 1)).toList = ints (List.replicate n 0) := by
  unfold madeCells ints
  refine List.ext_getElem (by simp) fun k h1 h2 => ?_
  simp at h1 h2 ⊢
  show (#[Value.int .i64 0] : Array Value)[k % 1]! = _
  rw [Nat.mod_one]
  rfl
set_option maxHeartbeats 1600000 in
set_option maxRecDepth 100000 in
theorem specRankOf_any (A : Option Addr) (n c : Nat) (xs : Tr) (w : World) (h : NdIn w w.heap.size A n xs) (hn : n ≤ 1048576) :
    Calls Try.prog 82 #[.slice A n c] w (OwnInts 3 (Zs.up (Tr.rks xs)) w) := by
  have H := Lib.hid h
  clear h
  have HB := Lib.hid (Below.refl w.heap.size w)
  obtain ⟨i0, hi, hz0, hz1, hz2⟩ := info_parts info_intP
  have Hi := Lib.hid hi
  clear hi
  have hml := Tr.post_len_le xs
  rw [H.out.1] at hml
  obtain ⟨m, hm⟩ : ∃ m, m = (Tr.post xs).length := ⟨_, rfl⟩
  have HM := Lib.hid hm
  rw [← hm] at hml
  have HS := Lib.hid (fun i k => Tr.rkTo_set (xs := xs) (i := i) (k := k))
  have HP := Lib.hid (fun k => Tr.post_at (xs := xs) (k := k))
  clear hm
  go_enter Try.func82, Try.ntmps82
  go_wp2_with fail
  refine (specPostOrder_any _ _ _ xs _ H.out hn).mono ?_
  rintro e w1 ⟨A1, c1, rfl, ho, hb⟩
  have hsx := HB.out.size
  have HB := Lib.hid (HB.out.trans (hb.mono hsx))
  have I1 := Lib.hid (IntIn.of_own ho)
  clear ho hsx
  clear hb
  rw [Zs.up_length, ← HM.out] at I1 ⊢
  have hsx := HB.out.size
  go_wp2_with (at_make; go_loud (refine wpList_make_full _ rfl _ _ 25 rfl w1.heap.size 3 i0 (.int .i64 0) 1 Try.underlying25 Hi.out hz0 hz1 _ _ _ _ m rfl rfl rfl rfl (by rw [hz2]; omega) (by unfold maxLen; omega) (Nat.le_refl _) ?_); intro w2 hown2 hgrow2)
  have hb2 : Below w1.heap.size w1 w2 := (Below.refl _ w1).grown hgrow2 (Nat.le_refl _) (fun _ h => by cases h)
  rw [made_ints 0, show List.replicate m (0 : Int) = Zs.up (Tr.rkTo xs 0) by rw [Tr.rkTo_zero, ← HM.out]; simp [Zs.up]] at hown2
  have HO2 := Lib.hid hown2
  have HB2 := Lib.hid hb2
  clear hown2 hgrow2 hb2
  go_wp2
  go_loopw [5] (fun kv wr => ∃ k : Nat, k ≤ m ∧ kv = .int .i64 k ∧ wr.ownsRow w1.heap.size 3 1 (.slice (some ⟨w1.heap.size, 0, none⟩) m m) m (ints (Zs.up (Tr.rkTo xs k))) ∧ Below w1.heap.size w1 wr) (fun k _ => m - (intOf k).toNat)
  case atStart => exact ⟨0, Nat.zero_le _, rfl, HO2.out, HB2.out⟩
  case round =>
    clear HO2 HB2
    obtain ⟨k, hk, rfl, hown, hB⟩ := hrel
    have Ho := Lib.hid hown
    have HB2 := Lib.hid hB
    clear hown hB
    by_cases hlt : k < m
    · obtain ⟨i, p1, p2, p3, p4, p5⟩ := HP.out k (by rw [← HM.out]; exact hlt)
      rw [← HM.out] at p1
      have hset := HS.out i k (by rw [← HM.out]; exact p1) p3
      obtain ⟨ad, rfl, _, c1⟩ := (I1.out.below HB2.out).at_ hlt
      have hz : Zs.at (Zs.up (Tr.post xs)) k = (i : Int) := by simp [Zs.at, Zs.up, List.getD_eq_getElem?_getD, p2]
      rw [hz] at c1
      have c0 := own_int Ho.out (k := i) (by rw [Zs.up_length, Tr.rkTo_length, ← HM.out]; exact p1)
      have f0 := Ho.out.frozenAt i
      have b0 : (0 : Int) ≤ (i : Int) := by omega
      have b1 : (i : Int) < (m : Int) := by omega
      have b2 : (0 : Int) ≤ (k : Int) := by omega
      have b3 : (k : Int) < (m : Int) := by omega
      have Hset := Lib.hid hset
      clear p2 p3 p4 p5 hset hz
      go_wp2
      go_roundw
      case rel =>
        refine ⟨k + 1, by omega, by go_num, ?_, HB2.out.setCell (Nat.le_refl _) _⟩
        have := (Ho.out.stored i (.int .i64 (k : Int))).1
        rw [ints_set] at this
        rw [← Hset.out, Zs.up, List.map_set]
        exact this
      case measure => simp [intOf]; omega
    · obtain rfl : k = m := by omega
      have Hall := Lib.hid (show Tr.rkTo xs k = Tr.rks xs by rw [HM.out]; exact Tr.rkTo_all xs)
      rw [Hall.out] at Ho
      have Hl := Lib.hid (show (Zs.up (Tr.rks xs)).length = k by rw [Zs.up_length, Tr.rks_length]; exact HM.out.symm)
      go_wp2
      go_ret
      exact ⟨some ⟨w1.heap.size, 0, none⟩, k, by rw [Hl.out]; rfl, by rw [Hl.out]; exact own_base Ho.out hsx, HB.out.trans (HB2.out.mono hsx)⟩

end Go.Proofs.Ytkccnlcghlkioaa

/- Contracts (LeafS). -/
namespace Go.Proofs.Ytkccnlcghlkioaa
open Go.RowKit
set_option linter.unusedVariables false

theorem apart_of {w : World} {base size n m size' : Nat} {e e' : TypeId} {a b : Value} {xs ys : List Value} {w2 : World} (ha : w2.ownsRow base e size a n xs) (hb : w.ownsRow 0 e' size' b m ys) (h : w.heap.size ≤ base) : Apart a b := by
  rcases hq : a.ownBlock with _ | g
  · exact .inl hq
  · refine .inr ?_
    rw [hq]
    intro e
    have h1 := (ha.lt g hq).1
    have h2 := (hb.lt g e.symm).2
    omega
theorem Tr.rks_at {xs : Tr} {i : Nat} (hi : i < (Tr.post xs).length) : Zs.at (Zs.up (Tr.rks xs)) i = (Tr.rk xs i : Int) := by
  simp [Zs.at, Zs.up, Tr.rks, List.getD_eq_getElem?_getD, hi]
theorem Tr.post_z {xs : Tr} {k i : Nat} (h : (Tr.post xs)[k]? = some i) : Zs.at (Zs.up (Tr.post xs)) k = (i : Int) := by simp [Zs.at, Zs.up, List.getD_eq_getElem?_getD, h]
theorem Tr.lfs_z {xs : Tr} {k i : Nat} (h : (Tr.post xs)[k]? = some i) : Zs.up ((Tr.lfs xs).take (k + 1)) = Zs.up ((Tr.lfs xs).take k) ++ [((i - Tr.dn xs i : Nat) : Int)] := by
  have hk := (List.getElem?_eq_some_iff.1 h).1
  have e : (Tr.lfs xs)[k]? = some (i - Tr.dn xs i) := by simp [Tr.lfs, h]
  rw [List.take_add_one, e, Zs.up_append]
  rfl
theorem endOf_at (A : Option Addr) (n c : Nat) (xs : Tr) (j : Nat) (hok : Tr.ok xs = true) (hj : j < xs.length) (hn : n ≤ 1048576) (w : World) (h : NdIn w w.heap.size A n xs) :
    Calls Try.prog 55 #[.slice A n c, .int .i64 j] w fun e w' => e = .returned (.int .i64 ((Tr.endN xs j : Nat) : Int)) ∧ Drawn w w' := by
  have := specEndOf_any A n c xs j w h hn
  rw [Tr.endOf_yes (Tr.has_iff.2 ⟨hok, by omega, by omega⟩)] at this
  exact this
set_option maxHeartbeats 3200000 in
set_option maxRecDepth 100000 in
theorem specLeftLeaf_any (A : Option Addr) (n c : Nat) (xs : Tr) (w : World) (h : NdIn w w.heap.size A n xs) (hn : n ≤ 1048576) :
    Calls Try.prog 57 #[.slice A n c] w (OwnInts 3 (Zs.up (Tr.lfs xs)) w) := by
  have H := Lib.hid h
  clear h
  have HL := Lib.hid H.out.1
  obtain ⟨i0, hi, hz0, hz1, hz2⟩ := info_parts info_intP
  have Hi := Lib.hid hi
  clear hi
  have hml := Tr.post_len_le xs
  rw [H.out.1] at hml
  obtain ⟨m, hm⟩ : ∃ m, m = (Tr.post xs).length := ⟨_, rfl⟩
  have HM := Lib.hid hm
  rw [← hm] at hml
  have HP := Lib.hid (fun k => Tr.post_at (xs := xs) (k := k))
  clear hm
  have Ho := Lib.hid (World.ownsRow_lit (base := w.heap.size) (e := 3) (size := 1) w #[] 0 (Nat.le_refl _) (Nat.zero_le _) rfl)
  have HB := Lib.hid ((Below.refl w.heap.size w).alloc (Nat.le_refl _) (.cells #[] 3))
  have H1 := Lib.hid ((H.out.below HB.out).more HB.out.size)
  go_enter Try.func57, Try.ntmps57
  have hpre := HB.out.size
  go_wp2_with fail
  refine (specPostOrder_any _ _ _ xs _ H1.out hn).mono ?_
  rintro e w1 ⟨A1, c1, rfl, ho, hb⟩
  have HB := Lib.hid (HB.out.trans (hb.mono hpre))
  have O1 := Lib.hid ho
  rw [Zs.up_length, ← HM.out] at O1 ⊢
  have P1 := Lib.hid (apart_of O1.out (own_base Ho.out (Nat.zero_le _)) (Nat.le_refl _))
  have Ho := Lib.hid (own_below Ho.out hb)
  clear hb ho
  have H1 := Lib.hid ((H.out.below HB.out).more HB.out.size)
  have hpre := HB.out.size
  go_wp2_with fail
  refine (specRankOf_any _ _ _ xs _ H1.out hn).mono ?_
  rintro e w2 ⟨A2, c2, rfl, ho, hb⟩
  have HB := Lib.hid (HB.out.trans (hb.mono hpre))
  have O2 := Lib.hid ho
  rw [Zs.up_length, Tr.rks_length, ← HM.out] at O2 ⊢
  have P2 := Lib.hid (apart_of O2.out (own_base Ho.out (Nat.zero_le _)) (Nat.le_refl _))
  have Ho := Lib.hid (own_below Ho.out hb)
  have O1 := Lib.hid (own_base (own_below O1.out hb) (show w.heap.size ≤ _ by simp))
  have O2 := Lib.hid (own_base O2.out hpre)
  have hsx := HB.out.size
  clear hb ho
  go_wp2
  go_loopw [6, 3] (fun kv ov wr => ∃ k : Nat, k ≤ m ∧ kv = .int .i64 k ∧ wr.ownsRow w.heap.size 3 1 ov (Zs.up ((Tr.lfs xs).take k)).length (ints (Zs.up ((Tr.lfs xs).take k))) ∧ wr.ownsRow w.heap.size 3 1 (.slice A1 m c1) m (ints (Zs.up (Tr.post xs))) ∧ wr.ownsRow w.heap.size 3 1 (.slice A2 m c2) m (ints (Zs.up (Tr.rks xs))) ∧ Apart (.slice A1 m c1) ov ∧ Apart (.slice A2 m c2) ov ∧ Below w.heap.size w wr) (fun k _ _ => m - (intOf k).toNat)
  case atStart => exact ⟨0, Nat.zero_le _, rfl, Ho.out, O1.out, O2.out, P1.out, P2.out, HB.out⟩
  case round =>
    clear Ho HB O1 O2 P1 P2 hsx hpre
    obtain ⟨k, hk, rfl, hown, ho1, ho2, hp1, hp2, hB⟩ := hrel
    have Ho := Lib.hid hown
    have O1 := Lib.hid ho1
    have O2 := Lib.hid ho2
    have P1 := Lib.hid hp1
    have P2 := Lib.hid hp2
    have HB := Lib.hid hB
    clear hown ho1 ho2 hp1 hp2 hB
    obtain ⟨Ao, co, rfl⟩ := own_slice Ho.out
    by_cases hlt : k < m
    · obtain ⟨j, p1, p2, p3, p4, p5⟩ := HP.out k (by rw [← HM.out]; exact hlt)
      rw [← HM.out] at p1 p5
      obtain ⟨g1, rfl, _, _⟩ := own_form O1.out (by omega)
      obtain ⟨g2, rfl, _, _⟩ := own_form O2.out (by omega)
      have c1' := own_int O1.out (k := k) (by rw [Zs.up_length, ← HM.out]; exact hlt)
      rw [Tr.post_z p2] at c1'
      have Hz := Lib.hid (Tr.lfs_z p2)
      have Hch := Lib.hid (fun i => Tr.chain_end p4 (i0 := j) (i := i))
      have hj : j < xs.length := by omega
      have HE := Lib.hid (fun w' h' => endOf_at A n c xs j p4 hj hn w' h')
      have hE := Tr.endN_dn p4 hj
      have hE1 := hE.1
      have hE2 := hE.2.1
      rw [← p5] at hE2
      have Hdn := Lib.hid (fun i (hi : i < xs.length) => Tr.dn_eq p4 hi)
      have Hbd := Lib.hid (fun i (hi : i < xs.length) => (Tr.ok_at p4 hi).2.1)
      have hxn : n = m := by rw [p5]; exact HL.out.symm
      have k0 : (0 : Int) ≤ (k : Int) := by omega
      have k1 : (k : Int) < (m : Int) := by omega
      subst hxn
      have hml2 : n ≤ 24 := by have := (Tr.ok_iff.1 p4).2; omega
      clear hE p2 p3 p4 p5 hj
      go_wp2
      go_loopw [7] (fun iv wr' => ∃ i : Nat, j ≤ i ∧ i < Tr.endN xs j ∧ iv = .int .i64 i ∧ Tr.dn xs i = Tr.dn xs j + (i - j) ∧ Drawn wr wr') (fun i _ => n - (intOf i).toNat)
      case atStart => exact ⟨j, Nat.le_refl _, hE1, rfl, by omega, Drawn.refl _⟩
      case round =>
        obtain ⟨i, hi1, hi2, rfl, hid, hD⟩ := hrel
        have HD := Lib.hid hD
        have Hid := Lib.hid hid
        have c1'' : wr.cell? ⟨g1, k, none⟩ = some (.int .i64 (j : Int)) := by obtain ⟨q, rfl⟩ := hD; exact c1'
        have H2 := Lib.hid (((H.out.below HB.out).more HB.out.size).to_drawn hD)
        obtain ⟨ad, rfl, _, hl, hd⟩ := H2.out.at_ (k := i) (by omega)
        have a1 : IntKind.i64.wrap ((i : Int) + 1) = (i : Int) + 1 := Kit.w64 (by omega) (by omega)
        have hbi := Hbd.out i (by rw [HL.out]; omega)
        have a5 : IntKind.i64.wrap (Tr.d xs i + 1) = Tr.d xs i + 1 := Kit.w64 (by omega) (by omega)
        have i0' : (0 : Int) ≤ (i : Int) := by omega
        have i1' : (i : Int) < (n : Int) := by omega
        clear hD hid
        by_cases g1' : i + 1 < Tr.endN xs j
        · have e1 : decide ((i : Int) + 1 < ((Tr.endN xs j : Nat) : Int)) = true := by simp; omega
          have e1n : decide (i + 1 < Tr.endN xs j) = true := by simpa using g1'
          obtain ⟨hl', hd'⟩ := H2.out.here (k := i + 1) (by omega)
          have a2 : ((i : Int) + 1).toNat = i + 1 := by omega
          have a3 : (0 : Int) ≤ (i : Int) + 1 := by omega
          have a4 : (i : Int) + 1 < (n : Int) := by omega
          by_cases g2' : Tr.d xs (i + 1) = Tr.d xs i + 1
          · have e2 : (Tr.d xs (i + 1) == Tr.d xs i + 1) = true := by simpa using g2'
            have hd3 := Hdn.out i (by rw [HL.out]; omega)
            have hd4 := Hdn.out (i + 1) (by rw [HL.out]; omega)
            have Hn := Lib.hid (show Tr.dn xs (i + 1) = Tr.dn xs j + (i + 1 - j) by have := Hid.out; omega)
            clear hd3 hd4 g2'
            go_wp2
            go_quiet (first | (go_at_call 55; exact quiet_drawn (HE.out _ (H2.out.drewN _))))
            go_wp2
            go_roundw
            case rel => exact ⟨i + 1, by omega, g1', by go_num, Hn.out, HD.out.drewN _⟩
            case measure => simp [intOf]; omega
          · have e2 : (Tr.d xs (i + 1) == Tr.d xs i + 1) = false := by simpa using g2'
            have Hr := Lib.hid (Hch.out i hi1 hi2 (by rw [HL.out]; omega) Hid.out (fun q => g2' q.2))
            clear g2'
            go_wp2
            go_quiet (first | (go_at_call 55; exact quiet_drawn (HE.out _ (H2.out.drewN _))))
            have HDq := Lib.hid (HD.out.drewN nq)
            have Ho := Lib.hid (own_drawn Ho.out HDq.out)
            have O1 := Lib.hid (own_drawn O1.out HDq.out)
            have O2 := Lib.hid (own_drawn O2.out HDq.out)
            have HB := Lib.hid (Drawn.below HB.out HDq.out)
            have c2' := own_int O2.out (k := i) (by rw [Zs.up_length, Tr.rks_length, ← HM.out]; omega)
            rw [Tr.rks_at (by rw [← HM.out]; omega), Hr.out] at c2'
            have hsx := HB.out.size
            have hlt2 : ((Tr.lfs xs).take k).length ≤ k := List.length_take_le _ _
            go_wp2_with (at_builtin; go_loud (refine append_int_at (World.drewN wr nq) rfl _ _ 25 rfl w.heap.size 3 i0 Try.underlying25 Hi.out hz0 hz1 hz2 (.slice Ao (Zs.up ((Tr.lfs xs).take k)).length co) (Zs.up ((Tr.lfs xs).take k)).length (Zs.up ((Tr.lfs xs).take k)) rfl Ho.out rfl ((j - Tr.dn xs j : Nat) : Int) rfl (by rw [Zs.up_length]; omega) hsx ?_); intro v' w3 hown hgrow hwhere)
            have hb3 := Kit.below_own HB.out Ho.out hgrow
            have O1' := Lib.hid (World.ownsRow.kept (World.ownsRow.alloc O1.out _) hgrow P1.out)
            have O2' := Lib.hid (World.ownsRow.kept (World.ownsRow.alloc O2.out _) hgrow P2.out)
            have P1' := Lib.hid (P1.out.grew (World.ownsRow.alloc O1.out (.cells #[.int .i64 ((j - Tr.dn xs j : Nat) : Int)] 3)) (by simpa using hwhere))
            have P2' := Lib.hid (P2.out.grew (World.ownsRow.alloc O2.out (.cells #[.int .i64 ((j - Tr.dn xs j : Nat) : Int)] 3)) (by simpa using hwhere))
            rw [← Hz.out] at hown
            go_roundw
            case rel => exact ⟨k + 1, by omega, by go_num, hown, O1'.out, O2'.out, P1'.out, P2'.out, hb3⟩
            case measure => simp [intOf]; omega
        · have e1 : decide ((i : Int) + 1 < ((Tr.endN xs j : Nat) : Int)) = false := by simp; omega
          have e1n : decide (i + 1 < Tr.endN xs j) = false := by simpa using g1'
          have Hr := Lib.hid (Hch.out i hi1 hi2 (by rw [HL.out]; omega) Hid.out (fun q => g1' q.1))
          go_wp2
          go_quiet (first | (go_at_call 55; exact quiet_drawn (HE.out _ (H2.out.drewN _))))
          have HDq := Lib.hid (HD.out.drewN nq)
          have Ho := Lib.hid (own_drawn Ho.out HDq.out)
          have O1 := Lib.hid (own_drawn O1.out HDq.out)
          have O2 := Lib.hid (own_drawn O2.out HDq.out)
          have HB := Lib.hid (Drawn.below HB.out HDq.out)
          have c2' := own_int O2.out (k := i) (by rw [Zs.up_length, Tr.rks_length, ← HM.out]; omega)
          rw [Tr.rks_at (by rw [← HM.out]; omega), Hr.out] at c2'
          have hsx := HB.out.size
          have hlt2 : ((Tr.lfs xs).take k).length ≤ k := List.length_take_le _ _
          go_wp2_with (at_builtin; go_loud (refine append_int_at (World.drewN wr nq) rfl _ _ 25 rfl w.heap.size 3 i0 Try.underlying25 Hi.out hz0 hz1 hz2 (.slice Ao (Zs.up ((Tr.lfs xs).take k)).length co) (Zs.up ((Tr.lfs xs).take k)).length (Zs.up ((Tr.lfs xs).take k)) rfl Ho.out rfl ((j - Tr.dn xs j : Nat) : Int) rfl (by rw [Zs.up_length]; omega) hsx ?_); intro v' w3 hown hgrow hwhere)
          have hb3 := Kit.below_own HB.out Ho.out hgrow
          have O1' := Lib.hid (World.ownsRow.kept (World.ownsRow.alloc O1.out _) hgrow P1.out)
          have O2' := Lib.hid (World.ownsRow.kept (World.ownsRow.alloc O2.out _) hgrow P2.out)
          have P1' := Lib.hid (P1.out.grew (World.ownsRow.alloc O1.out (.cells #[.int .i64 ((j - Tr.dn xs j : Nat) : Int)] 3)) (by simpa using hwhere))
          have P2' := Lib.hid (P2.out.grew (World.ownsRow.alloc O2.out (.cells #[.int .i64 ((j - Tr.dn xs j : Nat) : Int)] 3)) (by simpa using hwhere))
          rw [← Hz.out] at hown
          go_roundw
          case rel => exact ⟨k + 1, by omega, by go_num, hown, O1'.out, O2'.out, P1'.out, P2'.out, hb3⟩
          case measure => simp [intOf]; omega
    · obtain rfl : k = m := by omega
      have Hl := Lib.hid (show (Tr.lfs xs).take k = Tr.lfs xs by rw [List.take_of_length_le (by rw [Tr.lfs_length]; exact Nat.le_of_eq HM.out.symm)])
      go_wp2
      go_ret
      exact ⟨Ao, co, by rw [show (Zs.up (Tr.lfs xs)).length = (Zs.up ((Tr.lfs xs).take k)).length by rw [Hl.out]]; rfl, by have := Ho.out; rw [Hl.out] at this; exact this, HB.out⟩

end Go.Proofs.Ytkccnlcghlkioaa

/- Contracts (KeyS). -/
namespace Go.Proofs.Ytkccnlcghlkioaa
open Go.RowKit
set_option linter.unusedVariables false

theorem Tr.lfs_at {xs : Tr} {k : Nat} (hk : k < (Tr.lfs xs).length) : Zs.at (Zs.up (Tr.lfs xs)) k = ((Tr.lfs xs).getD k 0 : Nat) := by
  simp [Zs.at, Zs.up, List.getD_eq_getElem?_getD, hk]
set_option maxHeartbeats 3200000 in
set_option maxRecDepth 100000 in
theorem specKeyRoots_any (A : Option Addr) (n c : Nat) (xs : Tr) (w : World) (h : NdIn w w.heap.size A n xs) (hn : n ≤ 1048576) :
    Calls Try.prog 56 #[.slice A n c] w (OwnInts 3 (Zs.up (Tr.krs xs)) w) := by
  have H := Lib.hid h
  clear h
  obtain ⟨i0, hi, hz0, hz1, hz2⟩ := info_parts info_intP
  have Hi := Lib.hid hi
  clear hi
  have hml := Tr.post_len_le xs
  rw [H.out.1, ← Tr.lfs_length] at hml
  obtain ⟨m, hm⟩ : ∃ m, m = (Tr.lfs xs).length := ⟨_, rfl⟩
  have HM := Lib.hid hm
  rw [← hm] at hml
  obtain ⟨F, hF⟩ : ∃ F, F = Tr.lfs xs := ⟨_, rfl⟩
  have HF := Lib.hid hF
  have HAt := Lib.hid (fun k => Tr.lfs_at (xs := xs) (k := k))
  have HS := Lib.hid (fun k => Tr.krTo_succ xs k)
  have HLe := Lib.hid (fun k => Tr.krTo_le xs k)
  have HK := Lib.hid (show Tr.krs xs = Tr.krTo xs m by rw [hm]; rfl)
  clear hm hF
  have Ho := Lib.hid (World.ownsRow_lit (base := w.heap.size) (e := 3) (size := 1) w #[] 0 (Nat.le_refl _) (Nat.zero_le _) rfl)
  have HB := Lib.hid ((Below.refl w.heap.size w).alloc (Nat.le_refl _) (.cells #[] 3))
  have H1 := Lib.hid ((H.out.below HB.out).more HB.out.size)
  go_enter Try.func56, Try.ntmps56
  have hpre := HB.out.size
  go_wp2_with fail
  refine (specLeftLeaf_any _ _ _ xs _ H1.out hn).mono ?_
  rintro e w1 ⟨A1, c1, rfl, ho, hb⟩
  have HB := Lib.hid (HB.out.trans (hb.mono hpre))
  have O1 := Lib.hid ho
  rw [Zs.up_length, ← HM.out] at O1 ⊢
  have P1 := Lib.hid (apart_of O1.out (own_base Ho.out (Nat.zero_le _)) (Nat.le_refl _))
  have Ho := Lib.hid (own_below Ho.out hb)
  have O1 := Lib.hid (own_base O1.out (show w.heap.size ≤ _ by simp))
  clear hb ho
  go_wp2
  go_loopw [5, 3] (fun kv ov wr => ∃ k : Nat, k ≤ m ∧ kv = .int .i64 k ∧ wr.ownsRow w.heap.size 3 1 ov (Zs.up (Tr.krTo xs k)).length (ints (Zs.up (Tr.krTo xs k))) ∧ wr.ownsRow w.heap.size 3 1 (.slice A1 m c1) m (ints (Zs.up (Tr.lfs xs))) ∧ Apart (.slice A1 m c1) ov ∧ Below w.heap.size w wr) (fun k _ _ => m - (intOf k).toNat)
  case atStart => exact ⟨0, Nat.zero_le _, rfl, Ho.out, O1.out, P1.out, HB.out⟩
  case round =>
    clear Ho HB O1 P1 hpre
    obtain ⟨k, hk, rfl, hown, ho1, hp1, hB⟩ := hrel
    have Ho := Lib.hid hown
    have O1 := Lib.hid ho1
    have P1 := Lib.hid hp1
    have HB := Lib.hid hB
    clear hown ho1 hp1 hB
    obtain ⟨Ao, co, rfl⟩ := own_slice Ho.out
    by_cases hlt : k < m
    · obtain ⟨g1, rfl, _, _⟩ := own_form O1.out (by omega)
      have k0 : (0 : Int) ≤ (k : Int) := by omega
      have k1 : (k : Int) < (m : Int) := by omega
      have a1 : IntKind.i64.wrap ((k : Int) + 1) = (k : Int) + 1 := Kit.w64 (by omega) (by omega)
      obtain ⟨x, hx⟩ : ∃ x : Int, x = ((F.getD k 0 : Nat) : Int) := ⟨_, rfl⟩
      have hck := own_int O1.out (k := k) (by rw [Zs.up_length, ← HM.out]; exact hlt)
      rw [HAt.out k (by rw [← HM.out]; exact hlt), ← HF.out, ← hx] at hck
      have Hx := Lib.hid hx
      clear hx
      go_wp2
      go_loopw [6, 7] (fun lv jv wr' => ∃ j : Nat, k < j ∧ j ≤ m ∧ lv = .bool (Zs.lastTo F k j) ∧ jv = .int .i64 j ∧ Drawn wr wr') (fun _ j _ => m - (intOf j).toNat)
      case atStart => exact ⟨k + 1, by omega, by omega, by rw [Zs.lastTo_start], by go_num, Drawn.refl _⟩
      case round =>
        obtain ⟨j, hj1, hj2, rfl, rfl, hD⟩ := hrel
        have HD := Lib.hid hD
        have O1 := Lib.hid (own_drawn O1.out hD)
        have Ho := Lib.hid (own_drawn Ho.out hD)
        have HB := Lib.hid (Drawn.below HB.out hD)
        have hck' : wr.cell? ⟨g1, k, none⟩ = some (.int .i64 x) := by obtain ⟨q, rfl⟩ := hD; exact hck
        clear hD
        by_cases hjm : j < m
        · have j0 : (0 : Int) ≤ (j : Int) := by omega
          have j1 : (j : Int) < (m : Int) := by omega
          have a2 : IntKind.i64.wrap ((j : Int) + 1) = (j : Int) + 1 := Kit.w64 (by omega) (by omega)
          obtain ⟨y, hy⟩ : ∃ y : Int, y = ((F.getD j 0 : Nat) : Int) := ⟨_, rfl⟩
          have hcj := own_int O1.out (k := j) (by rw [Zs.up_length, ← HM.out]; exact hjm)
          rw [HAt.out j (by rw [← HM.out]; exact hjm), ← HF.out, ← hy] at hcj
          have hs := Zs.lastTo_succ F k j hj1
          have hne : decide (F.getD j 0 ≠ F.getD k 0) = (y != x) := by
            rw [hy, Hx.out, Bool.eq_iff_iff]
            simp
            omega
          rw [hne] at hs
          have Hs := Lib.hid hs
          clear hs hne hy
          cases hb0 : Zs.lastTo F k j with
          | false =>
            rw [hb0] at Hs
            go_wp2
            go_quiet (fail)
            go_wp2
            go_roundw
            case rel => exact ⟨j + 1, by omega, by omega, by rw [Hs.out]; rfl, by go_num, HD.out.drewN _⟩
            case measure => simp [intOf]; omega
          | true =>
            rw [hb0] at Hs
            cases hq : (y != x) with
            | false =>
              rw [hq] at Hs
              go_wp2
              go_quiet (fail)
              go_wp2
              go_roundw
              case rel => exact ⟨j + 1, by omega, by omega, by rw [Hs.out]; rfl, by go_num, HD.out.drewN _⟩
              case measure => simp [intOf]; omega
            | true =>
              rw [hq] at Hs
              go_wp2
              go_quiet (fail)
              go_wp2
              go_roundw
              case rel => exact ⟨j + 1, by omega, by omega, by rw [Hs.out]; rfl, by go_num, HD.out.drewN _⟩
              case measure => simp [intOf]; omega
        · obtain rfl : j = m := by omega
          have hs := HS.out k
          rw [← HF.out, HF.out, ← HM.out, ← HF.out] at hs
          have hle := HLe.out k
          have hsx := HB.out.size
          cases hb0 : Zs.lastTo F k j with
          | false =>
            rw [hb0, if_neg (by simp)] at hs
            have Hs := Lib.hid hs
            clear hs
            go_wp2
            go_roundw
            case rel => exact ⟨k + 1, by omega, by go_num, by rw [Hs.out]; exact Ho.out, O1.out, P1.out, HB.out⟩
            case measure => simp [intOf]; omega
          | true =>
            rw [hb0, if_pos rfl] at hs
            have Hs := Lib.hid hs
            clear hs
            go_wp2_with (at_builtin; go_loud (refine append_int_at wr rfl _ _ 25 rfl w.heap.size 3 i0 Try.underlying25 Hi.out hz0 hz1 hz2 (.slice Ao (Zs.up (Tr.krTo xs k)).length co) (Zs.up (Tr.krTo xs k)).length (Zs.up (Tr.krTo xs k)) rfl Ho.out rfl (k : Int) rfl (by rw [Zs.up_length]; omega) hsx ?_); intro v' w3 hown hgrow hwhere)
            have hb3 := Kit.below_own HB.out Ho.out hgrow
            have O1' := Lib.hid (World.ownsRow.kept (World.ownsRow.alloc O1.out _) hgrow P1.out)
            have P1' := Lib.hid (P1.out.grew (World.ownsRow.alloc O1.out (.cells #[.int .i64 (k : Int)] 3)) (by simpa using hwhere))
            rw [show Zs.up (Tr.krTo xs k) ++ [(k : Int)] = Zs.up (Tr.krTo xs (k + 1)) by rw [Hs.out, Zs.up_append]; rfl] at hown
            go_roundw
            case rel => exact ⟨k + 1, by omega, by go_num, hown, O1'.out, P1'.out, hb3⟩
            case measure => simp [intOf]; omega
    · obtain rfl : k = m := by omega
      go_wp2
      go_ret
      exact ⟨Ao, co, by rw [show (Zs.up (Tr.krs xs)).length = (Zs.up (Tr.krTo xs k)).length by rw [HK.out]]; rfl, by rw [HK.out]; exact Ho.out, HB.out⟩

end Go.Proofs.Ytkccnlcghlkioaa

/- Contracts (CelS). -/
namespace Go.Proofs.Ytkccnlcghlkioaa
open Go.RowKit
set_option linter.unusedVariables false

theorem Tr.krs_ok {xs : Tr} {k : Nat} (h : k < (Tr.krs xs).length) : Tr.ok xs = true := by
  cases e : Tr.ok xs with
  | true => rfl
  | false => rw [Tr.krs_no e] at h; simp at h
set_option maxHeartbeats 1600000 in
set_option maxRecDepth 100000 in
theorem specCellsIn_any (A A' : Option Addr) (n n' c c' : Nat) (xs ys : Tr) (w : World) (h : NdIn w w.heap.size A n xs) (h' : NdIn w w.heap.size A' n' ys) (hn : n ≤ 1048576) (hn' : n' ≤ 1048576) :
    Calls Try.prog 27 #[.slice A n c, .slice A' n' c'] w fun e w' => e = .returned (.int .i64 (Tr.cells8 xs ys)) ∧ Below w.heap.size w w' := by
  have H := Lib.hid h
  have H' := Lib.hid h'
  have KX := Lib.hid (Zs.up_length (Tr.krs xs))
  have KY := Lib.hid (Zs.up_length (Tr.krs ys))
  have SY := Lib.hid (Tr.keySz_bound ys)
  have SX := Lib.hid (Tr.keySz_bound xs)
  have hkl : ∀ zs : Tr, (Tr.krs zs).length ≤ 24 := fun zs => by
    cases e : Tr.ok zs with
    | false => rw [Tr.krs_no e]; simp
    | true => have := Tr.krs_le e; have := (Tr.len24 e).2; omega
  have klx := hkl xs
  have kly := hkl ys
  clear h h' hkl
  go_enter Try.func27, Try.ntmps27
  go_wp2_with fail
  refine (specKeyRoots_any _ _ _ xs _ H.out hn).mono ?_
  rintro e w1 ⟨A1, c1, rfl, o1, b1⟩
  have I1 := Lib.hid (IntIn.of_own o1)
  have H1 := Lib.hid (H.out.to_below b1)
  have H1' := Lib.hid (H'.out.to_below b1)
  have B1 := Lib.hid b1
  clear o1 b1
  rw [KX.out] at I1 ⊢
  go_wp2_with fail
  refine (specKeyRoots_any _ _ _ ys _ H1'.out hn').mono ?_
  rintro e w2 ⟨A2, c2, rfl, o2, b2⟩
  have I2 := Lib.hid (IntIn.of_own o2)
  have I1 := Lib.hid (I1.out.to_below b2)
  have H2 := Lib.hid (H1.out.to_below b2)
  have H2' := Lib.hid (H1'.out.to_below b2)
  have B2 := Lib.hid (B1.out.trans (b2.mono B1.out.size))
  clear o2 b2
  rw [KY.out] at I2 ⊢
  go_wp2_with fail
  refine (specLeftLeaf_any _ _ _ xs _ H2.out hn).mono ?_
  rintro e w3 ⟨A3, c3, rfl, o3, b3⟩
  have I3 := Lib.hid (IntIn.of_own o3)
  have I1 := Lib.hid (I1.out.to_below b3)
  have I2 := Lib.hid (I2.out.to_below b3)
  have H3' := Lib.hid (H2'.out.to_below b3)
  have B3 := Lib.hid (B2.out.trans (b3.mono B2.out.size))
  clear o3 b3
  go_wp2_with fail
  refine (specLeftLeaf_any _ _ _ ys _ H3'.out hn').mono ?_
  rintro e w4 ⟨A4, c4, rfl, o4, b4⟩
  have I4 := Lib.hid (IntIn.of_own o4)
  have I1 := Lib.hid (I1.out.to_below b4)
  have I2 := Lib.hid (I2.out.to_below b4)
  have I3 := Lib.hid (I3.out.to_below b4)
  have B4 := Lib.hid (B3.out.trans (b4.mono B3.out.size))
  clear o4 b4
  go_wp2
  go_loopw [10, 5] (fun kv sv wr => ∃ k : Nat, k ≤ (Tr.krs xs).length ∧ kv = .int .i64 k ∧ sv = .int .i64 (Tr.keyTo xs k * Tr.keySz ys) ∧ Drawn w4 wr) (fun k _ _ => (Tr.krs xs).length - (intOf k).toNat)
  case atStart => exact ⟨0, Nat.zero_le _, rfl, by simp [Tr.keyTo], Drawn.refl _⟩
  case round =>
    obtain ⟨k, hk, rfl, rfl, hD⟩ := hrel
    have HD := Lib.hid hD
    clear hD
    obtain ⟨s, hs⟩ : ∃ s, s = Tr.keyTo xs k * Tr.keySz ys := ⟨_, rfl⟩
    rw [← hs]
    by_cases hlt : k < (Tr.krs xs).length
    · have ox := Tr.krs_ok hlt
      have bk := Tr.keyTo_bound ox k hk
      have bs : 0 ≤ s ∧ s ≤ 331776 := by
        rw [hs]
        have b2 := SY.out
        exact ⟨Int.mul_nonneg bk.1 b2.1, Int.le_trans (Int.mul_le_mul (show _ ≤ (576 : Int) by omega) b2.2 b2.1 (by omega)) (by omega)⟩
      obtain ⟨ad1, rfl, _, r1⟩ := (I1.out.drawn HD.out).at_ hlt
      rw [Tr.kr_up hlt] at r1
      have hil := Tr.krs_lt ox (Tr.kr_mem hlt)
      have ilen : (Zs.up (Tr.lfs xs)).length = xs.length := by rw [Zs.up_length, Tr.lfs_len ox]
      obtain ⟨ad3, rfl, _, r3⟩ := (I3.out.drawn HD.out).at_ (k := Tr.kr xs k) (by rw [ilen]; exact hil)
      rw [Tr.la_up ox hil] at r3
      have bz := Tr.kz_bound ox hlt
      have x24 := (Tr.len24 ox).2
      obtain ⟨i, hi⟩ : ∃ i, i = Tr.kr xs k := ⟨_, rfl⟩
      obtain ⟨q, hq⟩ : ∃ q, q = Tr.la xs i := ⟨_, rfl⟩
      have hqi : q ≤ i := by rw [hq]; exact (Tr.la_nest ox i (by rw [hi]; exact hil)).1
      rw [← hi] at r1 r3 hil
      rw [← hq] at r3
      have hz : Tr.kz xs k = (i : Int) - (q : Int) + 1 := by unfold Tr.kz; rw [← hi, ← hq]
      have HZ := Lib.hid hz
      have HS := Lib.hid hs
      have i24 : i < 24 := by omega
      have k1 : (0 : Int) ≤ (k : Int) := by omega
      have k2 : (k : Int) < ((Tr.krs xs).length : Int) := by omega
      have k3 : (0 : Int) ≤ (i : Int) := by omega
      have k4 : (i : Int) < ((Zs.up (Tr.lfs xs)).length : Int) := by rw [ilen]; omega
      have r1' := (HD.out.cell _).symm.trans r1
      have r3' := (HD.out.cell _).symm.trans r3
      clear hi hq bz r1 r3 hs hz ilen hil
      go_wp2
      go_loopw [11, 5] (fun lv sv wr => ∃ l : Nat, l ≤ (Tr.krs ys).length ∧ lv = .int .i64 l ∧ sv = .int .i64 (s + ((i : Int) - (q : Int) + 1) * Tr.keyTo ys l) ∧ Drawn w4 wr) (fun l _ _ => (Tr.krs ys).length - (intOf l).toNat)
      case atStart => exact ⟨0, Nat.zero_le _, rfl, by simp [Tr.keyTo], HD.out⟩
      case round =>
        clear HD
        obtain ⟨l, hl, rfl, rfl, hD⟩ := hrel
        have HD := Lib.hid hD
        clear hD
        obtain ⟨t, ht⟩ : ∃ t, t = s + ((i : Int) - (q : Int) + 1) * Tr.keyTo ys l := ⟨_, rfl⟩
        rw [← ht]
        by_cases hlt2 : l < (Tr.krs ys).length
        · have oy := Tr.krs_ok hlt2
          have bl := Tr.keyTo_bound oy l hl
          have bt : 0 ≤ t ∧ t ≤ 1000000 := by
            rw [ht]
            have m1 : 0 ≤ ((i : Int) - (q : Int) + 1) * Tr.keyTo ys l := Int.mul_nonneg (by omega) bl.1
            have m2 : ((i : Int) - (q : Int) + 1) * Tr.keyTo ys l ≤ 24 * 576 := Int.mul_le_mul (by omega) (by omega) bl.1 (by omega)
            omega
          obtain ⟨ad2, rfl, _, r2⟩ := (I2.out.drawn HD.out).at_ hlt2
          rw [Tr.kr_up hlt2] at r2
          have hjl := Tr.krs_lt oy (Tr.kr_mem hlt2)
          have jlen : (Zs.up (Tr.lfs ys)).length = ys.length := by rw [Zs.up_length, Tr.lfs_len oy]
          obtain ⟨ad4, rfl, _, r4⟩ := (I4.out.drawn HD.out).at_ (k := Tr.kr ys l) (by rw [jlen]; exact hjl)
          rw [Tr.la_up oy hjl] at r4
          have y24 := (Tr.len24 oy).2
          obtain ⟨j, hj⟩ : ∃ j, j = Tr.kr ys l := ⟨_, rfl⟩
          obtain ⟨r, hr⟩ : ∃ r, r = Tr.la ys j := ⟨_, rfl⟩
          have hrj : r ≤ j := by rw [hr]; exact (Tr.la_nest oy j (by rw [hj]; exact hjl)).1
          rw [← hj] at r2 r4 hjl
          rw [← hr] at r4
          have hz : Tr.kz ys l = (j : Int) - (r : Int) + 1 := by unfold Tr.kz; rw [← hj, ← hr]
          have r1 := (HD.out.cell _).trans r1'
          have r3 := (HD.out.cell _).trans r3'
          obtain ⟨z, hzz⟩ : ∃ z, z = ((i : Int) - (q : Int) + 1) * ((j : Int) - (r : Int) + 1) := ⟨_, rfl⟩
          have bz : 0 ≤ z ∧ z ≤ 576 := by
            rw [hzz]
            exact ⟨Int.mul_nonneg (by omega) (by omega), Int.le_trans (Int.mul_le_mul (show _ ≤ (24 : Int) by omega) (show _ ≤ (24 : Int) by omega) (by omega) (by omega)) (by omega)⟩
          have a1 : IntKind.i64.wrap (((i : Int) - (q : Int) + 1) * ((j : Int) - (r : Int) + 1)) = z := by rw [← hzz]; exact Kit.w64 (by omega) (by omega)
          have hk1 : Tr.keyTo ys (l + 1) = Tr.keyTo ys l + ((j : Int) - (r : Int) + 1) := by simp only [Tr.keyTo]; rw [hz]
          have HN := Lib.hid (show t + z = s + ((i : Int) - (q : Int) + 1) * Tr.keyTo ys (l + 1) by rw [hk1, Int.mul_add ((i : Int) - (q : Int) + 1) (Tr.keyTo ys l) ((j : Int) - (r : Int) + 1), ← Int.add_assoc, ← ht, ← hzz])
          have j24 : j < 24 := by omega
          clear hk1
          have l1 : (0 : Int) ≤ (l : Int) := by omega
          have l2 : (l : Int) < ((Tr.krs ys).length : Int) := by omega
          have l3 : (0 : Int) ≤ (j : Int) := by omega
          have l4 : (j : Int) < ((Zs.up (Tr.lfs ys)).length : Int) := by rw [jlen]; omega
          have l5 : IntKind.i64.wrap (t + z) = t + z := Kit.w64 (by omega) (by omega)
          clear hj hr hz hzz ht jlen hjl bl
          go_wp2
          go_quiet (fail)
          go_wp2
          go_roundw
          case rel => exact ⟨l + 1, by omega, by go_num, by rw [HN.out], HD.out.drewN _⟩
          case measure => simp [intOf]; omega
        · have hle : l = (Tr.krs ys).length := by omega
          have HN := Lib.hid (show t = Tr.keyTo xs (k + 1) * Tr.keySz ys by rw [ht, HS.out, ← HZ.out, hle]; simp only [Tr.keyTo]; rw [Int.add_mul]; rfl)
          clear hle ht
          go_wp2
          go_roundw
          case rel => exact ⟨k + 1, by omega, by go_num, by rw [HN.out], HD.out⟩
          case measure => simp [intOf]; omega
    · have hke : k = (Tr.krs xs).length := by omega
      have Hv := Lib.hid (show Tr.cells8 xs ys = s by rw [hs, hke]; rfl)
      clear hke hs
      go_wp2
      go_ret
      exact ⟨Kit.ret_int Hv.out.symm, Drawn.below B4.out HD.out⟩

end Go.Proofs.Ytkccnlcghlkioaa

/- Contracts (Part). -/
namespace Go.Proofs.Ytkccnlcghlkioaa
open Go.RowKit
set_option linter.unusedVariables false

/-- of a row the first k values, then zeroes -/
def Zs.part (F : List Int) (k : Nat) : List Int := F.take k ++ List.replicate (F.length - k) 0
theorem Zs.part_length (F : List Int) (k : Nat) (h : k ≤ F.length) : (Zs.part F k).length = F.length := by simp [Zs.part]; omega
theorem Zs.part_zero (F : List Int) : Zs.part F 0 = List.replicate F.length 0 := by simp [Zs.part]
theorem Zs.part_all (F : List Int) : Zs.part F F.length = F := by simp [Zs.part]
theorem Zs.part_set (F : List Int) (k : Nat) (h : k < F.length) : (Zs.part F k).set k (Zs.at F k) = Zs.part F (k + 1) := by
  unfold Zs.part
  have hl : (F.take k).length = k := by simp; omega
  rw [List.set_append_right _ _ (by omega), hl, Nat.sub_self, show F.length - k = (F.length - (k + 1)) + 1 by omega, List.replicate_succ, List.set_cons_zero, List.take_succ_eq_append_getElem h, List.append_assoc]
  simp [Zs.at, List.getD_eq_getElem?_getD, h]
theorem made_zeros (z n : Nat) : (madeCells (Value.int .i64 0).cells (n * 1)).toList = ints (List.replicate n 0) := by
  unfold madeCells ints
  refine List.ext_getElem (by simp) fun k h1 h2 => ?_
  simp at h1 h2 ⊢
  show (#[Value.int .i64 0] : Array Value)[k % 1]! = _
  rw [Nat.mod_one]
  rfl
theorem info_intZ : (Try.prog.info? 3).map (fun i => (i.zero, i.size, i.bytes)) = some (some (.int .i64 0), 1, 8) := by kernel_rfl

end Go.Proofs.Ytkccnlcghlkioaa

/- Contracts (LabOkI). -/
namespace Go.Proofs.Ytkccnlcghlkioaa
open Go.RowKit
set_option linter.unusedVariables false

set_option maxHeartbeats 400000 in
theorem implLabelOk_any (n : Int) (w : World) :
    Calls Try.prog 86 #[.int .i64 n] w fun e w' => e = .returned (.bool (Lab.ok n)) ∧ w = w' := by
  go_enter Try.func86, Try.ntmps86
  go_wp2
  all_goals go_ret
  all_goals exact ⟨Kit.ret_bool (by unfold Lab.ok; first | (rw [decide_eq_decide]; omega) | (symm; rw [decide_eq_false_iff_not]; omega)), rfl⟩

end Go.Proofs.Ytkccnlcghlkioaa

/- Plain mathematics of chapter 1 (bytes of a number), without the program. -/
namespace Go.Proofs.Ytkccnlcghlkioaa.Num

/-- n divided k times by 256 -/
def dn (n : Nat) : Nat → Nat
  | 0 => n
  | k + 1 => dn n k / 256

/-- the k low bytes of n, the most significant first -/
def fix (n : Nat) : Nat → List UInt8
  | 0 => []
  | k + 1 => UInt8.ofNat (dn n k % 256) :: fix n k

theorem fix_length (n k : Nat) : (fix n k).length = k := by
  induction k with
  | zero => rfl
  | succ k ih => simp [fix, ih]

theorem dn_pow (n k : Nat) : dn n k = n / 2 ^ (8 * k) := by
  induction k with
  | zero => simp [dn]
  | succ k ih =>
    rw [dn, ih, Nat.div_div_eq_div_mul]
    congr 1
    rw [Nat.mul_add, Nat.pow_add]

theorem dn_le (n k : Nat) : dn n k ≤ n := by
  rw [dn_pow]; exact Nat.div_le_self _ _

/-- what Fixed gives -/
def fixR (n wd : Int) : List UInt8 :=
  if 1 ≤ wd ∧ wd ≤ 7 ∧ 0 ≤ n ∧ dn n.toNat wd.toNat = 0 then fix n.toNat wd.toNat else []

theorem fixR_no {n wd : Int} (h : n < 0 ∨ wd < 1 ∨ 7 < wd) : fixR n wd = [] := by
  unfold fixR; rw [if_neg (by omega)]
theorem fixR_big {m : Nat} {wd : Int} (h : dn m wd.toNat ≠ 0) : fixR m wd = [] := by
  unfold fixR; rw [if_neg (by simp; omega)]
theorem fixR_yes {m : Nat} {wd : Int} (h1 : 1 ≤ wd) (h7 : wd ≤ 7) (h : dn m wd.toNat = 0) : fixR m wd = fix m wd.toNat := by
  unfold fixR; rw [if_pos (by simp; omega)]; simp

/-- the row of bytes when k of its d places are filled from the right -/
def fixCells (m d k : Nat) : List Value := List.replicate (d - k) (.int .u8 0) ++ (fix m k).map fun b => .int .u8 b.toNat

theorem made_cells (m d : Nat) : (madeCells (Value.int .u8 0).cells (d * 1)).toList = fixCells m d 0 := by
  rw [show (Value.int .u8 0).cells = #[.int .u8 0] from rfl, toList_madeCells_one]
  simp [fixCells, fix]

theorem fixCells_at (m : Nat) {d k : Nat} (h : k < d) : (fixCells m d k)[d - 1 - k]? = some (.int .u8 0) := by
  unfold fixCells
  rw [List.getElem?_append_left (by simp; omega), List.getElem?_replicate, if_pos (by omega)]

theorem fixCells_set (m : Nat) {d k : Nat} (h : k < d) : (fixCells m d k).set (d - 1 - k) (.int .u8 ((dn m k : Int) % 256)) = fixCells m d (k + 1) := by
  unfold fixCells
  rw [List.set_append_left _ _ (by simp; omega)]
  have e : d - k = (d - (k + 1)) + 1 := by omega
  have e2 : d - 1 - k = d - (k + 1) := by omega
  rw [e, e2, List.replicate_succ']
  rw [List.set_append_right _ _ (by simp)]
  simp [fix]

theorem fixCells_full {w : World} {B e m d : Nat} (h : w.ownsRow B e 1 (.slice (some ⟨B, 0, none⟩) d d) d (fixCells m d d)) :
    ∀ j (hj : j < (fix m d).length), w.cell? ((⟨B, 0, none⟩ : Addr).add j) = some (.int .u8 ((fix m d)[j].toNat : Int)) := by
  intro j hj
  have hj' := hj
  rw [fix_length] at hj'
  have := h.cellAt j (by omega)
  rw [show ((⟨B, 0, none⟩ : Addr).add j) = ⟨B, j, none⟩ from by unfold Addr.add; split <;> simp_all]
  rw [this]
  simp [fixCells, hj]

end Go.Proofs.Ytkccnlcghlkioaa.Num

/- Plain mathematics of chapter 1. -/
namespace Go.Proofs.Ytkccnlcghlkioaa
open Go.RowKit
set_option linter.unusedVariables false

/-- bytes as a number, the most significant first -/
def Num.rd (l : List UInt8) : Nat := l.foldl (fun n b => n * 256 + b.toNat) 0

theorem Num.rd_snoc (l : List UInt8) (b : UInt8) : Num.rd (l ++ [b]) = Num.rd l * 256 + b.toNat := by
  simp [Num.rd]

theorem Num.rd_lt (l : List UInt8) : Num.rd l < 2 ^ (8 * l.length) := by
  refine Kit.snoc_rec (P := fun l => Num.rd l < 2 ^ (8 * l.length)) (by simp [Num.rd]) (fun l b ih => ?_) l
  rw [Num.rd_snoc]
  have hb : b.toNat < 256 := b.toNat_lt
  simp only [List.length_append, List.length_singleton, Nat.mul_add, Nat.pow_add]
  omega

theorem Num.rd_small (l : List UInt8) (h : l.length ≤ 6) : Num.rd l ≤ 281474976710655 := by
  have h1 := Num.rd_lt l
  have h2 : 2 ^ (8 * l.length) ≤ 2 ^ 48 := Nat.pow_le_pow_right (by omega) (by omega)
  omega

/-- the answer of ReadFixed -/
def Num.readB (s : ByteArray) (wd : Int) : Bool := decide (1 ≤ wd ∧ wd ≤ 7 ∧ wd ≤ s.size)

def Num.readN (s : ByteArray) (wd : Int) : Nat := if Num.readB s wd then Num.rd (s.data.toList.take wd.toNat) else 0

/-- the varint of a number below 128^(f+1) -/
def Num.varF : Nat → Nat → List UInt8
  | 0, q => [UInt8.ofNat q]
  | f + 1, q => if q < 128 then [UInt8.ofNat q] else UInt8.ofNat (128 + q % 128) :: Num.varF f (q / 128)

/-- what Var gives -/
def Num.varR (n : Int) : List UInt8 := if 0 ≤ n ∧ n ≤ 562949953421311 then Num.varF 6 n.toNat else []

theorem Num.varF_small (f q : Nat) (h : q < 128) : Num.varF f q = [UInt8.ofNat q] := by
  cases f <;> simp [Num.varF, h]

theorem Num.varF_big (f q : Nat) (h : 128 ≤ q) : Num.varF (f + 1) q = UInt8.ofNat (128 + q % 128) :: Num.varF f (q / 128) := by
  rw [Num.varF, if_neg (by omega)]

/-- what holds at each round's head: f bytes at most come behind those that are gathered -/
def Num.VarAt (m f q : Nat) (acc : List UInt8) : Prop := acc.length + f = 6 ∧ q < 128 ^ (f + 1) ∧ acc ++ Num.varF f q = Num.varF 6 m

theorem Num.VarAt.start {m : Nat} (h : m ≤ 562949953421311) : Num.VarAt m 6 m [] := ⟨rfl, by omega, by simp⟩

theorem Num.VarAt.len {m f q : Nat} {acc : List UInt8} (h : Num.VarAt m f q acc) : acc.length ≤ 6 := by have := h.1; omega

theorem Num.VarAt.step {m f q : Nat} {acc : List UInt8} (h : Num.VarAt m f q acc) (hq : 128 ≤ q) :
    ∃ f', f = f' + 1 ∧ Num.VarAt m f' (q / 128) (acc ++ [UInt8.ofNat (128 + q % 128)]) := by
  obtain ⟨h1, h2, h3⟩ := h
  cases f with
  | zero => omega
  | succ f =>
    refine ⟨f, rfl, by simp; omega, ?_, ?_⟩
    · rw [Nat.pow_succ] at h2
      exact Nat.div_lt_of_lt_mul (by omega)
    · rw [Num.varF_big f q hq] at h3
      simpa using h3

theorem Num.VarAt.stop {m f q : Nat} {acc : List UInt8} (h : Num.VarAt m f q acc) (hq : q < 128) : acc ++ [UInt8.ofNat q] = Num.varF 6 m := by
  have := h.2.2
  rwa [Num.varF_small f q hq] at this

theorem Num.VarAt.le {m f q : Nat} {acc : List UInt8} (h : Num.VarAt m f q acc) : q ≤ 562949953421311 := by
  obtain ⟨h1, h2, _⟩ := h
  have : 128 ^ (f + 1) ≤ 128 ^ 7 := Nat.pow_le_pow_right (by omega) (by omega)
  omega

/-- the digit of a number below 16 -/
def Num.hexd (k : Nat) : UInt8 := if k < 10 then UInt8.ofNat (48 + k) else UInt8.ofNat (87 + k)

/-- what Hex gives -/
def Num.hexL : List UInt8 → List UInt8
  | [] => []
  | b :: l => Num.hexd (b.toNat / 16) :: Num.hexd (b.toNat % 16) :: Num.hexL l

theorem Num.hexL_snoc (l : List UInt8) (b : UInt8) : Num.hexL (l ++ [b]) = Num.hexL l ++ [Num.hexd (b.toNat / 16), Num.hexd (b.toNat % 16)] := by
  induction l with
  | nil => rfl
  | cons a l ih => simp [Num.hexL, ih]

theorem Num.hexL_length (l : List UInt8) : (Num.hexL l).length = 2 * l.length := by
  induction l with
  | nil => rfl
  | cons a l ih => simp [Num.hexL, ih]; omega

theorem Num.hexIdx : ∀ n : Fin 16, (ByteArray.mk #[48, 49, 50, 51, 52, 53, 54, 55, 56, 57, 97, 98, 99, 100, 101, 102])[n.1]'n.2 = Num.hexd n.1 := by decide

theorem Num.hexAt (n : Nat) (h : n < (ByteArray.mk #[48, 49, 50, 51, 52, 53, 54, 55, 56, 57, 97, 98, 99, 100, 101, 102]).size) : (ByteArray.mk #[48, 49, 50, 51, 52, 53, 54, 55, 56, 57, 97, 98, 99, 100, 101, 102])[n]'h = Num.hexd n :=
  Num.hexIdx ⟨n, h⟩

/-- the value of a digit, or -1 -/
def Num.fromHex (b : UInt8) : Int := if 48 ≤ b.toNat ∧ b.toNat ≤ 57 then b.toNat - 48 else if 97 ≤ b.toNat ∧ b.toNat ≤ 102 then b.toNat - 87 else -1

theorem Num.fromHex_hit {k : Nat} {b : UInt8} (hk : k < 16) (h : Num.hexd k = b) : Num.fromHex b = k := by
  have : ∀ k : Fin 16, Num.fromHex (Num.hexd k.1) = (k.1 : Int) := by decide
  subst h
  exact this ⟨k, hk⟩

theorem Num.fromHex_miss {b : UInt8} (h : ∀ j, j < 16 → Num.hexd j ≠ b) : Num.fromHex b = -1 := by
  have ofn : ∀ n, n = b.toNat → UInt8.ofNat n = b := by intro n hn; subst hn; exact UInt8.ofNat_toNat
  unfold Num.fromHex
  by_cases h1 : 48 ≤ b.toNat ∧ b.toNat ≤ 57
  · exact absurd (by unfold Num.hexd; rw [if_pos (by omega)]; exact ofn _ (by omega)) (h (b.toNat - 48) (by omega))
  · by_cases h2 : 97 ≤ b.toNat ∧ b.toNat ≤ 102
    · exact absurd (by unfold Num.hexd; rw [if_neg (by omega)]; exact ofn _ (by omega)) (h (b.toNat - 87) (by omega))
    · rw [if_neg h1, if_neg h2]

theorem Num.fromHex_bd (b : UInt8) : -1 ≤ Num.fromHex b ∧ Num.fromHex b < 16 := by
  unfold Num.fromHex; split
  · omega
  · split <;> omega

/-- what Unhex gives -/
def Num.unhex : List UInt8 → Option (List UInt8)
  | [] => some []
  | [_] => none
  | a :: b :: l => if Num.fromHex a < 0 ∨ Num.fromHex b < 0 then none else (Num.unhex l).map (UInt8.ofNat (16 * Num.fromHex a + Num.fromHex b).toNat :: ·)

theorem Num.unhex_append : ∀ (n : Nat) (l m : List UInt8), l.length = 2 * n → Num.unhex (l ++ m) = (Num.unhex l).bind fun x => (Num.unhex m).map (x ++ ·)
  | 0, l, m, h => by
    obtain rfl := List.eq_nil_of_length_eq_zero (by simpa using h)
    simp [Num.unhex]
  | n + 1, l, m, h => by
    match l, h with
    | a :: b :: l, h =>
      simp only [List.cons_append, Num.unhex]
      split
      · rfl
      · rw [Num.unhex_append n l m (by simp at h; omega)]
        cases Num.unhex l <;> simp [Function.comp_def]

theorem Num.unhex_odd : ∀ (n : Nat) (l : List UInt8), l.length = 2 * n + 1 → Num.unhex l = none
  | 0, l, h => by
    match l, h with
    | [_], _ => rfl
  | n + 1, l, h => by
    match l, h with
    | a :: b :: l, h =>
      simp only [Num.unhex]
      split
      · rfl
      · rw [Num.unhex_odd n l (by simp at h; omega)]; rfl

theorem Num.take_two (s : ByteArray) (k : Nat) (h : 2 * k + 1 < s.size) : s.data.toList.take (2 * (k + 1)) = s.data.toList.take (2 * k) ++ [s[2 * k], s[2 * k + 1]] := by
  rw [show 2 * (k + 1) = 2 * k + 1 + 1 by omega, Kit.take_snoc s _ h, Kit.take_snoc s _ (by omega)]
  simp

theorem Num.drop_two (s : ByteArray) (k : Nat) (h : 2 * k + 1 < s.size) : s.data.toList = s.data.toList.take (2 * k) ++ s[2 * k] :: s[2 * k + 1] :: s.data.toList.drop (2 * (k + 1)) := by
  have := Num.take_two s k h
  have e := List.take_append_drop (2 * (k + 1)) s.data.toList
  rw [this] at e
  simpa using e.symm

theorem Num.unhex_step {s : ByteArray} {k : Nat} {acc : List UInt8} (h : 2 * k + 1 < s.size) (ha : Num.unhex (s.data.toList.take (2 * k)) = some acc) (h1 : 0 ≤ Num.fromHex s[2 * k]) (h2 : 0 ≤ Num.fromHex s[2 * k + 1]) :
    Num.unhex (s.data.toList.take (2 * (k + 1))) = some (acc ++ [UInt8.ofNat (16 * Num.fromHex s[2 * k] + Num.fromHex s[2 * k + 1]).toNat]) := by
  rw [Num.take_two s k h, Num.unhex_append k _ _ (by simp; omega), ha]
  simp only [Num.unhex]
  rw [if_neg (by omega)]
  rfl

theorem Num.unhex_bad {s : ByteArray} {k : Nat} {acc : List UInt8} (h : 2 * k + 1 < s.size) (ha : Num.unhex (s.data.toList.take (2 * k)) = some acc) (h1 : Num.fromHex s[2 * k] < 0 ∨ Num.fromHex s[2 * k + 1] < 0) :
    Num.unhex s.data.toList = none := by
  rw [Num.drop_two s k h, Num.unhex_append k _ _ (by simp; omega), ha]
  simp only [Num.unhex]
  rw [if_pos h1]
  rfl

theorem Num.idxHex : ∀ n : Fin 256, Lib.indexByte [48, 49, 50, 51, 52, 53, 54, 55, 56, 57, 97, 98, 99, 100, 101, 102] (UInt8.ofNat n.1) = Num.fromHex (UInt8.ofNat n.1) := by decide +kernel

theorem Kit.or16 (x y : Nat) (hx : x < 16) (hy : y < 16) : bits .or .i64 ((x : Int) * 16) (y : Int) = 16 * (x : Int) + y := by
  have h := Kit.i64_or (x * 16) y (by omega) (by omega)
  rw [nat_join 4 (x * 16) y (by omega) (by omega)] at h
  rw [Int.mul_comm 16]
  simpa using h

theorem Kit.or16i {x y : Int} (h0 : 0 ≤ x) (h1 : x < 16) (h2 : 0 ≤ y) (h3 : y < 16) : bits .or .i64 (x * 16) y = 16 * x + y := by
  obtain ⟨a, rfl⟩ := Int.eq_ofNat_of_zero_le h0
  obtain ⟨b, rfl⟩ := Int.eq_ofNat_of_zero_le h2
  exact Kit.or16 a b (by omega) (by omega)

def Num.unhexS (s : ByteArray) : List UInt8 := (Num.unhex s.data.toList).getD []

def Num.unhexB (s : ByteArray) : Bool := (Num.unhex s.data.toList).isSome

/-- the number of seven bits a byte, the least significant first -/
def Num.val7 : List UInt8 → Nat
  | [] => 0
  | b :: l => b.toNat % 128 + 128 * Num.val7 l

theorem Num.val7_lt (l : List UInt8) : Num.val7 l < 128 ^ l.length := by
  induction l with
  | nil => simp [Num.val7]
  | cons b l ih =>
    simp only [Num.val7, List.length_cons, Nat.pow_succ]
    have : b.toNat % 128 < 128 := Nat.mod_lt _ (by decide)
    omega

theorem Num.val7_small (l : List UInt8) (h : l.length ≤ 7) : Num.val7 l ≤ 562949953421311 := by
  have h1 := Num.val7_lt l
  have h2 : 128 ^ l.length ≤ 128 ^ 7 := Nat.pow_le_pow_right (by omega) h
  omega

theorem Num.val7_small6 (l : List UInt8) (h : l.length ≤ 6) : Num.val7 l ≤ 4398046511103 := by
  have h1 := Num.val7_lt l
  have h2 : 128 ^ l.length ≤ 128 ^ 6 := Nat.pow_le_pow_right (by omega) h
  omega

/-- the length up to the first byte below 128, among the first seven -/
def Num.vsz : Nat → List UInt8 → Nat → Nat
  | 0, _, _ => 0
  | _ + 1, [], _ => 0
  | f + 1, b :: l, i => if b.toNat < 128 then i + 1 else Num.vsz f l (i + 1)

def Num.vsize (l : List UInt8) : Nat := Num.vsz 7 l 0

theorem Num.vsz_le (f : Nat) : ∀ (l : List UInt8) (i : Nat), Num.vsz f l i = 0 ∨ (i < Num.vsz f l i ∧ Num.vsz f l i ≤ i + f ∧ Num.vsz f l i ≤ i + l.length) := by
  induction f with
  | zero => intro l i; left; rfl
  | succ f ih =>
    intro l i
    cases l with
    | nil => left; rfl
    | cons b l =>
      simp only [Num.vsz, List.length_cons]
      split
      · right; omega
      · rcases ih l (i + 1) with h | h
        · left; exact h
        · right; omega

theorem Num.vsize_le (l : List UInt8) : Num.vsize l ≤ 7 ∧ Num.vsize l ≤ l.length := by
  have := Num.vsz_le 7 l 0
  unfold Num.vsize; omega

theorem Num.vsz_var : ∀ (f q : Nat) (rest : List UInt8) (i : Nat), q < 128 ^ (f + 1) → Num.vsz (f + 1) (Num.varF f q ++ rest) i = i + (Num.varF f q).length
  | 0, q, rest, i, h => by
    have hq : q < 128 := by simpa using h
    simp [Num.varF, Num.vsz, UInt8.toNat_ofNat', Nat.mod_eq_of_lt (show q < 256 by omega), hq]
  | f + 1, q, rest, i, h => by
    by_cases hq : q < 128
    · rw [Num.varF_small _ _ hq]
      simp [Num.vsz, UInt8.toNat_ofNat', Nat.mod_eq_of_lt (show q < 256 by omega), hq]
    · rw [Num.varF_big _ _ (by omega)]
      have hb : (UInt8.ofNat (128 + q % 128)).toNat = 128 + q % 128 := by rw [UInt8.toNat_ofNat']; omega
      simp only [List.cons_append, Num.vsz, hb, List.length_cons]
      rw [if_neg (by omega), Num.vsz_var f (q / 128) rest (i + 1) (by rw [Nat.pow_succ] at h; exact Nat.div_lt_of_lt_mul (by omega))]
      omega

/-- is the beginning of k bytes the varint of what it says? -/
def Num.good (l : List UInt8) (k : Nat) : Prop := Num.varF 6 (Num.val7 (l.take k)) = l.take k

theorem Num.good_size {l : List UInt8} {k : Nat} (h7 : k ≤ 7) (hk : k ≤ l.length) (h : Num.good l k) : Num.vsize l = k := by
  have h1 : l = Num.varF 6 (Num.val7 (l.take k)) ++ l.drop k := by
    rw [h]; exact (List.take_append_drop k l).symm
  have h2 := Num.vsz_var 6 (Num.val7 (l.take k)) (l.drop k) 0 (by
    have := Num.val7_small (l.take k) (by simp; omega)
    omega)
  rw [← h1, h] at h2
  unfold Num.vsize
  rw [h2]; simp; omega

instance (l : List UInt8) (k : Nat) : Decidable (Num.good l k) := by unfold Num.good; infer_instance

/-- what ReadVar gives -/
def Num.rvK (s : ByteArray) : Nat := if Num.good s.data.toList (Num.vsize s.data.toList) then Num.vsize s.data.toList else 0

def Num.rvN (s : ByteArray) : Nat := Num.val7 (s.data.toList.take (Num.rvK s))

theorem Num.rv_good {s : ByteArray} {k : Nat} (h7 : k ≤ 7) (hk : k ≤ s.size) (h : Num.good s.data.toList k) : Num.rvK s = k ∧ Num.rvN s = Num.val7 (s.data.toList.take k) := by
  have hs := Num.good_size h7 (by simpa using hk) h
  have : Num.rvK s = k := by unfold Num.rvK; rw [hs, if_pos h]
  exact ⟨this, by unfold Num.rvN; rw [this]⟩

theorem Num.not_good_zero (l : List UInt8) : ¬ Num.good l 0 := by
  unfold Num.good
  simp [Num.val7, Num.varF]

theorem Num.rv_none {s : ByteArray} (h : ∀ k, 1 ≤ k → k ≤ 7 → k ≤ s.size → ¬ Num.good s.data.toList k) : Num.rvK s = 0 ∧ Num.rvN s = 0 := by
  have h0 : Num.rvK s = 0 := by
    unfold Num.rvK
    split
    · rename_i hg
      have hle := Num.vsize_le s.data.toList
      rcases Nat.eq_zero_or_pos (Num.vsize s.data.toList) with hz | hz
      · exact hz
      · exact absurd hg (h _ hz hle.1 (by simpa using hle.2))
    · rfl
  exact ⟨h0, by unfold Num.rvN; rw [h0]; rfl⟩

/-- the value of the bytes from i on, among the first k -/
theorem Num.val7_drop (s : ByteArray) (k i : Nat) (hi : i < k) (hk : k ≤ s.size) : Num.val7 ((s.data.toList.take k).drop i) = s[i].toNat % 128 + 128 * Num.val7 ((s.data.toList.take k).drop (i + 1)) := by
  have hl : i < (s.data.toList.take k).length := by simp; omega
  rw [List.drop_eq_getElem_cons hl]
  simp only [Num.val7]
  rw [List.getElem_take]
  rfl

theorem Num.good_test {s : ByteArray} {k : Nat} (h7 : k ≤ 7) : (Num.varR (Num.val7 (s.data.toList.take k) : Nat) == (s.extract 0 k).toList) = decide (Num.good s.data.toList k) := by
  have hs := Num.val7_small (s.data.toList.take k) (by simp; omega)
  have e : (s.extract 0 k).toList = s.data.toList.take k := by rw [Lib.extract_toList]; simp
  unfold Num.varR Num.good
  rw [if_pos (by omega), e, Int.toNat_natCast]
  rw [Bool.eq_iff_iff, beq_iff_eq]; exact decide_eq_true_iff.symm

theorem Num.vsz_skip (s : ByteArray) : ∀ (k f : Nat), k ≤ s.size → (∀ j (h : j < s.size), j < k → 128 ≤ s[j].toNat) → Num.vsz (k + f) s.data.toList 0 = Num.vsz f (s.data.toList.drop k) k := by
  have key : ∀ (k f i : Nat) (l : List UInt8), k ≤ l.length → (∀ j (h : j < l.length), j < k → 128 ≤ l[j].toNat) → Num.vsz (k + f) l i = Num.vsz f (l.drop k) (i + k) := by
    intro k
    induction k with
    | zero => intro f i l _ _; simp
    | succ k ih =>
      intro f i l hk h
      cases l with
      | nil => simp at hk
      | cons b l =>
        have h0 := h 0 (by simp) (by omega)
        simp at h0
        rw [show k + 1 + f = (k + f) + 1 by omega]
        simp only [Num.vsz]
        rw [if_neg (by omega), ih f (i + 1) l (by simpa using hk) (fun j hj hjk => by
          have := h (j + 1) (by simpa using hj) (by omega)
          simpa using this)]
        simp
        congr 1; omega
  intro k f hk h
  have := key k f 0 s.data.toList (by simpa using hk) (fun j hj hjk => h j (by simpa using hj) hjk)
  simpa using this

theorem Num.vsize_hit {s : ByteArray} {k : Nat} (h7 : k < 7) (hk : k < s.size) (h : ∀ j (h : j < s.size), j < k → 128 ≤ s[j].toNat) (hb : s[k].toNat < 128) : Num.vsize s.data.toList = k + 1 := by
  have h1 := Num.vsz_skip s k (7 - k) (by omega) h
  rw [show k + (7 - k) = 7 by omega] at h1
  unfold Num.vsize
  rw [h1, show 7 - k = (6 - k) + 1 by omega, List.drop_eq_getElem_cons (by simpa using hk)]
  simp only [Num.vsz]
  rw [if_pos (by exact hb)]

theorem Num.vsize_miss {s : ByteArray} {k : Nat} (h7 : k ≤ 7) (hk : k ≤ s.size) (hl : k = 7 ∨ k = s.size) (h : ∀ j (h : j < s.size), j < k → 128 ≤ s[j].toNat) : Num.vsize s.data.toList = 0 := by
  have h1 := Num.vsz_skip s k (7 - k) hk h
  rw [show k + (7 - k) = 7 by omega] at h1
  unfold Num.vsize
  rw [h1]
  rcases hl with rfl | rfl
  · rfl
  · rw [List.drop_eq_nil_of_le (by simp)]
    cases 7 - s.size <;> rfl

end Go.Proofs.Ytkccnlcghlkioaa
