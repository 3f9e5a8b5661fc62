/- Texts of one claim laid into one file, in build order: BesI, BmL, IntH, HarC, HarE, NdM, PrTo, PrEq, PrM, PrH, ExBestMap. -/
import Derived.Test.YtlndaflhlkbedaaMg21
import Derived.Deep.RegionHeld3
import Derived.Laws.Entries
import Derived.Laws.MakeOwn
import Derived.Outline
import Derived.StillTailTactics
import Derived.Test.YtlndaflhlkbedaaRows
/- Contracts (BesI). -/
namespace Go.Proofs.Ytlndaflhlkbedaa
open Go.RowKit
set_option linter.unusedVariables false

theorem zs_up_at (l : List Nat) (u : Nat) : Zs.at (Zs.up l) u = (l.getD u 0 : Nat) := by
  simp only [Zs.at, Zs.up, List.getD_eq_getElem?_getD, List.getElem?_map]
  cases l[u]? <;> simp
set_option maxHeartbeats 800000 in
set_option maxRecDepth 100000 in
theorem implBest_no (A A' : Option Addr) (n n' c c' : Nat) (xs ys : Tr) (K0 K1 K2 : Option Addr) (n0 n1 n2 c0 c1 c2 : Nat) (k : Co) (w : World) (ha : NdIn w w.heap.size A n xs) (hb : NdIn w w.heap.size A' n' ys) (hk : CoIn w w.heap.size K0 K1 K2 n0 n1 n2 k) (hn : n ≤ 1048576) (hn' : n' ≤ 1048576) (h0 : n0 ≤ 1048576) (h1 : n1 ≤ 1048576) (h2 : n2 ≤ 1048576) (hc : n ≤ c) (hc' : n' ≤ c') (hno : DOk xs ys k = false) :
    Calls Try.prog 35 #[.slice A n c, .slice A' n' c', .agg #[.slice K0 n0 c0, .slice K1 n1 c1, .slice K2 n2 c2]] w (OwnNodes 55 [] w) := by
  obtain ⟨wc, hwc⟩ : ∃ wc, wc = w.alloc (.cells #[.slice K0 n0 c0, .slice K1 n1 c1, .slice K2 n2 c2] 27) := ⟨_, rfl⟩
  have hbc : Below w.heap.size w wc := by rw [hwc]; exact (Below.refl _ _).alloc (Nat.le_refl _) _
  have HQ := Lib.hid (show Box3 wc w.heap.size (.slice K0 n0 c0) (.slice K1 n1 c1) (.slice K2 n2 c2) by rw [hwc]; exact Box3.made _ _ _ _ _)
  have HWC := Lib.hid hwc
  have HA := Lib.hid (ha.to_below hbc)
  have HB := Lib.hid (hb.to_below hbc)
  have HK := Lib.hid (hk.to_below hbc)
  have HBC := Lib.hid hbc
  have HN := Lib.hid hno
  clear ha hb hk hwc hbc hno
  go_enter Try.func35, Try.ntmps35
  go_wp2_with fail
  rw [← HWC.out]
  refine (newTable_no _ _ _ _ _ _ xs ys _ _ _ _ _ _ _ _ _ k _ HA.out HB.out HK.out hn hn' h0 h1 h2 hc hc' HN.out).mono ?_
  rintro e w1 ⟨rfl, b1⟩
  have HS := Lib.hid (HBC.out.trans (b1.mono HBC.out.size))
  clear b1
  go_wp2
  go_ret
  exact ⟨none, 0, rfl, own_nil, HS.out⟩
set_option maxHeartbeats 1600000 in
set_option maxRecDepth 100000 in
theorem implBest_yes (A A' : Option Addr) (n n' c c' : Nat) (xs ys : Tr) (K0 K1 K2 : Option Addr) (n0 n1 n2 c0 c1 c2 : Nat) (k : Co) (w : World) (ha : NdIn w w.heap.size A n xs) (hb : NdIn w w.heap.size A' n' ys) (hk : CoIn w w.heap.size K0 K1 K2 n0 n1 n2 k) (hc : n ≤ c) (hc' : n' ≤ c') (hx : Tr.ok xs = true) (hy : Tr.ok ys = true) (ho : Co.ok k = true) :
    Calls Try.prog 35 #[.slice A n c, .slice A' n' c', .agg #[.slice K0 n0 c0, .slice K1 n1 c1, .slice K2 n2 c2]] w (OwnNodes 55 (Bm.mt (Bm.cP xs ys) xs ys k 0 xs.length 0 ys.length) w) := by
  have hln := ha.1
  have hln' := hb.1
  obtain ⟨x1, x24⟩ := Tr.len24 hx
  obtain ⟨y1, y24⟩ := Tr.len24 hy
  subst hln
  subst hln'
  obtain ⟨wc, hwc⟩ : ∃ wc, wc = w.alloc (.cells #[.slice K0 n0 c0, .slice K1 n1 c1, .slice K2 n2 c2] 27) := ⟨_, rfl⟩
  have hbc : Below w.heap.size w wc := by rw [hwc]; exact (Below.refl _ _).alloc (Nat.le_refl _) _
  have HQ := Lib.hid (show Box3 wc w.heap.size (.slice K0 n0 c0) (.slice K1 n1 c1) (.slice K2 n2 c2) by rw [hwc]; exact Box3.made _ _ _ _ _)
  have HWC := Lib.hid hwc
  have HA := Lib.hid (ha.to_below hbc)
  have HB := Lib.hid (hb.to_below hbc)
  have HK := Lib.hid (hk.to_below hbc)
  have HBC := Lib.hid hbc
  have HX := Lib.hid hx
  have HY := Lib.hid hy
  have HO := Lib.hid ho
  have PLx := Lib.hid (show (Zs.up (Tr.post xs)).length = xs.length by rw [Zs.up_length, Tr.post_length hx])
  have PLy := Lib.hid (show (Zs.up (Tr.post ys)).length = ys.length by rw [Zs.up_length, Tr.post_length hy])
  have XY := Lib.hid (show 1 ≤ xs.length ∧ xs.length ≤ 24 ∧ 1 ≤ ys.length ∧ ys.length ≤ 24 by omega)
  clear ha hb hk hx hy ho hwc hbc
  go_enter Try.func35, Try.ntmps35
  go_wp2_with fail
  rw [← HWC.out]
  refine (newTable_yes _ _ _ _ _ _ xs ys _ _ _ _ _ _ _ _ _ k _ HA.out HB.out HK.out hc hc' HX.out HY.out HO.out).mono ?_
  rintro e w2 ⟨D, rfl, hPT, b1, hgm, hgg⟩
  have HS2 := Lib.hid (HBC.out.trans (b1.mono HBC.out.size))
  have HP := Lib.hid hPT
  have HG := Lib.hid (Nat.le_trans HBC.out.size hgm)
  have HA := Lib.hid (HA.out.to_below b1)
  have HB := Lib.hid (HB.out.to_below b1)
  clear b1 hPT hgm hgg
  go_wp2_with fail
  refine (implPostOrder_any _ _ _ xs w2 HA.out (by omega) hc).mono ?_
  rintro e w3 ⟨Aa, ca, rfl, ho, hb⟩
  obtain ⟨ga, rfl, hga, _⟩ := own_form ho (by have := PLx.out; have := XY.out; omega)
  have HB := Lib.hid (HB.out.to_below hb)
  have HOa := Lib.hid ho
  have HP := Lib.hid (HP.out.below hb)
  have HS3 := Lib.hid (HS2.out.trans (hb.mono HS2.out.size))
  clear ho hb hga
  go_wp2_with fail
  refine (implPostOrder_any _ _ _ ys w3 HB.out (by omega) hc').mono ?_
  rintro e w4 ⟨Ab, cb, rfl, ho, hb⟩
  obtain ⟨gb, rfl, hgb, _⟩ := own_form ho (by have := PLy.out; have := XY.out; omega)
  have HOa := Lib.hid (own_below HOa.out hb)
  have HOb := Lib.hid ho
  have HP := Lib.hid (HP.out.below hb)
  have HS4 := Lib.hid (HS3.out.trans (hb.mono HS3.out.size))
  clear ho hb hgb
  rw [PLx.out] at HOa ⊢
  rw [PLy.out] at HOb ⊢
  obtain ⟨w5, hw5⟩ : ∃ w5, w5 = w4.alloc (.cells #[.pointer (some ⟨D.g, 0, none⟩), .slice (some ⟨ga, 0, none⟩) xs.length ca, .slice (some ⟨gb, 0, none⟩) ys.length cb, .slice none 0 0] 112) := ⟨_, rfl⟩
  have T5 := Lib.hid (show TG D ⟨ga, 0, none⟩ ⟨gb, 0, none⟩ ca cb w4 xs ys k [] w5 from ⟨HP.out,
    fun u hu => by
      have := own_int HOa.out (k := u) (by rw [PLx.out]; exact hu)
      rw [zs_up_at] at this
      rw [show (⟨ga, 0, none⟩ : Addr).add u = ⟨ga, u, none⟩ by simp [Addr.add]; omega]
      exact this,
    fun u hu => by
      have := own_int HOb.out (k := u) (by rw [PLy.out]; exact hu)
      rw [zs_up_at] at this
      rw [show (⟨gb, 0, none⟩ : Addr).add u = ⟨gb, u, none⟩ by simp [Addr.add]; omega]
      exact this,
    by rw [hw5]; exact World.grownBy_alloc _ _ _,
    by rw [hw5]; exact HP.out.mm.below ((Below.refl _ _).alloc (Nat.le_refl _) _),
    .slice none 0 0, by rw [hw5]; exact (MapKept.heap_alloc w4 _).1, own_nil⟩)
  have HW5 := Lib.hid hw5
  have CM := Lib.hid (match_any D ⟨ga, 0, none⟩ ⟨gb, 0, none⟩ ca cb w4 xs ys k (xs.length + ys.length) HX.out HY.out (trace_any D _ _ ca cb w4 xs ys k HX.out HY.out HO.out _) 0 xs.length 0 ys.length [] w5 (by have := XY.out; omega) (Nat.le_refl _) (by have := XY.out; omega) (Nat.le_refl _) (by omega) (by have := XY.out; simp; omega) T5.out)
  clear hw5
  go_wp2_with fail
  rw [← HW5.out]
  refine CM.out.mono ?_
  rintro e w6 ⟨rfl, hT, _⟩
  rw [List.nil_append] at hT
  obtain ⟨M, hM⟩ : ∃ x, x = Bm.mt (Bm.cP xs ys) xs ys k 0 xs.length 0 ys.length := ⟨_, rfl⟩
  rw [← hM] at hT
  have HM := Lib.hid hM
  obtain ⟨pv, h1, h2⟩ := hT.ht
  have HT := Lib.hid hT.hg
  have HO2 := Lib.hid h2
  have t3 := hp_cell (o := 3) (v := pv) h1 rfl
  obtain ⟨A2, c2, rfl⟩ := own_slice h2
  clear h1 h2 hT hM CM T5
  go_wp2
  go_ret
  rw [← HM.out]
  exact ⟨A2, c2, rfl, own_base HO2.out (by have := HS4.out.size; omega), HS4.out.grown HT.out HS4.out.size (fun b hb => by have := Option.some.inj hb; have := HG.out; omega)⟩
theorem implBestMap_any (A A' : Option Addr) (n n' c c' : Nat) (xs ys : Tr) (K0 K1 K2 : Option Addr) (n0 n1 n2 c0 c1 c2 : Nat) (k : Co) (w : World) (ha : NdIn w w.heap.size A n xs) (hb : NdIn w w.heap.size A' n' ys) (hk : CoIn w w.heap.size K0 K1 K2 n0 n1 n2 k) (hn : n ≤ 1048576) (hn' : n' ≤ 1048576) (h0 : n0 ≤ 1048576) (h1 : n1 ≤ 1048576) (h2 : n2 ≤ 1048576) (hc : n ≤ c) (hc' : n' ≤ c') :
    Calls Try.prog 35 #[.slice A n c, .slice A' n' c', .agg #[.slice K0 n0 c0, .slice K1 n1 c1, .slice K2 n2 c2]] w (OwnNodes 55 (Bm.best xs ys k) w) := by
  cases hd : DOk xs ys k with
  | false =>
    rw [Bm.best_no hd]
    exact implBest_no A A' n n' c c' xs ys K0 K1 K2 n0 n1 n2 c0 c1 c2 k w ha hb hk hn hn' h0 h1 h2 hc hc' hd
  | true =>
    obtain ⟨o1, o2, o3⟩ := DOk.parts hd
    rw [Bm.best_yes hd]
    exact implBest_yes A A' n n' c c' xs ys K0 K1 K2 n0 n1 n2 c0 c1 c2 k w ha hb hk hc hc' o1 o2 o3

end Go.Proofs.Ytlndaflhlkbedaa

/- Contracts (BmL). -/
namespace Go.Proofs.Ytlndaflhlkbedaa
open Go.RowKit
set_option linter.unusedVariables false

theorem Bm.best_len (xs ys : Tr) (k : Co) : (Bm.best xs ys k).length ≤ 1048576 := by
  cases hd : DOk xs ys k with
  | false => rw [Bm.best_no hd]; simp
  | true =>
    obtain ⟨o1, o2, o3⟩ := DOk.parts hd
    rw [Bm.best_yes hd]
    have := (Bm.mt_facts (k := k) o1 o2).2.2.2.1
    have := (Tr.len24 o2).2
    omega

end Go.Proofs.Ytlndaflhlkbedaa

/- Contracts (IntH). -/
namespace Go.Proofs.Ytlndaflhlkbedaa
open Go.RowKit
set_option linter.unusedVariables false

set_option maxHeartbeats 800000 in
set_option maxRecDepth 100000 in
theorem markIntS_any (A : Option Addr) (n c base : Nat) (e0 : TypeId) (k0 : Int) (zs : List Int) (w : World) (h : w.ownsRow base e0 1 (.slice A n c) n (ints zs)) (hn : n ≤ 1048576) (h0 : 0 ≤ k0) (h1 : k0 ≤ 1073741824) :
    Calls Try.prog 65 #[.slice A n c, .int .i64 k0] w fun e w' => e = .returned (.int .i64 (k0 + n)) ∧ w'.ownsRow base e0 1 (.slice A n c) n (ints (Zs.marks k0 n)) ∧ w.grownBy w' (Value.ownBlock (.slice A n c)) := by
  have H := Lib.hid h
  have HL := Lib.hid (show zs.length = n by have := h.1; rw [ints_length] at this; omega)
  clear h
  go_enter Try.func65, Try.ntmps65
  go_wp2
  go_loopw [5, 1] (fun iv kv wr => ∃ j : Nat, j ≤ n ∧ iv = .int .i64 j ∧ kv = .int .i64 (k0 + j) ∧ wr.ownsRow base e0 1 (.slice A n c) n (ints (Zs.marked k0 zs j)) ∧ w.grownBy wr (Value.ownBlock (.slice A n c))) (fun i _ _ => n - (intOf i).toNat)
  case atStart => exact ⟨0, by omega, rfl, by simp, by simpa [Zs.marked, Zs.marks] using H.out, World.grownBy.refl _ _⟩
  case round =>
    obtain ⟨j, hj, rfl, rfl, hown, hgr⟩ := hrel
    by_cases hlt : j < n
    · obtain ⟨g, rfl, hg⟩ := own_form hown (by omega)
      have Ho := Lib.hid hown
      have Hg := Lib.hid hgr
      have c0 := own_int hown (k := j) (by rw [Zs.marked_length _ _ _ (by rw [HL.out]; omega), HL.out]; exact hlt)
      have f0 := hown.frozenAt j
      clear hown hgr hg
      go_wp2
      go_roundw
      case rel =>
        refine ⟨j + 1, by omega, by go_num, by go_num, ?_, grown_tr Hg.out (Ho.out.stored _ _).2⟩
        have := (Ho.out.stored j (.int .i64 (k0 + (j : Nat)))).1
        rw [ints_set, Zs.marked_set _ _ _ (by rw [HL.out]; exact hlt)] at this
        exact this
      case measure => simp [intOf]; omega
    · obtain rfl : j = n := by omega
      have Ho := Lib.hid hown
      have Hg := Lib.hid hgr
      clear hown hgr
      go_wp2
      go_ret
      refine ⟨rfl, ?_, Hg.out⟩
      have := Ho.out
      rw [← HL.out, Zs.marked_all, HL.out] at this
      exact this

set_option maxHeartbeats 800000 in
set_option maxRecDepth 100000 in
theorem heldIntS_any (A : Option Addr) (n c base : Nat) (e0 : TypeId) (k0 : Int) (w : World) (h : w.ownsRow base e0 1 (.slice A n c) n (ints (Zs.marks k0 n))) (hn : n ≤ 1048576) (h0 : 0 ≤ k0) (h1 : k0 ≤ 1073741824) :
    Calls Try.prog 66 #[.slice A n c, .int .i64 k0] w fun e w' => e = .returned (.int .i64 (k0 + n)) ∧ w = w' := by
  have H := Lib.hid h
  clear h
  go_enter Try.func66, Try.ntmps66
  go_wp2
  go_loop [5, 1] (fun iv kv => ∃ j : Nat, j ≤ n ∧ iv = .int .i64 j ∧ kv = .int .i64 (k0 + j)) (fun i _ => n - (intOf i).toNat)
  case atStart => exact ⟨0, by omega, rfl, by simp⟩
  case round =>
    obtain ⟨j, hj, rfl, rfl⟩ := hrel
    by_cases hlt : j < n
    · obtain ⟨g, rfl, hg⟩ := own_form H.out (by omega)
      have c0 := own_int H.out (k := j) (by rw [Zs.marks_length]; exact hlt)
      rw [Zs.marks_at _ _ _ hlt] at c0
      clear hg
      go_wp2
      go_round
      case rel => exact ⟨j + 1, by omega, by go_num, by go_num⟩
      case measure => simp [intOf]; omega
    · obtain rfl : j = n := by omega
      go_wp2
      go_ret
      exact ⟨rfl, rfl⟩


end Go.Proofs.Ytlndaflhlkbedaa

/- Contracts (HarC). -/
namespace Go.Proofs.Ytlndaflhlkbedaa
open Go.RowKit
set_option linter.unusedVariables false

set_option maxHeartbeats 1600000 in
set_option maxRecDepth 100000 in
theorem markCost_any (A0 A1 A2 : Option Addr) (c0 c1 c2 base : Nat) (k0 : Int) (k : Co) (w : World) (h : OwnC w base A0 A1 A2 c0 c1 c2 k) (hb : base ≤ w.heap.size) (l0 : k.d.length ≤ 1048576) (l1 : k.i.length ≤ 1048576) (l2 : k.r.length ≤ 1048576) (h0 : 0 ≤ k0) (h1 : k0 ≤ 1000000000) :
    Calls Try.prog 62 #[.agg #[.slice A0 k.d.length c0, .slice A1 k.i.length c1, .slice A2 k.r.length c2], .int .i64 k0] w fun e w' => e = .returned (.int .i64 (k0 + k.d.length + k.i.length + k.r.length)) ∧ OwnC w' base A0 A1 A2 c0 c1 c2 (Co.marks k0 k) ∧ Below base w w' ∧ w.heap.size ≤ w'.heap.size ∧ Only3 (.slice A0 k.d.length c0) (.slice A1 k.i.length c1) (.slice A2 k.r.length c2) w w' := by
  obtain ⟨o0, o1, o2, a01, a02, a12⟩ := h
  obtain ⟨wa, hwa⟩ : ∃ wa, wa = w.alloc (.cells #[.slice A0 k.d.length c0, .slice A1 k.i.length c1, .slice A2 k.r.length c2] 27) := ⟨_, rfl⟩
  have HX := Lib.hid (show Box3 wa w.heap.size (.slice A0 k.d.length c0) (.slice A1 k.i.length c1) (.slice A2 k.r.length c2) by rw [hwa]; exact Box3.made _ _ _ _ _)
  have HSL := Lib.hid (show w.heap.size < wa.heap.size by rw [hwa]; simp)
  have HBW := Lib.hid (show Below base w wa by rw [hwa]; exact (Below.refl _ _).alloc hb _)
  have hl : ∀ (v : Value) (n : Nat) (ys : List Value), w.ownsRow base 3 1 v n ys → ∀ b, v.ownBlock = some b → b ≠ w.heap.size := fun v n ys ho b hb => by have := (ho.lt b hb).2; omega
  have HL := Lib.hid (And.intro (hl _ _ _ o0) (And.intro (hl _ _ _ o1) (hl _ _ _ o2)))
  have HO := Lib.hid (show wa.ownsRow base 3 1 (.slice A0 k.d.length c0) k.d.length (ints k.d) ∧ wa.ownsRow base 3 1 (.slice A1 k.i.length c1) k.i.length (ints k.i) ∧ wa.ownsRow base 3 1 (.slice A2 k.r.length c2) k.r.length (ints k.r) by
    rw [hwa]; exact ⟨o0.alloc _, o1.alloc _, o2.alloc _⟩)
  have HAP := Lib.hid (And.intro a01 (And.intro a02 a12))
  have HSW := Lib.hid (show base ≤ wa.heap.size ∧ w.heap.size ≤ wa.heap.size by rw [hwa]; simp; omega)
  have HON := Lib.hid (show Only3 (.slice A0 k.d.length c0) (.slice A1 k.i.length c1) (.slice A2 k.r.length c2) w wa by rw [hwa]; exact fun i hi _ _ _ => Below.heap_alloc w _ i hi)
  clear o0 o1 o2 a01 a02 a12 hl hb
  obtain ⟨N0, hN0⟩ : ∃ N0 : Int, N0 = (k.d.length : Int) := ⟨_, rfl⟩
  obtain ⟨N1, hN1⟩ : ∃ N1 : Int, N1 = (k.i.length : Int) := ⟨_, rfl⟩
  go_enter Try.func62, Try.ntmps62
  go_wp2_with fail
  rw [← hwa]
  refine (markIntS_any A0 _ c0 base _ k0 k.d _ HO.out.1 l0 h0 (by omega)).mono ?_
  rintro e w1 ⟨rfl, ho, hg⟩
  have HX := Lib.hid (HX.out.grown hg HSL.out HL.out.1)
  have HON := Lib.hid (show Only3 _ _ _ w _ from fun i hi h1 h2 h3 => (hg.block i (Nat.lt_of_lt_of_le hi HSW.out.2) (fun e => h1 e.symm)).trans (HON.out i hi h1 h2 h3))
  have HBW := Lib.hid (own_below_of HBW.out HO.out.1 hg (Nat.le_refl _) HSW.out.1)
  have HO := Lib.hid (And.intro ho (And.intro (World.ownsRow.kept HO.out.2.1 hg HAP.out.1.symm) (World.ownsRow.kept HO.out.2.2 hg HAP.out.2.1.symm)))
  have HSL := Lib.hid (Nat.lt_of_lt_of_le HSL.out hg.size)
  have HSW := Lib.hid (And.intro (Nat.le_trans HSW.out.1 hg.size) (Nat.le_trans HSW.out.2 hg.size))
  clear ho hg
  have g0 := HX.out.2.1
  go_wp2_with fail
  clear g0
  refine (markIntS_any A1 _ c1 base _ (k0 + k.d.length) k.i _ HO.out.2.1 l1 (by omega) (by omega)).mono ?_
  rintro e w2 ⟨rfl, ho, hg⟩
  have HX := Lib.hid (HX.out.grown hg HSL.out HL.out.2.1)
  have HON := Lib.hid (show Only3 _ _ _ w _ from fun i hi h1 h2 h3 => (hg.block i (Nat.lt_of_lt_of_le hi HSW.out.2) (fun e => h2 e.symm)).trans (HON.out i hi h1 h2 h3))
  have HBW := Lib.hid (own_below_of HBW.out HO.out.2.1 hg (Nat.le_refl _) HSW.out.1)
  have HO := Lib.hid (And.intro (World.ownsRow.kept HO.out.1 hg HAP.out.1) (And.intro ho (World.ownsRow.kept HO.out.2.2 hg HAP.out.2.2.symm)))
  have HSL := Lib.hid (Nat.lt_of_lt_of_le HSL.out hg.size)
  have HSW := Lib.hid (And.intro (Nat.le_trans HSW.out.1 hg.size) (Nat.le_trans HSW.out.2 hg.size))
  clear ho hg
  have g0 := HX.out.2.2
  go_wp2_with fail
  clear g0
  refine (markIntS_any A2 _ c2 base _ (k0 + k.d.length + k.i.length) k.r _ HO.out.2.2 l2 (by omega) (by omega)).mono ?_
  rintro e w3 ⟨rfl, ho, hg⟩
  have HON := Lib.hid (show Only3 _ _ _ w _ from fun i hi h1 h2 h3 => (hg.block i (Nat.lt_of_lt_of_le hi HSW.out.2) (fun e => h3 e.symm)).trans (HON.out i hi h1 h2 h3))
  have HBW := Lib.hid (own_below_of HBW.out HO.out.2.2 hg (Nat.le_refl _) HSW.out.1)
  have HO := Lib.hid (And.intro (World.ownsRow.kept HO.out.1 hg HAP.out.2.1) (And.intro (World.ownsRow.kept HO.out.2.1 hg HAP.out.2.2) ho))
  have HSW := Lib.hid (And.intro (Nat.le_trans HSW.out.1 hg.size) (Nat.le_trans HSW.out.2 hg.size))
  clear ho hg
  go_wp2
  go_ret
  refine ⟨rfl, ?_, HBW.out, HSW.out.2, HON.out⟩
  unfold OwnC
  rw [Co.marks_d, Co.marks_i, Co.marks_r]
  exact ⟨HO.out.1, HO.out.2.1, HO.out.2.2, HAP.out⟩

end Go.Proofs.Ytlndaflhlkbedaa

/- Contracts (HarE). -/
namespace Go.Proofs.Ytlndaflhlkbedaa
open Go.RowKit
set_option linter.unusedVariables false

/-- an own row, three others rewritten -/
theorem own_only {w w' : World} {base size n : Nat} {e : TypeId} {v u0 u1 u2 : Value} {ys : List Value} (h : w.ownsRow base e size v n ys) (ho : Only3 u0 u1 u2 w w') (hn : ∀ b, v.ownBlock = some b → u0.ownBlock ≠ some b ∧ u1.ownBlock ≠ some b ∧ u2.ownBlock ≠ some b) : w'.ownsRow base e size v n ys := by
  rcases h with ⟨h1, h2 | ⟨g, cap, cur, rfl, hb, hg, h3⟩⟩
  · exact ⟨h1, .inl h2⟩
  · have hl : g < w.heap.size := (Array.getElem?_eq_some_iff.1 hg).1
    obtain ⟨a, b, c⟩ := hn g rfl
    exact ⟨h1, .inr ⟨g, cap, cur, rfl, hb, (ho g hl a b c).trans hg, h3⟩⟩
theorem OwnC.grown {w w' : World} {base : Nat} {A0 A1 A2 : Option Addr} {c0 c1 c2 : Nat} {k : Co} (h : OwnC w base A0 A1 A2 c0 c1 c2 k) {row : Option Nat} (hg : w.grownBy w' row) (hlt : ∀ g, row = some g → g < base) : OwnC w' base A0 A1 A2 c0 c1 c2 k :=
  ⟨own_grown h.1 hg hlt, own_grown h.2.1 hg hlt, own_grown h.2.2.1 hg hlt, h.2.2.2⟩
theorem Tr.dists_le (xs ys : Tr) (k : Co) : (Tr.dists xs ys k).length ≤ 1048576 := by
  unfold Tr.dists
  split
  · rename_i h
    simp only [Bool.and_eq_true] at h
    have h1 := (Tr.len24 h.1.1).2
    have h2 := (Tr.len24 h.1.2).2
    have h3 : xs.length * ys.length ≤ 24 * 24 := Nat.mul_le_mul h1 h2
    rw [Tr.tds_length]
    omega
  · simp

end Go.Proofs.Ytlndaflhlkbedaa

/- Contracts (NdM). -/
namespace Go.Proofs.Ytlndaflhlkbedaa
open Go.RowKit
set_option linter.unusedVariables false

set_option maxHeartbeats 800000 in
set_option maxRecDepth 100000 in
theorem markNodeS_any (A : Option Addr) (n c base : Nat) (e0 : TypeId) (k0 : Int) (xs : Tr) (w : World) (h : w.ownsRow base e0 2 (.slice A n c) n (Tr.cells xs)) (hn : n ≤ 1048576) (h0 : 0 ≤ k0) (h1 : k0 ≤ 1073741824) :
    Calls Try.prog 61 #[.slice A n c, .int .i64 k0] w fun e w' => e = .returned (.int .i64 (k0 + 2 * n)) ∧ w'.ownsRow base e0 2 (.slice A n c) n (Tr.cells (Tr.marks k0 n)) ∧ w.grownBy w' (Value.ownBlock (.slice A n c)) := by
  have H := Lib.hid h
  have HL := Lib.hid (show xs.length = n by have := h.1; rw [Tr.cells_length] at this; omega)
  clear h
  go_enter Try.func61, Try.ntmps61
  go_wp2
  go_loopw [5, 1] (fun iv kv wr => ∃ j : Nat, j ≤ n ∧ iv = .int .i64 j ∧ kv = .int .i64 (k0 + 2 * j) ∧ wr.ownsRow base e0 2 (.slice A n c) n (Tr.cells (Tr.marked k0 xs j)) ∧ w.grownBy wr (Value.ownBlock (.slice A n c))) (fun i _ _ => n - (intOf i).toNat)
  case atStart => exact ⟨0, by omega, rfl, by simp, by simpa [Tr.marked, Tr.marks] using H.out, World.grownBy.refl _ _⟩
  case round =>
    obtain ⟨j, hj, rfl, rfl, hown, hgr⟩ := hrel
    by_cases hlt : j < n
    · obtain ⟨g, rfl, hg⟩ := own_form hown (by omega)
      have Ho := Lib.hid hown
      have Hg := Lib.hid hgr
      have c0 := own_even hown (k := j) (by rw [Tr.marked_length _ _ _ (by rw [HL.out]; omega), HL.out]; exact hlt)
      have c1 := own_odd hown (k := j) (by rw [Tr.marked_length _ _ _ (by rw [HL.out]; omega), HL.out]; exact hlt)
      have f0 := hown.frozenAt (j * 2)
      have f1 := hown.frozenAt (j * 2 + 1)
      clear hown hgr hg
      go_wp2
      go_roundw
      case rel =>
        refine ⟨j + 1, by omega, by go_num, by go_num, ?_, grown_tr Hg.out (grown_tr (Ho.out.stored _ _).2 ((Ho.out.stored _ _).1.stored _ _).2)⟩
        have := own_set Ho.out j (k0 + 2 * (j : Nat)) (k0 + 2 * (j : Nat) + 1)
        rw [Tr.marked_set _ _ _ (by rw [HL.out]; exact hlt)] at this
        exact this
      case measure => simp [intOf]; omega
    · obtain rfl : j = n := by omega
      have Ho := Lib.hid hown
      have Hg := Lib.hid hgr
      clear hown hgr
      go_wp2
      go_ret
      refine ⟨rfl, ?_, Hg.out⟩
      have := Ho.out
      rw [← HL.out, Tr.marked_all, HL.out] at this
      exact this

end Go.Proofs.Ytlndaflhlkbedaa

/- Contracts of the harness over []Pair: size, copy. -/
namespace Go.Proofs.Ytlndaflhlkbedaa
open Go.RowKit
set_option linter.unusedVariables false

set_option maxHeartbeats 400000 in
theorem szPairS_any (A : Option Addr) (n c : Nat) (left : Int) (w : World) (hn : n ≤ 9223372036854775807) (h0 : 0 ≤ left) (h1 : left ≤ 1048576) :
    Calls Try.prog 55 #[.slice A n c, .int .i64 left] w fun e w' => e = .returned (.int .i64 (if (n : Int) ≤ left then left - n else -1)) ∧ w = w' := by
  by_cases h : (n : Int) ≤ left
  · rw [if_pos h]
    go_enter Try.func55, Try.ntmps55
    go_wp2
    go_ret
    exact ⟨rfl, rfl⟩
  · rw [if_neg h]
    go_enter Try.func55, Try.ntmps55
    go_wp2
    go_ret
    exact ⟨rfl, rfl⟩

set_option maxHeartbeats 400000 in
theorem toPair_any (a b : Int) (w : World) :
    Calls Try.prog 107 #[.agg #[.int .i64 a, .int .i64 b]] w fun e w' => e = .returned (.agg #[.int .i64 a, .int .i64 b]) ∧ Below w.heap.size w w' := by
  go_enter Try.func107, Try.ntmps107
  go_wp2
  exact bodyPost_ret (v := .agg #[.int .i64 a, .int .i64 b]) (by simp [results, Try.results107, go_sem]) rfl ⟨rfl, by repeat' (first | exact Below.refl _ _ | refine Below.alloc ?_ (by simp [Nat.le_add_right, Nat.add_assoc]) _ | refine Below.setCell ?_ (by simp [Nat.add_assoc]) _)⟩

theorem info_pair : (Try.prog.info? 55).map (fun i => (i.zero, i.size, i.bytes)) = some (some (.agg #[.int .i64 0, .int .i64 0]), 2, 16) := by kernel_rfl

set_option maxHeartbeats 800000 in
set_option maxRecDepth 100000 in
theorem toPairS_any (A : Option Addr) (n c : Nat) (xs : Tr) (w : World) (h : NdIn w w.heap.size A n xs) (hn : n ≤ 1048576) :
    Calls Try.prog 57 #[.slice A n c] w fun e w' => e = .returned (.slice (some ⟨w.heap.size, 0, none⟩) n n) ∧
      w'.ownsRow w.heap.size 55 2 (.slice (some ⟨w.heap.size, 0, none⟩) n n) n (Tr.cells xs) ∧ Below w.heap.size w w' := by
  have H := Lib.hid h
  clear h
  have HL := Lib.hid H.out.1
  obtain ⟨i0, hi, hz0, hz1, hz2⟩ := info_parts info_pair
  go_enter Try.func57, Try.ntmps57
  go_wp2_with (at_make; refine wpList_make_full _ rfl _ _ 43 rfl w.heap.size 55 i0 (.agg #[.int .i64 0, .int .i64 0]) 2 Try.underlying43 hi hz0 hz1 _ _ _ _ n rfl rfl rfl rfl (by rw [hz2]; omega) (by unfold maxLen; omega) (Nat.le_refl _) ?_; intro w1 hown1 hgrow1)
  have hb1 : Below w.heap.size w w1 := (Below.refl _ w).grown hgrow1 (Nat.le_refl _) (fun _ h => by cases h)
  rw [made_nodes, ← HL.out, ← Tr.part_none, HL.out] at hown1
  go_loopw [4] (fun iv wr => ∃ k : Nat, k ≤ n ∧ iv = .int .i64 k ∧ wr.ownsRow w.heap.size 55 2 (.slice (some ⟨w.heap.size, 0, none⟩) n n) n (Tr.cells (Tr.part xs k)) ∧ Below w.heap.size w wr) (fun i _ => n - (intOf i).toNat)
  case atStart => exact ⟨0, by omega, rfl, hown1, hb1⟩
  case round =>
    obtain ⟨k, hk, rfl, hown, hB⟩ := hrel
    have hsz := hB.size
    by_cases hlt : k < n
    · obtain ⟨ad, rfl, hb, hl, hd⟩ := (H.out.below hB).at_ hlt
      have Ho := Lib.hid hown
      have HB := Lib.hid hB
      clear hown hB
      go_wp2_with (go_at_call 107; refine (toPair_any _ _ _).mono ?_; rintro e w' ⟨rfl, hb'⟩; have hb2 := Lib.hid hb'; clear hb'; have Ho2 := Lib.hid (own_below Ho.out hb2.out); have c0 := own_even Ho2.out (k := k) (by rw [Tr.part_length _ _ (by rw [HL.out]; omega), HL.out]; omega); have c1 := own_odd Ho2.out (k := k) (by rw [Tr.part_length _ _ (by rw [HL.out]; omega), HL.out]; omega); have f0 := Ho2.out.frozenAt (k * 2); have f1 := Ho2.out.frozenAt (k * 2 + 1))
      go_roundw
      case rel =>
        refine ⟨k + 1, by omega, by go_num, ?_, ?_⟩
        · have := own_set Ho2.out k (Tr.l xs k) (Tr.d xs k)
          rw [Tr.part_set xs k (by rw [HL.out]; exact hlt)] at this
          exact this
        · exact ((HB.out.trans (hb2.out.mono hsz)).setCell (Nat.le_refl _) _).setCell (Nat.le_refl _) _
      case measure => simp [intOf]; omega
    · obtain rfl : k = n := by omega
      rw [← HL.out, Tr.part_full, HL.out] at hown
      go_wp2
      go_ret
      exact ⟨rfl, hown, hB⟩

end Go.Proofs.Ytlndaflhlkbedaa

/- Contracts of the harness over []Pair: equality. -/
namespace Go.Proofs.Ytlndaflhlkbedaa
open Go.RowKit
set_option linter.unusedVariables false

set_option maxHeartbeats 400000 in
theorem eqPair_any (a b c d : Int) (w : World) :
    Calls Try.prog 108 #[.agg #[.int .i64 a, .int .i64 b], .agg #[.int .i64 c, .int .i64 d]] w fun e w' => e = .returned (.bool (decide (a = c ∧ b = d))) ∧ Below w.heap.size w w' := by
  have hB : ∀ o1 o2, Below w.heap.size w ((w.alloc o1).alloc o2) := fun o1 o2 => ((Below.refl _ _).alloc (Nat.le_refl _) _).alloc (by simp) _
  by_cases h1 : a = c
  · by_cases h2 : b = d
    · subst h1 h2
      go_enter Try.func108, Try.ntmps108
      go_wp2
      go_ret
      exact ⟨Kit.ret_bool (by simp), hB _ _⟩
    · have h2' : (b != d) = true := by simpa using h2
      subst h1
      go_enter Try.func108, Try.ntmps108
      go_wp2
      go_ret
      exact ⟨Kit.ret_bool (by simp [h2]), hB _ _⟩
  · have h1' : (a != c) = true := by simpa using h1
    go_enter Try.func108, Try.ntmps108
    go_wp2
    go_ret
    exact ⟨Kit.ret_bool (by simp [h1]), hB _ _⟩


set_option maxHeartbeats 800000 in
set_option maxRecDepth 100000 in
theorem eqPairS_any (A A' : Option Addr) (n c n' c' : Nat) (xs ys : Tr) (w : World) (h : NdIn w w.heap.size A n xs) (h' : NdIn w w.heap.size A' n' ys) (hn : n ≤ 1099511627776) (hn' : n' ≤ 1099511627776) :
    Calls Try.prog 58 #[.slice A n c, .slice A' n' c'] w fun e w' => e = .returned (.bool (decide (xs = ys))) ∧ Below w.heap.size w w' := by
  have H := Lib.hid h
  have H' := Lib.hid h'
  clear h h'
  have HL := Lib.hid H.out.1
  have HL' := Lib.hid H'.out.1
  by_cases hnn : n = n'
  · go_enter Try.func58, Try.ntmps58
    have Hnn := Lib.hid hnn
    have hne : ((n : Int) != (n' : Int)) = false := by simp [hnn]
    clear hnn
    go_wp2
    go_loopw [5] (fun iv wr => ∃ k : Nat, k ≤ n ∧ iv = .int .i64 k ∧ Tr.same xs ys k ∧ Below w.heap.size w wr) (fun i _ => n - (intOf i).toNat)
    case atStart => exact ⟨0, by omega, rfl, fun j hj => absurd hj (by omega), Below.refl _ _⟩
    case round =>
      obtain ⟨k, hk, rfl, hsm, hB⟩ := hrel
      have hsz := hB.size
      have Hsm := Lib.hid hsm
      have HB := Lib.hid hB
      clear hsm hB
      by_cases hlt : k < n
      · obtain ⟨ad, rfl, hb, hl, hd⟩ := (H.out.below HB.out).at_ hlt
        obtain ⟨ad', rfl, hb', hl', hd'⟩ := (H'.out.below HB.out).at_ (k := k) (by rw [← Hnn.out]; exact hlt)
        have hlt' : (k : Int) < (n' : Int) := by rw [← Hnn.out]; omega
        have hk0 : (0 : Int) ≤ (k : Int) := by omega
        have HB2 := Lib.hid HB.out.drew
        have hsz2 := HB.out.drew.size
        by_cases hq : Tr.l xs k = Tr.l ys k ∧ Tr.d xs k = Tr.d ys k
        · have hq' : decide (Tr.l xs k = Tr.l ys k ∧ Tr.d xs k = Tr.d ys k) = true := by simpa using hq
          have Hq := Lib.hid hq
          clear hq
          go_wp2
          go_still_tail 8, (by kernel_rfl)
          change wpList _ _ _ _ _ wr.drew
          generalize wr.drew = w2 at HB2 hsz2 ⊢
          go_wp2_with (go_at_call 108; refine (eqPair_any _ _ _ _ _).mono ?_; rintro e w3 ⟨rfl, hb3⟩)
          go_roundw
          case rel => exact ⟨k + 1, by omega, by go_num, fun j hj => by
            rcases Nat.lt_succ_iff_lt_or_eq.1 hj with h' | rfl
            · exact Hsm.out j h'
            · exact Hq.out, HB2.out.trans (hb3.mono hsz2)⟩
          case measure => simp [intOf]; omega
        · have hq' : decide (Tr.l xs k = Tr.l ys k ∧ Tr.d xs k = Tr.d ys k) = false := by simpa using hq
          have Hq := Lib.hid hq
          clear hq
          go_wp2
          go_still_tail 8, (by kernel_rfl)
          change wpList _ _ _ _ _ wr.drew
          generalize wr.drew = w2 at HB2 hsz2 ⊢
          go_wp2_with (go_at_call 108; refine (eqPair_any _ _ _ _ _).mono ?_; rintro e w3 ⟨rfl, hb3⟩)
          go_ret
          refine ⟨Kit.ret_bool ?_, HB2.out.trans (hb3.mono hsz2)⟩
          symm
          rw [decide_eq_false_iff_not]
          rintro rfl
          exact Hq.out ⟨rfl, rfl⟩
      · obtain rfl : k = n := by omega
        go_wp2
        go_ret
        refine ⟨Kit.ret_bool ?_, HB.out⟩
        symm
        rw [decide_eq_true_eq]
        exact Tr.ext (by rw [HL.out, HL'.out]; exact Hnn.out) (fun j hj => Hsm.out j (by rw [← HL.out]; exact hj))
  · have hne : ((n : Int) != (n' : Int)) = true := by simp; omega
    have Hq := Lib.hid (show decide (xs = ys) = false by
      rw [decide_eq_false_iff_not]; rintro rfl; exact hnn (HL.out.symm.trans HL'.out))
    clear hnn
    go_enter Try.func58, Try.ntmps58
    go_wp2
    go_ret
    exact ⟨Kit.ret_bool Hq.out.symm, Below.refl _ _⟩

end Go.Proofs.Ytlndaflhlkbedaa

/- Contracts (PrM). -/
namespace Go.Proofs.Ytlndaflhlkbedaa
open Go.RowKit
set_option linter.unusedVariables false

set_option maxHeartbeats 800000 in
set_option maxRecDepth 100000 in
theorem markPairS_any (A : Option Addr) (n c base : Nat) (e0 : TypeId) (k0 : Int) (xs : Tr) (w : World) (h : w.ownsRow base e0 2 (.slice A n c) n (Tr.cells xs)) (hn : n ≤ 1099511627776) (h0 : 0 ≤ k0) (h1 : k0 ≤ 1073741824) :
    Calls Try.prog 59 #[.slice A n c, .int .i64 k0] w fun e w' => e = .returned (.int .i64 (k0 + 2 * n)) ∧ w'.ownsRow base e0 2 (.slice A n c) n (Tr.cells (Tr.marks k0 n)) ∧ w.grownBy w' (Value.ownBlock (.slice A n c)) := by
  have H := Lib.hid h
  have HL := Lib.hid (show xs.length = n by have := h.1; rw [Tr.cells_length] at this; omega)
  clear h
  go_enter Try.func59, Try.ntmps59
  go_wp2
  go_loopw [5, 1] (fun iv kv wr => ∃ j : Nat, j ≤ n ∧ iv = .int .i64 j ∧ kv = .int .i64 (k0 + 2 * j) ∧ wr.ownsRow base e0 2 (.slice A n c) n (Tr.cells (Tr.marked k0 xs j)) ∧ w.grownBy wr (Value.ownBlock (.slice A n c))) (fun i _ _ => n - (intOf i).toNat)
  case atStart => exact ⟨0, by omega, rfl, by simp, by simpa [Tr.marked, Tr.marks] using H.out, World.grownBy.refl _ _⟩
  case round =>
    obtain ⟨j, hj, rfl, rfl, hown, hgr⟩ := hrel
    by_cases hlt : j < n
    · obtain ⟨g, rfl, hg⟩ := own_form hown (by omega)
      have Ho := Lib.hid hown
      have Hg := Lib.hid hgr
      have c0 := own_even hown (k := j) (by rw [Tr.marked_length _ _ _ (by rw [HL.out]; omega), HL.out]; exact hlt)
      have c1 := own_odd hown (k := j) (by rw [Tr.marked_length _ _ _ (by rw [HL.out]; omega), HL.out]; exact hlt)
      have f0 := hown.frozenAt (j * 2)
      have f1 := hown.frozenAt (j * 2 + 1)
      clear hown hgr hg
      go_wp2
      go_roundw
      case rel =>
        refine ⟨j + 1, by omega, by go_num, by go_num, ?_, grown_tr Hg.out (grown_tr (Ho.out.stored _ _).2 ((Ho.out.stored _ _).1.stored _ _).2)⟩
        have := own_set Ho.out j (k0 + 2 * (j : Nat)) (k0 + 2 * (j : Nat) + 1)
        rw [Tr.marked_set _ _ _ (by rw [HL.out]; exact hlt)] at this
        exact this
      case measure => simp [intOf]; omega
    · obtain rfl : j = n := by omega
      have Ho := Lib.hid hown
      have Hg := Lib.hid hgr
      clear hown hgr
      go_wp2
      go_ret
      refine ⟨rfl, ?_, Hg.out⟩
      have := Ho.out
      rw [← HL.out, Tr.marked_all, HL.out] at this
      exact this

end Go.Proofs.Ytlndaflhlkbedaa

/- Contracts (PrH). -/
namespace Go.Proofs.Ytlndaflhlkbedaa
open Go.RowKit
set_option linter.unusedVariables false

set_option maxHeartbeats 800000 in
set_option maxRecDepth 100000 in
theorem heldPairS_any (A : Option Addr) (n c base : Nat) (e0 : TypeId) (k0 : Int) (w : World) (h : w.ownsRow base e0 2 (.slice A n c) n (Tr.cells (Tr.marks k0 n))) (hn : n ≤ 1099511627776) (h0 : 0 ≤ k0) (h1 : k0 ≤ 1073741824) :
    Calls Try.prog 60 #[.slice A n c, .int .i64 k0] w fun e w' => e = .returned (.int .i64 (k0 + 2 * n)) ∧ w = w' := by
  have H := Lib.hid h
  clear h
  go_enter Try.func60, Try.ntmps60
  go_wp2
  go_loop [5, 1] (fun iv kv => ∃ j : Nat, j ≤ n ∧ iv = .int .i64 j ∧ kv = .int .i64 (k0 + 2 * j)) (fun i _ => n - (intOf i).toNat)
  case atStart => exact ⟨0, by omega, rfl, by simp⟩
  case round =>
    obtain ⟨j, hj, rfl, rfl⟩ := hrel
    by_cases hlt : j < n
    · obtain ⟨g, rfl, hg⟩ := own_form H.out (by omega)
      have c0 := own_even H.out (k := j) (by rw [Tr.marks_length]; exact hlt)
      have c1 := own_odd H.out (k := j) (by rw [Tr.marks_length]; exact hlt)
      rw [Tr.marks_l _ _ _ hlt] at c0
      rw [Tr.marks_d _ _ _ hlt] at c1
      clear hg
      go_wp2
      go_round
      case rel => exact ⟨j + 1, by omega, by go_num, by go_num⟩
      case measure => simp [intOf]; omega
    · obtain rfl : j = n := by omega
      go_wp2
      go_ret
      exact ⟨rfl, rfl⟩


end Go.Proofs.Ytlndaflhlkbedaa

/- Contracts (ExBestMap). -/
namespace Go.Proofs.Ytlndaflhlkbedaa
open Go.RowKit
set_option linter.unusedVariables false

set_option maxHeartbeats 3200000 in
set_option maxRecDepth 100000 in
theorem exactBestMap_walk (A0 : Option Addr) (n0 c0 : Nat) (x0 : Tr) (A1 : Option Addr) (n1 c1 : Nat) (x1 : Tr) (A20 A21 A22 : Option Addr) (n20 n21 n22 c20 c21 c22 : Nat) (x2 : Co) (le0 : n0 ≤ maxLen) (_wf0 : Tr.wf x0) (le1 : n1 ≤ maxLen) (_wf1 : Tr.wf x1) (le20 : n20 ≤ maxLen) (le21 : n21 ≤ maxLen) (le22 : n22 ≤ maxLen) (w : World) (h0 : NdIn w w.heap.size A0 n0 x0) (h1 : NdIn w w.heap.size A1 n1 x1) (h2 : CoIn w w.heap.size A20 A21 A22 n20 n21 n22 x2) :
    Calls Try.prog 11 #[.slice A0 n0 c0, .slice A1 n1 c1, .agg #[.slice A20 n20 c20, .slice A21 n21 c21, .slice A22 n22 c22]] w fun e w' => e = .returned (.bool true) ∧ Below w.heap.size w w' := by
  have Ia0 := Lib.hid h0
  have Hn0 := Lib.hid h0.1
  clear h0
  unfold maxLen at le0
  have Ia1 := Lib.hid h1
  have Hn1 := Lib.hid h1.1
  clear h1
  unfold maxLen at le1
  have Ia2 := Lib.hid h2
  have Hn2 := Lib.hid h2.len
  clear h2
  unfold maxLen at le20 le21 le22
  obtain ⟨wa, hwa⟩ : ∃ wa, wa = (w.alloc (.cells #[.slice A20 n20 c20, .slice A21 n21 c21, .slice A22 n22 c22] 58)) := ⟨_, rfl⟩
  have LW := Lib.hid (show Below w.heap.size w wa by rw [hwa]; exact (Below.refl _ _).alloc (Nat.le_refl _) _)
  have HX2 := Lib.hid (show Box3 wa (w.heap.size) (.slice A20 n20 c20) (.slice A21 n21 c21) (.slice A22 n22 c22) by rw [hwa]; exact Box3.made _ _ _ _ _)
  have GL2 := Lib.hid (show w.heap.size < wa.heap.size by rw [hwa]; simp)
  have LB2 := Lib.hid (Below.refl wa.heap.size wa)
  have HWA := Lib.hid hwa
  clear hwa
  by_cases hs0 : (n0) ≤ 1048576
  rotate_left
  · go_enter Try.func11, Try.ntmps11
    go_wp2_with fail
    rw [← HWA.out]
    refine (szNodeS_any _ _ _ _ _ le0 (by omega) (by omega)).mono ?_
    rintro e w' ⟨rfl, rfl⟩
    rw [if_neg (by omega)]
    go_wp2
    go_ret
    exact ⟨rfl, LW.out⟩
  by_cases hs1 : (n0) + (n1) ≤ 1048576
  rotate_left
  · go_enter Try.func11, Try.ntmps11
    go_wp2_with fail
    rw [← HWA.out]
    refine (szNodeS_any _ _ _ _ _ le0 (by omega) (by omega)).mono ?_
    rintro e w' ⟨rfl, rfl⟩
    rw [if_pos (by omega)]
    go_wp2_with fail
    refine (szNodeS_any _ _ _ _ _ le1 (by omega) (by omega)).mono ?_
    rintro e w' ⟨rfl, rfl⟩
    rw [if_neg (by omega)]
    go_wp2
    go_ret
    exact ⟨rfl, LW.out⟩
  by_cases hs2 : (n0) + (n1) + (n20 + n21 + n22) ≤ 1048576
  rotate_left
  · go_enter Try.func11, Try.ntmps11
    go_wp2_with fail
    rw [← HWA.out]
    refine (szNodeS_any _ _ _ _ _ le0 (by omega) (by omega)).mono ?_
    rintro e w' ⟨rfl, rfl⟩
    rw [if_pos (by omega)]
    go_wp2_with fail
    refine (szNodeS_any _ _ _ _ _ le1 (by omega) (by omega)).mono ?_
    rintro e w' ⟨rfl, rfl⟩
    rw [if_pos (by omega)]
    obtain ⟨g20, g21, g22⟩ := HX2.out.below LB2.out GL2.out
    go_wp2_with fail
    clear g20 g21 g22
    refine (szCost_any _ _ _ _ _ _ _ _ _ _ _ (by omega) (by omega) (by omega) (by omega) (by omega)).mono ?_
    rintro e w1 ⟨rfl, hb⟩
    have LB2 := Lib.hid (LB2.out.trans (hb.mono LB2.out.size))
    have LW := Lib.hid (LW.out.trans (hb.mono LW.out.size))
    clear hb
    rw [if_neg (by omega)]
    go_wp2
    go_ret
    exact ⟨rfl, LW.out⟩
  have hn0 : n0 ≤ 1048576 := by omega
  have hn1 : n1 ≤ 1048576 := by omega
  have hn20 : n20 ≤ 1048576 := by omega
  have hn21 : n21 ≤ 1048576 := by omega
  have hn22 : n22 ≤ 1048576 := by omega
  have La0 := Lib.hid LW.out
  have La1 := Lib.hid LW.out
  have La2 := Lib.hid LW.out
  have HN : (Bm.best x0 x1 x2).length ≤ 1099511627776 := Nat.le_trans (Bm.best_len x0 x1 x2) (by decide)
  go_enter Try.func11, Try.ntmps11
  go_wp2_with fail
  rw [← HWA.out]
  refine (szNodeS_any _ _ _ _ _ le0 (by omega) (by omega)).mono ?_
  rintro e w' ⟨rfl, rfl⟩
  rw [if_pos (by omega)]
  go_wp2_with fail
  refine (szNodeS_any _ _ _ _ _ le1 (by omega) (by omega)).mono ?_
  rintro e w' ⟨rfl, rfl⟩
  rw [if_pos (by omega)]
  obtain ⟨g20, g21, g22⟩ := HX2.out.below LB2.out GL2.out
  go_wp2_with fail
  clear g20 g21 g22
  refine (szCost_any _ _ _ _ _ _ _ _ _ _ _ (by omega) (by omega) (by omega) (by omega) (by omega)).mono ?_
  rintro e w1 ⟨rfl, hb⟩
  have La0 := Lib.hid (La0.out.trans (hb.mono La0.out.size))
  have La1 := Lib.hid (La1.out.trans (hb.mono La1.out.size))
  have La2 := Lib.hid (La2.out.trans (hb.mono La2.out.size))
  have LB2 := Lib.hid (LB2.out.trans (hb.mono LB2.out.size))
  have LW := Lib.hid (LW.out.trans (hb.mono LW.out.size))
  clear hb
  rw [if_pos (by omega)]
  obtain ⟨g20, g21, g22⟩ := HX2.out.below LB2.out GL2.out
  obtain ⟨g20, g21, g22⟩ := HX2.out.below LB2.out GL2.out
  go_wp2_with fail
  have S0 := Lib.hid (show w1.drew.cell? ⟨w.heap.size, 0, none⟩ = some (.slice A20 n20 c20) ∧ w1.drew.cell? ⟨w.heap.size, 1, none⟩ = some (.slice A21 n21 c21) ∧ w1.drew.cell? ⟨w.heap.size, 2, none⟩ = some (.slice A22 n22 c22) ∧ w1.drew.cell? ⟨w.heap.size, 0, none⟩ = some (.slice A20 n20 c20) ∧ w1.drew.cell? ⟨w.heap.size, 1, none⟩ = some (.slice A21 n21 c21) ∧ w1.drew.cell? ⟨w.heap.size, 2, none⟩ = some (.slice A22 n22 c22) ∧ SixG w1 (w.heap.size) (w.heap.size) w1.drew from ⟨g20, g21, g22, g20, g21, g22, (Below.refl _ _).drew, Nat.lt_of_lt_of_le GL2.out LB2.out.size, Nat.lt_of_lt_of_le GL2.out LB2.out.size⟩)
  clear g20 g21 g22
  clear g20 g21 g22
  go_region_held3 (fun wq => wq.cell? ⟨w.heap.size, 0, none⟩ = some (.slice A20 n20 c20) ∧ wq.cell? ⟨w.heap.size, 1, none⟩ = some (.slice A21 n21 c21) ∧ wq.cell? ⟨w.heap.size, 2, none⟩ = some (.slice A22 n22 c22) ∧ wq.cell? ⟨w.heap.size, 0, none⟩ = some (.slice A20 n20 c20) ∧ wq.cell? ⟨w.heap.size, 1, none⟩ = some (.slice A21 n21 c21) ∧ wq.cell? ⟨w.heap.size, 2, none⟩ = some (.slice A22 n22 c22) ∧ SixG w1 (w.heap.size) (w.heap.size) wq) (first | exact S0.out | (refine six_keep ?_ hb; assumption)) (first | (go_at_call 50; (fail_if_success (have := ts0)); refine (toNodeS_any _ _ _ x0 _ (Ia0.out.to_below (La0.out.trans ((six_below (by assumption)).mono La0.out.size))) hn0).mono ?_; rintro e w2 ⟨rfl, ho, hb⟩; have ts0 := True.intro; have Is0 := Lib.hid (NdIn.of_own ho); clear ho) | (go_at_call 50; (fail_if_success (have := ts1)); refine (toNodeS_any _ _ _ x1 _ (Ia1.out.to_below (La1.out.trans ((six_below (by assumption)).mono La1.out.size))) hn1).mono ?_; rintro e w3 ⟨rfl, ho, hb⟩; have ts1 := True.intro; have Is0 := Lib.hid (Is0.out.to_below hb); have Is1 := Lib.hid (NdIn.of_own ho); clear ho) | (go_at_call 51; refine (toCost_any _ _ _ _ _ _ _ _ _ x2 _ (Ia2.out.to_below (La2.out.trans ((six_below (by assumption)).mono La2.out.size))) hn20 hn21 hn22).mono ?_; rintro e w4 ⟨As0, As1, As2, cs0, cs1, cs2, rfl, o0, o1, o2, _, _, _, hb⟩; have Is0 := Lib.hid (Is0.out.to_below hb); have Is1 := Lib.hid (Is1.out.to_below hb); have Is2 := Lib.hid (show CoIn w4 w4.heap.size As0 As1 As2 x2.d.length x2.i.length x2.r.length x2 from ⟨IntIn.of_own o0, IntIn.of_own o1, IntIn.of_own o2⟩); clear o0 o1 o2) | (go_at_call 43; refine (specBestMap_any (c := _) (c' := _) (c0 := _) (c1 := _) (c2 := _) (ha := Is0.out) (hb := Is1.out) (hk := Is2.out) (hn := hn0) (hn' := hn1) (h0 := (by rw [Hn2.out.1]; exact hn20)) (h1 := (by rw [Hn2.out.2.1]; exact hn21)) (h2 := (by rw [Hn2.out.2.2]; exact hn22))).mono ?_; rintro e w5 ⟨Aw0, cw0, rfl, how, hb⟩))
  have hb := Lib.hid (show SixG w1 (w.heap.size) (w.heap.size) w5 by (first | (rename_i q; exact q.2.2.2.2.2.2) | (rename_i q _; exact q.2.2.2.2.2.2)))
  have hb := hb.out.1
  clear S0
  have La0 := Lib.hid (La0.out.trans (hb.mono La0.out.size))
  have La1 := Lib.hid (La1.out.trans (hb.mono La1.out.size))
  have La2 := Lib.hid (La2.out.trans (hb.mono La2.out.size))
  have LB2 := Lib.hid (LB2.out.trans (hb.mono LB2.out.size))
  have LW := Lib.hid (LW.out.trans (hb.mono LW.out.size))
  clear hb
  clear Is2 Is0 Is1 ts0 ts1
  have Iw0 := Lib.hid (NdIn.of_own how)
  have Lw0 := Lib.hid (Below.refl w5.heap.size w5)
  clear how
  go_wp2_with fail
  have Ma0_x0 := Lib.hid La0.out.size
  have Ma1_x0 := Lib.hid La1.out.size
  have Ma2_x0 := Lib.hid La2.out.size
  have Mw0_x0 := Lib.hid Lw0.out.size
  have MB2_x0 := Lib.hid LB2.out.size
  have MW_x0 := Lib.hid LW.out.size
  refine (toNodeS_any _ _ _ x0 _ (Ia0.out.to_below La0.out) hn0).mono ?_
  rintro e w6 ⟨rfl, ho, hb⟩
  have La0 := Lib.hid (La0.out.trans (hb.mono La0.out.size))
  have La1 := Lib.hid (La1.out.trans (hb.mono La1.out.size))
  have La2 := Lib.hid (La2.out.trans (hb.mono La2.out.size))
  have Lw0 := Lib.hid (Lw0.out.trans (hb.mono Lw0.out.size))
  have LB2 := Lib.hid (LB2.out.trans (hb.mono LB2.out.size))
  have LW := Lib.hid (LW.out.trans (hb.mono LW.out.size))
  clear hb
  have Ox0 := Lib.hid ho
  clear ho
  go_wp2_with fail
  have Ma0_x1 := Lib.hid La0.out.size
  have Ma1_x1 := Lib.hid La1.out.size
  have Ma2_x1 := Lib.hid La2.out.size
  have Mw0_x1 := Lib.hid Lw0.out.size
  have MB2_x1 := Lib.hid LB2.out.size
  have MW_x1 := Lib.hid LW.out.size
  have Mx0_x1 := Lib.hid (fun k hk => (Ox0.out.lt k hk).2)
  refine (toNodeS_any _ _ _ x1 _ (Ia1.out.to_below La1.out) hn1).mono ?_
  rintro e w7 ⟨rfl, ho, hb⟩
  have Ox0 := Lib.hid (own_below Ox0.out hb)
  have La0 := Lib.hid (La0.out.trans (hb.mono La0.out.size))
  have La1 := Lib.hid (La1.out.trans (hb.mono La1.out.size))
  have La2 := Lib.hid (La2.out.trans (hb.mono La2.out.size))
  have Lw0 := Lib.hid (Lw0.out.trans (hb.mono Lw0.out.size))
  have LB2 := Lib.hid (LB2.out.trans (hb.mono LB2.out.size))
  have LW := Lib.hid (LW.out.trans (hb.mono LW.out.size))
  clear hb
  have Ox1 := Lib.hid ho
  clear ho
  obtain ⟨g20, g21, g22⟩ := HX2.out.below LB2.out GL2.out
  go_wp2_with fail
  clear g20 g21 g22
  have Ma0_x2 := Lib.hid La0.out.size
  have Ma1_x2 := Lib.hid La1.out.size
  have Ma2_x2 := Lib.hid La2.out.size
  have Mw0_x2 := Lib.hid Lw0.out.size
  have MB2_x2 := Lib.hid LB2.out.size
  have MW_x2 := Lib.hid LW.out.size
  have Mx0_x2 := Lib.hid (fun k hk => (Ox0.out.lt k hk).2)
  have Mx1_x2 := Lib.hid (fun k hk => (Ox1.out.lt k hk).2)
  refine (toCost_any _ _ _ _ _ _ _ _ _ x2 _ (Ia2.out.to_below La2.out) hn20 hn21 hn22).mono ?_
  rintro e w8 ⟨Ax20, Ax21, Ax22, cx20, cx21, cx22, rfl, o0, o1, o2, a01, a02, a12, hb⟩
  have hsz := hb.size
  have Ox0 := Lib.hid (own_below Ox0.out hb)
  have Ox1 := Lib.hid (own_below Ox1.out hb)
  have La0 := Lib.hid (La0.out.trans (hb.mono La0.out.size))
  have La1 := Lib.hid (La1.out.trans (hb.mono La1.out.size))
  have La2 := Lib.hid (La2.out.trans (hb.mono La2.out.size))
  have Lw0 := Lib.hid (Lw0.out.trans (hb.mono Lw0.out.size))
  have LB2 := Lib.hid (LB2.out.trans (hb.mono LB2.out.size))
  have LW := Lib.hid (LW.out.trans (hb.mono LW.out.size))
  clear hb
  have Ox2 := Lib.hid (show OwnC w8 w7.heap.size Ax20 Ax21 Ax22 cx20 cx21 cx22 x2 from ⟨o0, o1, o2, a01, a02, a12⟩)
  have Sx2 := Lib.hid hsz
  clear hsz o0 o1 o2 a01 a02 a12
  have MBx2_x0 := Lib.hid (fun k hk => (Ox0.out.lt k hk).2)
  have MBx2_x1 := Lib.hid (fun k hk => (Ox1.out.lt k hk).2)
  have MBx2_x2 := Lib.hid (OwnC.lt Ox2.out (Nat.le_refl w8.heap.size))
  obtain ⟨w9, hw⟩ : ∃ wb, wb = w8.alloc (.cells #[.slice Ax20 x2.d.length cx20, .slice Ax21 x2.i.length cx21, .slice Ax22 x2.r.length cx22] 27) := ⟨_, rfl⟩
  have hb : Below w8.heap.size w8 w9 := by rw [hw]; exact (Below.refl _ _).alloc (Nat.le_refl _) _
  have Ox0 := Lib.hid (own_below Ox0.out hb)
  have Ox1 := Lib.hid (own_below Ox1.out hb)
  have Ox2 := Lib.hid (Ox2.out.below hb)
  have Sx2 := Lib.hid (Nat.le_trans Sx2.out hb.size)
  have La0 := Lib.hid (La0.out.trans (hb.mono La0.out.size))
  have La1 := Lib.hid (La1.out.trans (hb.mono La1.out.size))
  have La2 := Lib.hid (La2.out.trans (hb.mono La2.out.size))
  have Lw0 := Lib.hid (Lw0.out.trans (hb.mono Lw0.out.size))
  have LB2 := Lib.hid (LB2.out.trans (hb.mono LB2.out.size))
  have LW := Lib.hid (LW.out.trans (hb.mono LW.out.size))
  clear hb
  have HXx2 := Lib.hid (show Box3 w9 w8.heap.size (.slice Ax20 x2.d.length cx20) (.slice Ax21 x2.i.length cx21) (.slice Ax22 x2.r.length cx22) by rw [hw]; exact Box3.made _ _ _ _ _)
  have GLx2 := Lib.hid (show w8.heap.size < w9.heap.size by rw [hw]; simp)
  have LBx2 := Lib.hid (Below.refl w9.heap.size w9)
  have HW := Lib.hid hw
  clear hw
  obtain ⟨gx20, gx21, gx22⟩ := HXx2.out.below LBx2.out GLx2.out
  rw [HW.out] at gx20 gx21 gx22
  go_wp2_with fail
  clear gx20 gx21 gx22
  rw [← HW.out]
  clear HW
  have Ma0_g0 := Lib.hid La0.out.size
  have Ma1_g0 := Lib.hid La1.out.size
  have Ma2_g0 := Lib.hid La2.out.size
  have Mw0_g0 := Lib.hid Lw0.out.size
  have MB2_g0 := Lib.hid LB2.out.size
  have MBx2_g0 := Lib.hid LBx2.out.size
  have MW_g0 := Lib.hid LW.out.size
  have Mx0_g0 := Lib.hid (fun k hk => (Ox0.out.lt k hk).2)
  have Mx1_g0 := Lib.hid (fun k hk => (Ox1.out.lt k hk).2)
  have Mx2_g0 := Lib.hid (fun s (hs : w9.heap.size ≤ s) => OwnC.lt Ox2.out hs)
  refine (implBestMap_any (c := _) (c' := _) (c0 := _) (c1 := _) (c2 := _) (ha := (NdIn.of_own Ox0.out)) (hb := (NdIn.of_own Ox1.out)) (hk := Ox2.out.to_in) (hn := hn0) (hn' := hn1) (h0 := (by rw [Hn2.out.1]; exact hn20)) (h1 := (by rw [Hn2.out.2.1]; exact hn21)) (h2 := (by rw [Hn2.out.2.2]; exact hn22)) (hc := Nat.le_refl _) (hc' := Nat.le_refl _)).mono ?_
  rintro e w10 ⟨Ag0, cg0, rfl, ho, hb⟩
  have Ox0 := Lib.hid (own_below Ox0.out hb)
  have Ox1 := Lib.hid (own_below Ox1.out hb)
  have Ox2 := Lib.hid (Ox2.out.below hb)
  have Sx2 := Lib.hid (Nat.le_trans Sx2.out hb.size)
  have La0 := Lib.hid (La0.out.trans (hb.mono La0.out.size))
  have La1 := Lib.hid (La1.out.trans (hb.mono La1.out.size))
  have La2 := Lib.hid (La2.out.trans (hb.mono La2.out.size))
  have Lw0 := Lib.hid (Lw0.out.trans (hb.mono Lw0.out.size))
  have LB2 := Lib.hid (LB2.out.trans (hb.mono LB2.out.size))
  have LBx2 := Lib.hid (LBx2.out.trans (hb.mono LBx2.out.size))
  have LW := Lib.hid (LW.out.trans (hb.mono LW.out.size))
  clear hb
  have Og0 := Lib.hid ho
  clear ho
  go_wp2_with fail
  refine (eqPairS_any _ _ _ _ _ _ (Bm.best x0 x1 x2) (Bm.best x0 x1 x2) _ (NdIn.of_own Og0.out) (Iw0.out.to_below Lw0.out) HN HN).mono ?_
  rintro e w11 ⟨rfl, hb⟩
  have Ox0 := Lib.hid (own_below Ox0.out hb)
  have Ox1 := Lib.hid (own_below Ox1.out hb)
  have Ox2 := Lib.hid (Ox2.out.below hb)
  have Sx2 := Lib.hid (Nat.le_trans Sx2.out hb.size)
  have Og0 := Lib.hid (own_below Og0.out hb)
  have La0 := Lib.hid (La0.out.trans (hb.mono La0.out.size))
  have La1 := Lib.hid (La1.out.trans (hb.mono La1.out.size))
  have La2 := Lib.hid (La2.out.trans (hb.mono La2.out.size))
  have Lw0 := Lib.hid (Lw0.out.trans (hb.mono Lw0.out.size))
  have LB2 := Lib.hid (LB2.out.trans (hb.mono LB2.out.size))
  have LBx2 := Lib.hid (LBx2.out.trans (hb.mono LBx2.out.size))
  have LW := Lib.hid (LW.out.trans (hb.mono LW.out.size))
  clear hb
  go_wp2_with fail
  refine (toNodeS_any _ _ _ x0 _ (Ia0.out.to_below La0.out) hn0).mono ?_
  rintro e w12 ⟨rfl, ho, hb⟩
  have Ox0 := Lib.hid (own_below Ox0.out hb)
  have Ox1 := Lib.hid (own_below Ox1.out hb)
  have Ox2 := Lib.hid (Ox2.out.below hb)
  have Sx2 := Lib.hid (Nat.le_trans Sx2.out hb.size)
  have Og0 := Lib.hid (own_below Og0.out hb)
  have La0 := Lib.hid (La0.out.trans (hb.mono La0.out.size))
  have La1 := Lib.hid (La1.out.trans (hb.mono La1.out.size))
  have La2 := Lib.hid (La2.out.trans (hb.mono La2.out.size))
  have Lw0 := Lib.hid (Lw0.out.trans (hb.mono Lw0.out.size))
  have LB2 := Lib.hid (LB2.out.trans (hb.mono LB2.out.size))
  have LBx2 := Lib.hid (LBx2.out.trans (hb.mono LBx2.out.size))
  have LW := Lib.hid (LW.out.trans (hb.mono LW.out.size))
  clear hb
  have Iy0 := Lib.hid (NdIn.of_own ho)
  have Ly0 := Lib.hid (Below.refl w12.heap.size w12)
  clear ho
  go_wp2_with fail
  refine (eqNodeS_any _ _ _ _ _ _ x0 x0 _ (NdIn.of_own Ox0.out) (Iy0.out.to_below Ly0.out) hn0 hn0).mono ?_
  rintro e w13 ⟨rfl, hb⟩
  have Ox0 := Lib.hid (own_below Ox0.out hb)
  have Ox1 := Lib.hid (own_below Ox1.out hb)
  have Ox2 := Lib.hid (Ox2.out.below hb)
  have Sx2 := Lib.hid (Nat.le_trans Sx2.out hb.size)
  have Og0 := Lib.hid (own_below Og0.out hb)
  have La0 := Lib.hid (La0.out.trans (hb.mono La0.out.size))
  have La1 := Lib.hid (La1.out.trans (hb.mono La1.out.size))
  have La2 := Lib.hid (La2.out.trans (hb.mono La2.out.size))
  have Lw0 := Lib.hid (Lw0.out.trans (hb.mono Lw0.out.size))
  have Ly0 := Lib.hid (Ly0.out.trans (hb.mono Ly0.out.size))
  have LB2 := Lib.hid (LB2.out.trans (hb.mono LB2.out.size))
  have LBx2 := Lib.hid (LBx2.out.trans (hb.mono LBx2.out.size))
  have LW := Lib.hid (LW.out.trans (hb.mono LW.out.size))
  clear hb
  go_wp2_with fail
  refine (toNodeS_any _ _ _ x1 _ (Ia1.out.to_below La1.out) hn1).mono ?_
  rintro e w14 ⟨rfl, ho, hb⟩
  have Ox0 := Lib.hid (own_below Ox0.out hb)
  have Ox1 := Lib.hid (own_below Ox1.out hb)
  have Ox2 := Lib.hid (Ox2.out.below hb)
  have Sx2 := Lib.hid (Nat.le_trans Sx2.out hb.size)
  have Og0 := Lib.hid (own_below Og0.out hb)
  have La0 := Lib.hid (La0.out.trans (hb.mono La0.out.size))
  have La1 := Lib.hid (La1.out.trans (hb.mono La1.out.size))
  have La2 := Lib.hid (La2.out.trans (hb.mono La2.out.size))
  have Lw0 := Lib.hid (Lw0.out.trans (hb.mono Lw0.out.size))
  have LB2 := Lib.hid (LB2.out.trans (hb.mono LB2.out.size))
  have LBx2 := Lib.hid (LBx2.out.trans (hb.mono LBx2.out.size))
  have LW := Lib.hid (LW.out.trans (hb.mono LW.out.size))
  clear hb
  have Iy1 := Lib.hid (NdIn.of_own ho)
  have Ly1 := Lib.hid (Below.refl w14.heap.size w14)
  clear ho
  go_wp2_with fail
  refine (eqNodeS_any _ _ _ _ _ _ x1 x1 _ (NdIn.of_own Ox1.out) (Iy1.out.to_below Ly1.out) hn1 hn1).mono ?_
  rintro e w15 ⟨rfl, hb⟩
  have Ox0 := Lib.hid (own_below Ox0.out hb)
  have Ox1 := Lib.hid (own_below Ox1.out hb)
  have Ox2 := Lib.hid (Ox2.out.below hb)
  have Sx2 := Lib.hid (Nat.le_trans Sx2.out hb.size)
  have Og0 := Lib.hid (own_below Og0.out hb)
  have La0 := Lib.hid (La0.out.trans (hb.mono La0.out.size))
  have La1 := Lib.hid (La1.out.trans (hb.mono La1.out.size))
  have La2 := Lib.hid (La2.out.trans (hb.mono La2.out.size))
  have Lw0 := Lib.hid (Lw0.out.trans (hb.mono Lw0.out.size))
  have Ly1 := Lib.hid (Ly1.out.trans (hb.mono Ly1.out.size))
  have LB2 := Lib.hid (LB2.out.trans (hb.mono LB2.out.size))
  have LBx2 := Lib.hid (LBx2.out.trans (hb.mono LBx2.out.size))
  have LW := Lib.hid (LW.out.trans (hb.mono LW.out.size))
  clear hb
  obtain ⟨gx20, gx21, gx22⟩ := HXx2.out.below LBx2.out GLx2.out
  obtain ⟨g20, g21, g22⟩ := HX2.out.below LB2.out GL2.out
  go_wp2_with fail
  have S0 := Lib.hid (show w15.drew.cell? ⟨w8.heap.size, 0, none⟩ = some (.slice Ax20 x2.d.length cx20) ∧ w15.drew.cell? ⟨w8.heap.size, 1, none⟩ = some (.slice Ax21 x2.i.length cx21) ∧ w15.drew.cell? ⟨w8.heap.size, 2, none⟩ = some (.slice Ax22 x2.r.length cx22) ∧ w15.drew.cell? ⟨w.heap.size, 0, none⟩ = some (.slice A20 n20 c20) ∧ w15.drew.cell? ⟨w.heap.size, 1, none⟩ = some (.slice A21 n21 c21) ∧ w15.drew.cell? ⟨w.heap.size, 2, none⟩ = some (.slice A22 n22 c22) ∧ SixG w15 (w8.heap.size) (w.heap.size) w15.drew from ⟨gx20, gx21, gx22, g20, g21, g22, (Below.refl _ _).drew, Nat.lt_of_lt_of_le GLx2.out LBx2.out.size, Nat.lt_of_lt_of_le GL2.out LB2.out.size⟩)
  clear gx20 gx21 gx22
  clear g20 g21 g22
  go_region_held3 (fun wq => wq.cell? ⟨w8.heap.size, 0, none⟩ = some (.slice Ax20 x2.d.length cx20) ∧ wq.cell? ⟨w8.heap.size, 1, none⟩ = some (.slice Ax21 x2.i.length cx21) ∧ wq.cell? ⟨w8.heap.size, 2, none⟩ = some (.slice Ax22 x2.r.length cx22) ∧ wq.cell? ⟨w.heap.size, 0, none⟩ = some (.slice A20 n20 c20) ∧ wq.cell? ⟨w.heap.size, 1, none⟩ = some (.slice A21 n21 c21) ∧ wq.cell? ⟨w.heap.size, 2, none⟩ = some (.slice A22 n22 c22) ∧ SixG w15 (w8.heap.size) (w.heap.size) wq) (first | exact S0.out | (refine six_keep ?_ hb; assumption)) (first | (go_at_call 51; refine (toCost_any _ _ _ _ _ _ _ _ _ x2 _ (Ia2.out.to_below (La2.out.trans ((six_below (by assumption)).mono La2.out.size))) hn20 hn21 hn22).mono ?_; rintro e w16 ⟨Ay20, Ay21, Ay22, cy20, cy21, cy22, rfl, o0, o1, o2, _, _, _, hb⟩) | (go_at_call 53; refine (eqCost_any _ _ _ _ _ _ _ _ _ x2 _ _ _ _ _ _ _ _ _ x2 _ (Ox2.out.to_in.to_below (six_below (by assumption))) ⟨IntIn.of_own o0, IntIn.of_own o1, IntIn.of_own o2⟩ (by rw [Hn2.out.1]; exact hn20) (by rw [Hn2.out.2.1]; exact hn21) (by rw [Hn2.out.2.2]; exact hn22) (by rw [Hn2.out.1]; exact hn20) (by rw [Hn2.out.2.1]; exact hn21) (by rw [Hn2.out.2.2]; exact hn22)).mono ?_; rintro e w17 ⟨rfl, hb⟩; rw [Co.same_self]))
  have hb := Lib.hid (show SixG w15 (w8.heap.size) (w.heap.size) w17 by (first | (rename_i q; exact q.2.2.2.2.2.2) | (rename_i q _; exact q.2.2.2.2.2.2)))
  have hb := hb.out.1
  clear S0
  have Ox0 := Lib.hid (own_below Ox0.out hb)
  have Ox1 := Lib.hid (own_below Ox1.out hb)
  have Ox2 := Lib.hid (Ox2.out.below hb)
  have Sx2 := Lib.hid (Nat.le_trans Sx2.out hb.size)
  have Og0 := Lib.hid (own_below Og0.out hb)
  have La0 := Lib.hid (La0.out.trans (hb.mono La0.out.size))
  have La1 := Lib.hid (La1.out.trans (hb.mono La1.out.size))
  have La2 := Lib.hid (La2.out.trans (hb.mono La2.out.size))
  have Lw0 := Lib.hid (Lw0.out.trans (hb.mono Lw0.out.size))
  have LB2 := Lib.hid (LB2.out.trans (hb.mono LB2.out.size))
  have LBx2 := Lib.hid (LBx2.out.trans (hb.mono LBx2.out.size))
  have LW := Lib.hid (LW.out.trans (hb.mono LW.out.size))
  clear hb
  go_wp2_with fail
  refine (markNodeS_any _ _ _ _ _ _ x0 _ Ox0.out hn0 (by omega) (by omega)).mono ?_
  rintro e w18 ⟨rfl, ho, hg⟩
  have La0 := Lib.hid (La0.out.grown hg La0.out.size (fun k hk => Nat.le_trans Ma0_x0.out (Ox0.out.lt k hk).1))
  have La1 := Lib.hid (La1.out.grown hg La1.out.size (fun k hk => Nat.le_trans Ma1_x0.out (Ox0.out.lt k hk).1))
  have La2 := Lib.hid (La2.out.grown hg La2.out.size (fun k hk => Nat.le_trans Ma2_x0.out (Ox0.out.lt k hk).1))
  have Lw0 := Lib.hid (Lw0.out.grown hg Lw0.out.size (fun k hk => Nat.le_trans Mw0_x0.out (Ox0.out.lt k hk).1))
  have LW := Lib.hid (LW.out.grown hg LW.out.size (fun k hk => Nat.le_trans MW_x0.out (Ox0.out.lt k hk).1))
  have LB2 := Lib.hid (LB2.out.grown hg LB2.out.size (fun k hk => Nat.le_trans MB2_x0.out (Ox0.out.lt k hk).1))
  have hx := HXx2.out.below LBx2.out GLx2.out
  have hl := Nat.lt_of_lt_of_le GLx2.out LBx2.out.size
  have HXx2 := Lib.hid (hx.grown hg hl (fun k hk e => by have := MBx2_x0.out k hk; omega))
  have GLx2 := Lib.hid (Nat.lt_of_lt_of_le hl hg.size)
  have LBx2 := Lib.hid (Below.refl w18.heap.size w18)
  clear hx hl
  have Ox1 := Lib.hid (own_grown Ox1.out hg Mx0_x1.out)
  have Ox2 := Lib.hid (Ox2.out.grown hg Mx0_x2.out)
  have Sx2 := Lib.hid (Nat.le_trans Sx2.out hg.size)
  have Og0 := Lib.hid (own_grown Og0.out hg Mx0_g0.out)
  clear ho hg
  go_wp2_with fail
  refine (markNodeS_any _ _ _ _ _ _ x1 _ Ox1.out hn1 (by omega) (by omega)).mono ?_
  rintro e w19 ⟨rfl, ho, hg⟩
  have La0 := Lib.hid (La0.out.grown hg La0.out.size (fun k hk => Nat.le_trans Ma0_x1.out (Ox1.out.lt k hk).1))
  have La1 := Lib.hid (La1.out.grown hg La1.out.size (fun k hk => Nat.le_trans Ma1_x1.out (Ox1.out.lt k hk).1))
  have La2 := Lib.hid (La2.out.grown hg La2.out.size (fun k hk => Nat.le_trans Ma2_x1.out (Ox1.out.lt k hk).1))
  have Lw0 := Lib.hid (Lw0.out.grown hg Lw0.out.size (fun k hk => Nat.le_trans Mw0_x1.out (Ox1.out.lt k hk).1))
  have LW := Lib.hid (LW.out.grown hg LW.out.size (fun k hk => Nat.le_trans MW_x1.out (Ox1.out.lt k hk).1))
  have LB2 := Lib.hid (LB2.out.grown hg LB2.out.size (fun k hk => Nat.le_trans MB2_x1.out (Ox1.out.lt k hk).1))
  have hx := HXx2.out.below LBx2.out GLx2.out
  have hl := Nat.lt_of_lt_of_le GLx2.out LBx2.out.size
  have HXx2 := Lib.hid (hx.grown hg hl (fun k hk e => by have := MBx2_x1.out k hk; omega))
  have GLx2 := Lib.hid (Nat.lt_of_lt_of_le hl hg.size)
  have LBx2 := Lib.hid (Below.refl w19.heap.size w19)
  clear hx hl
  have Ox2 := Lib.hid (Ox2.out.grown hg Mx1_x2.out)
  have Sx2 := Lib.hid (Nat.le_trans Sx2.out hg.size)
  have Og0 := Lib.hid (own_grown Og0.out hg Mx1_g0.out)
  clear ho hg
  obtain ⟨gx20, gx21, gx22⟩ := HXx2.out.below LBx2.out GLx2.out
  go_wp2_with fail
  clear gx20 gx21 gx22
  refine (markCost_any _ _ _ _ _ _ _ _ x2 _ Ox2.out Sx2.out (by rw [Hn2.out.1]; exact hn20) (by rw [Hn2.out.2.1]; exact hn21) (by rw [Hn2.out.2.2]; exact hn22) (by omega) (by omega)).mono ?_
  rintro e w20 ⟨rfl, ho, hb, hz, hon⟩
  rw [Hn2.out.1, Hn2.out.2.1, Hn2.out.2.2]
  have La0 := Lib.hid (La0.out.trans (hb.mono Ma0_x2.out))
  have La1 := Lib.hid (La1.out.trans (hb.mono Ma1_x2.out))
  have La2 := Lib.hid (La2.out.trans (hb.mono Ma2_x2.out))
  have Lw0 := Lib.hid (Lw0.out.trans (hb.mono Mw0_x2.out))
  have LB2 := Lib.hid (LB2.out.trans (hb.mono MB2_x2.out))
  have LW := Lib.hid (LW.out.trans (hb.mono MW_x2.out))
  have Og0 := Lib.hid (own_only Og0.out hon (fun b hb' => Mx2_g0.out b (Og0.out.lt b hb').1))
  clear ho hb hz hon
  go_wp2_with fail
  refine (eqPairS_any _ _ _ _ _ _ (Bm.best x0 x1 x2) (Bm.best x0 x1 x2) _ (NdIn.of_own Og0.out) (Iw0.out.to_below Lw0.out) HN HN).mono ?_
  rintro e w21 ⟨rfl, hb⟩
  have Og0 := Lib.hid (own_below Og0.out hb)
  have La0 := Lib.hid (La0.out.trans (hb.mono La0.out.size))
  have La1 := Lib.hid (La1.out.trans (hb.mono La1.out.size))
  have La2 := Lib.hid (La2.out.trans (hb.mono La2.out.size))
  have Lw0 := Lib.hid (Lw0.out.trans (hb.mono Lw0.out.size))
  have LB2 := Lib.hid (LB2.out.trans (hb.mono LB2.out.size))
  have LW := Lib.hid (LW.out.trans (hb.mono LW.out.size))
  clear hb
  go_wp2_with fail
  refine (markPairS_any _ _ _ _ _ 1 (Bm.best x0 x1 x2) _ Og0.out HN (by omega) (by omega)).mono ?_
  rintro e w22 ⟨rfl, ho, hg⟩
  have La0 := Lib.hid (La0.out.grown hg La0.out.size (fun k hk => Nat.le_trans Ma0_g0.out (Og0.out.lt k hk).1))
  have La1 := Lib.hid (La1.out.grown hg La1.out.size (fun k hk => Nat.le_trans Ma1_g0.out (Og0.out.lt k hk).1))
  have La2 := Lib.hid (La2.out.grown hg La2.out.size (fun k hk => Nat.le_trans Ma2_g0.out (Og0.out.lt k hk).1))
  have Lw0 := Lib.hid (Lw0.out.grown hg Lw0.out.size (fun k hk => Nat.le_trans Mw0_g0.out (Og0.out.lt k hk).1))
  have LW := Lib.hid (LW.out.grown hg LW.out.size (fun k hk => Nat.le_trans MW_g0.out (Og0.out.lt k hk).1))
  have LB2 := Lib.hid (LB2.out.grown hg LB2.out.size (fun k hk => Nat.le_trans MB2_g0.out (Og0.out.lt k hk).1))
  have Og0 := Lib.hid ho
  clear ho hg
  go_wp2_with fail
  refine (heldPairS_any _ _ _ _ _ 1 _ Og0.out HN (by omega) (by omega)).mono ?_
  rintro e w' ⟨rfl, rfl⟩
  obtain ⟨g20, g21, g22⟩ := HX2.out.below LB2.out GL2.out
  obtain ⟨g20, g21, g22⟩ := HX2.out.below LB2.out GL2.out
  go_wp2_with fail
  have S0 := Lib.hid (show w22.drew.cell? ⟨w.heap.size, 0, none⟩ = some (.slice A20 n20 c20) ∧ w22.drew.cell? ⟨w.heap.size, 1, none⟩ = some (.slice A21 n21 c21) ∧ w22.drew.cell? ⟨w.heap.size, 2, none⟩ = some (.slice A22 n22 c22) ∧ w22.drew.cell? ⟨w.heap.size, 0, none⟩ = some (.slice A20 n20 c20) ∧ w22.drew.cell? ⟨w.heap.size, 1, none⟩ = some (.slice A21 n21 c21) ∧ w22.drew.cell? ⟨w.heap.size, 2, none⟩ = some (.slice A22 n22 c22) ∧ SixG w22 (w.heap.size) (w.heap.size) w22.drew from ⟨g20, g21, g22, g20, g21, g22, (Below.refl _ _).drew, Nat.lt_of_lt_of_le GL2.out LB2.out.size, Nat.lt_of_lt_of_le GL2.out LB2.out.size⟩)
  clear g20 g21 g22
  clear g20 g21 g22
  go_region_held3 (fun wq => wq.cell? ⟨w.heap.size, 0, none⟩ = some (.slice A20 n20 c20) ∧ wq.cell? ⟨w.heap.size, 1, none⟩ = some (.slice A21 n21 c21) ∧ wq.cell? ⟨w.heap.size, 2, none⟩ = some (.slice A22 n22 c22) ∧ wq.cell? ⟨w.heap.size, 0, none⟩ = some (.slice A20 n20 c20) ∧ wq.cell? ⟨w.heap.size, 1, none⟩ = some (.slice A21 n21 c21) ∧ wq.cell? ⟨w.heap.size, 2, none⟩ = some (.slice A22 n22 c22) ∧ SixG w22 (w.heap.size) (w.heap.size) wq) (first | exact S0.out | (refine six_keep ?_ hb; assumption)) (first | (go_at_call 50; (fail_if_success (have := ts0)); refine (toNodeS_any _ _ _ x0 _ (Ia0.out.to_below (La0.out.trans ((six_below (by assumption)).mono La0.out.size))) hn0).mono ?_; rintro e w23 ⟨rfl, ho, hb⟩; have ts0 := True.intro; have Is0 := Lib.hid (NdIn.of_own ho); clear ho) | (go_at_call 50; (fail_if_success (have := ts1)); refine (toNodeS_any _ _ _ x1 _ (Ia1.out.to_below (La1.out.trans ((six_below (by assumption)).mono La1.out.size))) hn1).mono ?_; rintro e w24 ⟨rfl, ho, hb⟩; have ts1 := True.intro; have Is0 := Lib.hid (Is0.out.to_below hb); have Is1 := Lib.hid (NdIn.of_own ho); clear ho) | (go_at_call 51; refine (toCost_any _ _ _ _ _ _ _ _ _ x2 _ (Ia2.out.to_below (La2.out.trans ((six_below (by assumption)).mono La2.out.size))) hn20 hn21 hn22).mono ?_; rintro e w25 ⟨As0, As1, As2, cs0, cs1, cs2, rfl, o0, o1, o2, _, _, _, hb⟩; have Is0 := Lib.hid (Is0.out.to_below hb); have Is1 := Lib.hid (Is1.out.to_below hb); have Is2 := Lib.hid (show CoIn w25 w25.heap.size As0 As1 As2 x2.d.length x2.i.length x2.r.length x2 from ⟨IntIn.of_own o0, IntIn.of_own o1, IntIn.of_own o2⟩); clear o0 o1 o2) | (go_at_call 35; refine (implBestMap_any (c := _) (c' := _) (c0 := _) (c1 := _) (c2 := _) (ha := Is0.out) (hb := Is1.out) (hk := Is2.out) (hn := hn0) (hn' := hn1) (h0 := (by rw [Hn2.out.1]; exact hn20)) (h1 := (by rw [Hn2.out.2.1]; exact hn21)) (h2 := (by rw [Hn2.out.2.2]; exact hn22)) (hc := Nat.le_refl _) (hc' := Nat.le_refl _)).mono ?_; rintro e w26 ⟨Ah0, ch0, rfl, how, hb⟩))
  have hb := Lib.hid (show SixG w22 (w.heap.size) (w.heap.size) w26 by (first | (rename_i q; exact q.2.2.2.2.2.2) | (rename_i q _; exact q.2.2.2.2.2.2)))
  have hb := hb.out.1
  clear S0
  have Og0 := Lib.hid (own_below Og0.out hb)
  have La0 := Lib.hid (La0.out.trans (hb.mono La0.out.size))
  have La1 := Lib.hid (La1.out.trans (hb.mono La1.out.size))
  have La2 := Lib.hid (La2.out.trans (hb.mono La2.out.size))
  have Lw0 := Lib.hid (Lw0.out.trans (hb.mono Lw0.out.size))
  have LB2 := Lib.hid (LB2.out.trans (hb.mono LB2.out.size))
  have LW := Lib.hid (LW.out.trans (hb.mono LW.out.size))
  clear hb
  clear Is2 Is0 Is1 ts0 ts1
  have Ih0 := Lib.hid (NdIn.of_own how)
  have Lh0 := Lib.hid (Below.refl w26.heap.size w26)
  clear how
  go_wp2_with fail
  refine (eqPairS_any _ _ _ _ _ _ (Bm.best x0 x1 x2) (Bm.best x0 x1 x2) _ (Ih0.out.to_below Lh0.out) (Iw0.out.to_below Lw0.out) HN HN).mono ?_
  rintro e w27 ⟨rfl, hb⟩
  have Og0 := Lib.hid (own_below Og0.out hb)
  have La0 := Lib.hid (La0.out.trans (hb.mono La0.out.size))
  have La1 := Lib.hid (La1.out.trans (hb.mono La1.out.size))
  have La2 := Lib.hid (La2.out.trans (hb.mono La2.out.size))
  have Lw0 := Lib.hid (Lw0.out.trans (hb.mono Lw0.out.size))
  have Lh0 := Lib.hid (Lh0.out.trans (hb.mono Lh0.out.size))
  have LB2 := Lib.hid (LB2.out.trans (hb.mono LB2.out.size))
  have LW := Lib.hid (LW.out.trans (hb.mono LW.out.size))
  clear hb
  go_wp2_with fail
  refine (heldPairS_any _ _ _ _ _ 1 _ Og0.out HN (by omega) (by omega)).mono ?_
  rintro e w' ⟨rfl, rfl⟩
  go_wp2
  go_ret
  exact ⟨rfl, LW.out⟩

end Go.Proofs.Ytlndaflhlkbedaa
