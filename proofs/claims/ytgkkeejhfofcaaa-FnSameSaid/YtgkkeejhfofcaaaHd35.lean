/- Texts of one claim laid into one file, in build order: BesI, RepI, CoSm, HarB. -/
import Derived.Test.YtgkkeejhfofcaaaHd13
import Derived.Test.YtgkkeejhfofcaaaHd17
import Derived.Test.YtgkkeejhfofcaaaHd21
import Derived.Test.YtgkkeejhfofcaaaHd3
import Derived.Test.YtgkkeejhfofcaaaHd34
import Derived.Test.YtgkkeejhfofcaaaHd7
import Derived.Test.YtgkkeejhfofcaaaHd9
import Derived.Deep.RegionHeld3
import Derived.Laws.CopyOwn
import Derived.Outline
import Derived.Test.YtgkkeejhfofcaaaRows
/- Contracts (BesI). -/
namespace Go.Proofs.Ytgkkeejhfofcaaa
open Go.RowKit
set_option linter.unusedVariables false

theorem zs_up_at (l : List Nat) (u : Nat) : Zs.at (Zs.up l) u = (l.getD u 0 : Nat) := by
  simp only [Zs.at, Zs.up, List.getD_eq_getElem?_getD, List.getElem?_map]
  cases l[u]? <;> simp
set_option maxHeartbeats 800000 in
set_option maxRecDepth 100000 in
theorem implBest_no (A A' : Option Addr) (n n' c c' : Nat) (xs ys : Tr) (K0 K1 K2 : Option Addr) (n0 n1 n2 c0 c1 c2 : Nat) (k : Co) (w : World) (ha : NdIn w w.heap.size A n xs) (hb : NdIn w w.heap.size A' n' ys) (hk : CoIn w w.heap.size K0 K1 K2 n0 n1 n2 k) (hn : n ≤ 1048576) (hn' : n' ≤ 1048576) (h0 : n0 ≤ 1048576) (h1 : n1 ≤ 1048576) (h2 : n2 ≤ 1048576) (hc : n ≤ c) (hc' : n' ≤ c') (hno : DOk xs ys k = false) :
    Calls Try.prog 17 #[.slice A n c, .slice A' n' c', .agg #[.slice K0 n0 c0, .slice K1 n1 c1, .slice K2 n2 c2]] w (OwnNodes 124 [] w) := by
  obtain ⟨wc, hwc⟩ : ∃ wc, wc = w.alloc (.cells #[.slice K0 n0 c0, .slice K1 n1 c1, .slice K2 n2 c2] 31) := ⟨_, rfl⟩
  have hbc : Below w.heap.size w wc := by rw [hwc]; exact (Below.refl _ _).alloc (Nat.le_refl _) _
  have HQ := Lib.hid (show Box3 wc w.heap.size (.slice K0 n0 c0) (.slice K1 n1 c1) (.slice K2 n2 c2) by rw [hwc]; exact Box3.made _ _ _ _ _)
  have HWC := Lib.hid hwc
  have HA := Lib.hid (ha.to_below hbc)
  have HB := Lib.hid (hb.to_below hbc)
  have HK := Lib.hid (hk.to_below hbc)
  have HBC := Lib.hid hbc
  have HN := Lib.hid hno
  clear ha hb hk hwc hbc hno
  go_enter Try.func17, Try.ntmps17
  go_wp2_with fail
  rw [← HWC.out]
  refine (newTable_no _ _ _ _ _ _ xs ys _ _ _ _ _ _ _ _ _ k _ HA.out HB.out HK.out hn hn' h0 h1 h2 hc hc' HN.out).mono ?_
  rintro e w1 ⟨rfl, b1⟩
  have HS := Lib.hid (HBC.out.trans (b1.mono HBC.out.size))
  clear b1
  go_wp2
  go_ret
  exact ⟨none, 0, rfl, own_nil, HS.out⟩
set_option maxHeartbeats 1600000 in
set_option maxRecDepth 100000 in
theorem implBest_yes (A A' : Option Addr) (n n' c c' : Nat) (xs ys : Tr) (K0 K1 K2 : Option Addr) (n0 n1 n2 c0 c1 c2 : Nat) (k : Co) (w : World) (ha : NdIn w w.heap.size A n xs) (hb : NdIn w w.heap.size A' n' ys) (hk : CoIn w w.heap.size K0 K1 K2 n0 n1 n2 k) (hc : n ≤ c) (hc' : n' ≤ c') (hx : Tr.ok xs = true) (hy : Tr.ok ys = true) (ho : Co.ok k = true) :
    Calls Try.prog 17 #[.slice A n c, .slice A' n' c', .agg #[.slice K0 n0 c0, .slice K1 n1 c1, .slice K2 n2 c2]] w (OwnNodes 124 (Bm.mt (Bm.cP xs ys) xs ys k 0 xs.length 0 ys.length) w) := by
  have hln := ha.1
  have hln' := hb.1
  obtain ⟨x1, x24⟩ := Tr.len24 hx
  obtain ⟨y1, y24⟩ := Tr.len24 hy
  subst hln
  subst hln'
  obtain ⟨wc, hwc⟩ : ∃ wc, wc = w.alloc (.cells #[.slice K0 n0 c0, .slice K1 n1 c1, .slice K2 n2 c2] 31) := ⟨_, rfl⟩
  have hbc : Below w.heap.size w wc := by rw [hwc]; exact (Below.refl _ _).alloc (Nat.le_refl _) _
  have HQ := Lib.hid (show Box3 wc w.heap.size (.slice K0 n0 c0) (.slice K1 n1 c1) (.slice K2 n2 c2) by rw [hwc]; exact Box3.made _ _ _ _ _)
  have HWC := Lib.hid hwc
  have HA := Lib.hid (ha.to_below hbc)
  have HB := Lib.hid (hb.to_below hbc)
  have HK := Lib.hid (hk.to_below hbc)
  have HBC := Lib.hid hbc
  have HX := Lib.hid hx
  have HY := Lib.hid hy
  have HO := Lib.hid ho
  have PLx := Lib.hid (show (Zs.up (Tr.post xs)).length = xs.length by rw [Zs.up_length, Tr.post_length hx])
  have PLy := Lib.hid (show (Zs.up (Tr.post ys)).length = ys.length by rw [Zs.up_length, Tr.post_length hy])
  have XY := Lib.hid (show 1 ≤ xs.length ∧ xs.length ≤ 24 ∧ 1 ≤ ys.length ∧ ys.length ≤ 24 by omega)
  clear ha hb hk hx hy ho hwc hbc
  go_enter Try.func17, Try.ntmps17
  go_wp2_with fail
  rw [← HWC.out]
  refine (newTable_yes _ _ _ _ _ _ xs ys _ _ _ _ _ _ _ _ _ k _ HA.out HB.out HK.out hc hc' HX.out HY.out HO.out).mono ?_
  rintro e w2 ⟨D, rfl, hPT, b1, hgm, hgg⟩
  have HS2 := Lib.hid (HBC.out.trans (b1.mono HBC.out.size))
  have HP := Lib.hid hPT
  have HG := Lib.hid (Nat.le_trans HBC.out.size hgm)
  have HA := Lib.hid (HA.out.to_below b1)
  have HB := Lib.hid (HB.out.to_below b1)
  clear b1 hPT hgm hgg
  go_wp2_with fail
  refine (implPostOrder_any _ _ _ xs w2 HA.out (by omega) hc).mono ?_
  rintro e w3 ⟨Aa, ca, rfl, ho, hb⟩
  obtain ⟨ga, rfl, hga, _⟩ := own_form ho (by have := PLx.out; have := XY.out; omega)
  have HB := Lib.hid (HB.out.to_below hb)
  have HOa := Lib.hid ho
  have HP := Lib.hid (HP.out.below hb)
  have HS3 := Lib.hid (HS2.out.trans (hb.mono HS2.out.size))
  clear ho hb hga
  go_wp2_with fail
  refine (implPostOrder_any _ _ _ ys w3 HB.out (by omega) hc').mono ?_
  rintro e w4 ⟨Ab, cb, rfl, ho, hb⟩
  obtain ⟨gb, rfl, hgb, _⟩ := own_form ho (by have := PLy.out; have := XY.out; omega)
  have HOa := Lib.hid (own_below HOa.out hb)
  have HOb := Lib.hid ho
  have HP := Lib.hid (HP.out.below hb)
  have HS4 := Lib.hid (HS3.out.trans (hb.mono HS3.out.size))
  clear ho hb hgb
  rw [PLx.out] at HOa ⊢
  rw [PLy.out] at HOb ⊢
  obtain ⟨w5, hw5⟩ : ∃ w5, w5 = w4.alloc (.cells #[.pointer (some ⟨D.g, 0, none⟩), .slice (some ⟨ga, 0, none⟩) xs.length ca, .slice (some ⟨gb, 0, none⟩) ys.length cb, .slice none 0 0] 102) := ⟨_, rfl⟩
  have T5 := Lib.hid (show TG D ⟨ga, 0, none⟩ ⟨gb, 0, none⟩ ca cb w4 xs ys k [] w5 from ⟨HP.out,
    fun u hu => by
      have := own_int HOa.out (k := u) (by rw [PLx.out]; exact hu)
      rw [zs_up_at] at this
      rw [show (⟨ga, 0, none⟩ : Addr).add u = ⟨ga, u, none⟩ by simp [Addr.add]; omega]
      exact this,
    fun u hu => by
      have := own_int HOb.out (k := u) (by rw [PLy.out]; exact hu)
      rw [zs_up_at] at this
      rw [show (⟨gb, 0, none⟩ : Addr).add u = ⟨gb, u, none⟩ by simp [Addr.add]; omega]
      exact this,
    by rw [hw5]; exact World.grownBy_alloc _ _ _,
    by rw [hw5]; exact HP.out.mm.below ((Below.refl _ _).alloc (Nat.le_refl _) _),
    .slice none 0 0, by rw [hw5]; exact (MapKept.heap_alloc w4 _).1, own_nil⟩)
  have HW5 := Lib.hid hw5
  have CM := Lib.hid (match_any D ⟨ga, 0, none⟩ ⟨gb, 0, none⟩ ca cb w4 xs ys k (xs.length + ys.length) HX.out HY.out (trace_any D _ _ ca cb w4 xs ys k HX.out HY.out HO.out _) 0 xs.length 0 ys.length [] w5 (by have := XY.out; omega) (Nat.le_refl _) (by have := XY.out; omega) (Nat.le_refl _) (by omega) (by have := XY.out; simp; omega) T5.out)
  clear hw5
  go_wp2_with fail
  rw [← HW5.out]
  refine CM.out.mono ?_
  rintro e w6 ⟨rfl, hT, _⟩
  rw [List.nil_append] at hT
  obtain ⟨M, hM⟩ : ∃ x, x = Bm.mt (Bm.cP xs ys) xs ys k 0 xs.length 0 ys.length := ⟨_, rfl⟩
  rw [← hM] at hT
  have HM := Lib.hid hM
  obtain ⟨pv, h1, h2⟩ := hT.ht
  have HT := Lib.hid hT.hg
  have HO2 := Lib.hid h2
  have t3 := hp_cell (o := 3) (v := pv) h1 rfl
  obtain ⟨A2, c2, rfl⟩ := own_slice h2
  clear h1 h2 hT hM CM T5
  go_wp2
  go_ret
  rw [← HM.out]
  exact ⟨A2, c2, rfl, own_base HO2.out (by have := HS4.out.size; omega), HS4.out.grown HT.out HS4.out.size (fun b hb => by have := Option.some.inj hb; have := HG.out; omega)⟩
theorem implBestMap_any (A A' : Option Addr) (n n' c c' : Nat) (xs ys : Tr) (K0 K1 K2 : Option Addr) (n0 n1 n2 c0 c1 c2 : Nat) (k : Co) (w : World) (ha : NdIn w w.heap.size A n xs) (hb : NdIn w w.heap.size A' n' ys) (hk : CoIn w w.heap.size K0 K1 K2 n0 n1 n2 k) (hn : n ≤ 1048576) (hn' : n' ≤ 1048576) (h0 : n0 ≤ 1048576) (h1 : n1 ≤ 1048576) (h2 : n2 ≤ 1048576) (hc : n ≤ c) (hc' : n' ≤ c') :
    Calls Try.prog 17 #[.slice A n c, .slice A' n' c', .agg #[.slice K0 n0 c0, .slice K1 n1 c1, .slice K2 n2 c2]] w (OwnNodes 124 (Bm.best xs ys k) w) := by
  cases hd : DOk xs ys k with
  | false =>
    rw [Bm.best_no hd]
    exact implBest_no A A' n n' c c' xs ys K0 K1 K2 n0 n1 n2 c0 c1 c2 k w ha hb hk hn hn' h0 h1 h2 hc hc' hd
  | true =>
    obtain ⟨o1, o2, o3⟩ := DOk.parts hd
    rw [Bm.best_yes hd]
    exact implBest_yes A A' n n' c c' xs ys K0 K1 K2 n0 n1 n2 c0 c1 c2 k w ha hb hk hc hc' o1 o2 o3

end Go.Proofs.Ytgkkeejhfofcaaa

/- Contracts (RepI). -/
namespace Go.Proofs.Ytgkkeejhfofcaaa
open Go.RowKit
set_option linter.unusedVariables false

def Rep.row (m k : Nat) (z : Int) : List Int := List.replicate k z ++ List.replicate (m - k) 0
theorem Rep.row_length (m k : Nat) (z : Int) (h : k ≤ m) : (Rep.row m k z).length = m := by simp [Rep.row]; omega
theorem Rep.row_zero (m : Nat) (z : Int) : Rep.row m 0 z = List.replicate m 0 := by simp [Rep.row]
theorem Rep.row_all (m : Nat) (z : Int) : Rep.row m m z = List.replicate m z := by simp [Rep.row]
theorem Rep.splice (m k c : Nat) (z : Int) (h : k + c ≤ m) : Go.splice (ints (Rep.row m k z)) k (ints (List.replicate c z)) = ints (Rep.row m (k + c) z) := by
  have h1 : (ints (Rep.row m k z)).take k = ints (List.replicate k z) := by
    simp only [Rep.row, ints_append]
    rw [List.take_append_of_le_length (by simp [ints])]
    exact List.take_of_length_le (by simp [ints])
  have h2 : (ints (Rep.row m k z)).drop (k + c) = ints (List.replicate (m - (k + c)) 0) := by
    simp only [Rep.row, ints_append]
    rw [List.drop_append]
    simp [ints]
    omega
  have h3 : (ints (List.replicate c z)).length = c := by simp [ints]
  unfold Go.splice
  rw [h3, h1, h2, ← ints_append, ← ints_append, Rep.row, ← List.append_assoc, List.replicate_append_replicate]
theorem own_full {w : World} {base n g : Nat} {e : TypeId} {ys : List Value} (h : w.ownsRow base e 1 (.slice (some ⟨g, 0, none⟩) n n) n ys) : w.heap[g]? = some (.cells ys.toArray e (0, 0)) := by
  rcases h.2 with ⟨h1, _⟩ | ⟨g', cap, cur, hv, _, hh, _, _, hs, ht⟩
  · cases h1
  · injection hv with hA hn hc
    injection hA with hA
    injection hA with hg
    subst hg
    subst hc
    have : cur.toList = ys := by rw [← ht]; exact (List.take_of_length_le (by simp; omega)).symm
    rw [hh, ← this]
theorem own_of_heap {w : World} {base m g : Nat} {e : TypeId} {zs : List Int} (hg : w.heap[g]? = some (.cells (ints zs).toArray e (0, 0))) (hb : base ≤ g) (hl : zs.length = m) (hm : m ≤ maxLen) : w.ownsRow base e 1 (.slice (some ⟨g, 0, none⟩) m m) m (ints zs) := by
  refine ⟨by rw [ints_length, hl]; omega, .inr ⟨g, m, (ints zs).toArray, rfl, hb, hg, Nat.le_refl _, hm, by simp [ints_length, hl], ?_⟩⟩
  rw [List.take_of_length_le (by simp [ints_length, hl])]
theorem Rep.src {w : World} {g m k d j : Nat} {z : Int} {v : Value} (hg : w.heap[g]? = some (.cells (ints (Rep.row m k z)).toArray 3 (0, 0))) (hkm : k ≤ m) (hm : m ≤ 1000) (hdk : d ≤ k) (hj : (ints (List.replicate d z))[j]? = some v) : w.cell? ((⟨g, 0, none⟩ : Addr).add j) = some v := by
  have hjd := (List.getElem?_eq_some_iff.1 hj).1
  rw [ints_length, List.length_replicate] at hjd
  rw [ints_at _ _ (by rw [List.length_replicate]; exact hjd)] at hj
  have h1 := own_of_heap hg (Nat.le_refl _) (Rep.row_length m k z hkm) (by unfold maxLen; omega)
  rw [(IntIn.of_own h1).here (k := j) (by omega), ← hj]
  have h2 : Zs.at (Rep.row m k z) j = z := by simp [Zs.at, Rep.row, List.getD_eq_getElem?_getD, List.getElem?_append, show j < k by omega]
  have h3 : Zs.at (List.replicate d z) j = z := by simp [Zs.at, List.getD_eq_getElem?_getD, hjd]
  rw [h2, h3]
set_option maxHeartbeats 800000 in
set_option maxRecDepth 100000 in
theorem mul_6 (w : World) : Calls Try.prog 114 #[.int .u64 1, .int .u64 6] w fun e w' => e = .returned (.tuple #[.int .u64 0, .int .u64 6]) ∧ w = w' := by
  go_enter Try.func114, Try.ntmps114
  go_wp2
  go_ret2
  exact ⟨rfl, rfl⟩
set_option maxHeartbeats 800000 in
set_option maxRecDepth 100000 in
theorem mul_36 (w : World) : Calls Try.prog 114 #[.int .u64 1, .int .u64 36] w fun e w' => e = .returned (.tuple #[.int .u64 0, .int .u64 36]) ∧ w = w' := by
  go_enter Try.func114, Try.ntmps114
  go_wp2
  go_ret2
  exact ⟨rfl, rfl⟩
theorem info_intR : (Try.prog.info? 3).map (fun i => (i.zero, i.size, i.bytes)) = some (some (.int .i64 0), 1, 8) := by kernel_rfl
theorem size_intR : (Try.prog.info? 3).map (·.size) = some 1 := by kernel_rfl
set_option maxHeartbeats 1600000 in
set_option maxRecDepth 100000 in
theorem repeat_one (A : Option Addr) (c m : Nat) (z : Int) (w : World) (h : IntIn w w.heap.size A 1 [z]) (hm0 : 1 ≤ m) (hm : m ≤ 1000)
    (hmul : ∀ w, Calls Try.prog 114 #[.int .u64 1, .int .u64 m] w fun e w' => e = .returned (.tuple #[.int .u64 0, .int .u64 m]) ∧ w = w') :
    Calls Try.prog 58 #[.slice A 1 c, .int .i64 m] w fun e w' => e = .returned (.slice (some ⟨w.heap.size, 0, none⟩) m m) ∧ w'.ownsRow w.heap.size 3 1 (.slice (some ⟨w.heap.size, 0, none⟩) m m) m (ints (List.replicate m z)) ∧ Below w.heap.size w w' := by
  have H := Lib.hid h
  obtain ⟨ad, rfl, _, hz⟩ := h.at_ (k := 0) (by omega)
  have HZ := Lib.hid hz
  clear h hz
  have HM := Lib.hid hmul
  clear hmul
  obtain ⟨i0, hi, hz0, hz1, hz2⟩ := info_parts info_intR
  have Hi := Lib.hid hi
  clear hi
  obtain ⟨g, hg⟩ : ∃ g, g = w.heap.size := ⟨_, rfl⟩
  have q1 : decide ((m : Int) < 0) = false := by simp
  go_enter Try.func58, Try.ntmps58
  go_wp2_with fail
  refine (HM.out _).mono ?_
  rintro e w' ⟨rfl, rfl⟩
  have q2 : decide (9223372036854775807 < (m : Int)) = false := by simp; omega
  obtain ⟨C1, hC1⟩ : ∃ C, C = ints (List.replicate 1 z) := ⟨_, rfl⟩
  have hl1 : C1.length = 1 := by rw [hC1]; simp [ints]
  have HC1 := Lib.hid hC1
  clear hC1
  go_wp2_with (first | (at_make; go_loud (refine wpList_make_full _ rfl _ _ 29 rfl w.heap.size 3 i0 (.int .i64 0) 1 Try.underlying29 Hi.out hz0 hz1 _ _ _ _ m rfl rfl rfl rfl (by rw [hz2]; omega) (by unfold maxLen; omega) (Nat.le_refl _) ?_); intro w2 hown2 hgrow2; have hb2 : Below w.heap.size w w2 := (Below.refl _ w).grown hgrow2 (Nat.le_refl _) (fun _ h => by cases h); rw [made_zeros 0 m, ← Rep.row_zero m z] at hown2; have HG := Lib.hid (own_full hown2); have HB := Lib.hid hb2; clear hown2 hgrow2 hb2) | (refine wpList_copy_splice rfl _ _ 29 29 rfl 3 Try.underlying29 size_intR _ _ _ _ _ _ rfl rfl w.heap.size 0 (ints (Rep.row m 0 z)) 3 HG.out C1 (by rw [hl1]; exact (Nat.min_eq_left hm0).symm) (fun _ => ⟨rfl, _, rfl, fun j v hj => (H.out.below HB.out).cells_at j v (by rw [HC1.out] at hj; exact hj)⟩) (by rw [hl1, ints_length, Rep.row_length m 0 z (Nat.zero_le _)]; omega) (by rw [HC1.out]; exact ints_cell _) w.heap.size w HB.out (Nat.le_refl _) ?_; intro w3 hg3 hb3; rw [HC1.out, Rep.splice m 0 1 z (by omega)] at hg3; have HG3 := hg3; have HB3 := Lib.hid hb3; clear hg3 hb3))
  clear HG HB
  go_loopw [8] (fun nv wr => ∃ k : Nat, 1 ≤ k ∧ k ≤ m ∧ nv = .int .i64 k ∧ Hid (wr.heap[w.heap.size]? = some (.cells (ints (Rep.row m k z)).toArray 3 (0, 0))) ∧ Below w.heap.size w wr) (fun n _ => m - (intOf n).toNat)
  case atStart => exact ⟨1, Nat.le_refl _, hm0, rfl, HG3, HB3.out⟩
  case round =>
    obtain ⟨k, hk1, hkm, rfl, HG, hB⟩ := hrel
    have HB := Lib.hid hB
    clear hB HG3 HB3
    by_cases hlt : k < m
    · obtain ⟨d, hd⟩ : ∃ d, d = min k (m - k) := ⟨_, rfl⟩
      obtain ⟨C, hC⟩ : ∃ C, C = ints (List.replicate d z) := ⟨_, rfl⟩
      have hl : C.length = d := by rw [hC]; simp [ints]
      have HC := Lib.hid hC
      have HD := Lib.hid hd
      have hdk : k + d ≤ m := by omega
      have hd1 : 1 ≤ d := by omega
      clear hC hd
      have HS := Lib.hid (show IntKind.i64.wrap ((k : Int) + (d : Int)) = ((k + d : Nat) : Int) by rw [Kit.w64 (by omega) (by omega)]; omega)
      have k1 : (k : Int) < (m : Int) := by omega
      have hmk : ¬ m = k := by omega
      have k2 : (0 : Int) ≤ (k : Int) := by omega
      go_wp2
      go_region_held3 (fun _ => True) (trivial) (((refine step_copy_splice rfl _ _ 29 29 rfl 3 Try.underlying29 size_intR _ _ _ _ _ _ rfl rfl w.heap.size k (ints (Rep.row m k z)) 3 HG.out C (by rw [hl, HD.out]) (fun _ => ⟨by (first | rfl | (rw [if_neg hmk])), _, rfl, fun j v hj => Rep.src (d := d) (w := wr) HG.out hkm hm (by rw [HD.out]; exact Nat.min_le_left _ _) (by rw [HC.out] at hj; exact hj)⟩) (by rw [hl, ints_length, Rep.row_length m k z hkm]; exact hdk) (by rw [HC.out]; exact ints_cell _) w.heap.size w HB.out.drew (Nat.le_refl _) ?_); intro w4 hg4 hb4))
      go_wp2
      rw [HC.out, Rep.splice m k d z hdk] at hg4
      rw [HS.out]
      go_roundw
      case rel => exact ⟨k + d, by omega, hdk, rfl, hg4, hb4⟩
      case measure => simp [intOf]; omega
    · obtain rfl : k = m := by omega
      go_wp2
      go_ret
      refine ⟨rfl, ?_, HB.out⟩
      have := own_of_heap HG.out (Nat.le_refl _) (Rep.row_length k k z (Nat.le_refl _)) (by unfold maxLen; omega)
      rw [Rep.row_all] at this
      exact this

end Go.Proofs.Ytgkkeejhfofcaaa

/- Contracts (CoSm). -/
namespace Go.Proofs.Ytgkkeejhfofcaaa
open Go.RowKit
set_option linter.unusedVariables false

def Co.same (a b : Co) : Bool := decide (a.d = b.d) && decide (a.i = b.i) && decide (a.r = b.r)

end Go.Proofs.Ytgkkeejhfofcaaa

/- Contracts (HarB). -/
namespace Go.Proofs.Ytgkkeejhfofcaaa
open Go.RowKit
set_option linter.unusedVariables false

/-- three rows of the call's own, apart -/
def OwnC (w : World) (base : Nat) (A0 A1 A2 : Option Addr) (c0 c1 c2 : Nat) (k : Co) : Prop :=
  w.ownsRow base 3 1 (.slice A0 k.d.length c0) k.d.length (ints k.d) ∧ w.ownsRow base 3 1 (.slice A1 k.i.length c1) k.i.length (ints k.i) ∧ w.ownsRow base 3 1 (.slice A2 k.r.length c2) k.r.length (ints k.r) ∧
  Apart (.slice A0 k.d.length c0) (.slice A1 k.i.length c1) ∧ Apart (.slice A0 k.d.length c0) (.slice A2 k.r.length c2) ∧ Apart (.slice A1 k.i.length c1) (.slice A2 k.r.length c2)
theorem OwnC.below {w w' : World} {base : Nat} {A0 A1 A2 : Option Addr} {c0 c1 c2 : Nat} {k : Co} (h : OwnC w base A0 A1 A2 c0 c1 c2 k) (hb : Below w.heap.size w w') : OwnC w' base A0 A1 A2 c0 c1 c2 k :=
  ⟨own_below h.1 hb, own_below h.2.1 hb, own_below h.2.2.1 hb, h.2.2.2⟩
/-- the old blocks but those of three rows stand as they did -/
def Only3 (v0 v1 v2 : Value) (w w' : World) : Prop := ∀ i, i < w.heap.size → v0.ownBlock ≠ some i → v1.ownBlock ≠ some i → v2.ownBlock ≠ some i → w'.heap[i]? = w.heap[i]?
theorem OwnC.lt {w : World} {base : Nat} {A0 A1 A2 : Option Addr} {c0 c1 c2 : Nat} {k : Co} (h : OwnC w base A0 A1 A2 c0 c1 c2 k) {s : Nat} (hs : w.heap.size ≤ s) :
    (Value.slice A0 k.d.length c0).ownBlock ≠ some s ∧ (Value.slice A1 k.i.length c1).ownBlock ≠ some s ∧ (Value.slice A2 k.r.length c2).ownBlock ≠ some s :=
  ⟨fun e => by have := (h.1.lt s e).2; omega, fun e => by have := (h.2.1.lt s e).2; omega, fun e => by have := (h.2.2.1.lt s e).2; omega⟩
theorem Box3.only {w w' : World} {g : Nat} {u0 u1 u2 v0 v1 v2 : Value} (h : Box3 w g v0 v1 v2) (ho : Only3 u0 u1 u2 w w') (hl : g < w.heap.size) (hn : u0.ownBlock ≠ some g ∧ u1.ownBlock ≠ some g ∧ u2.ownBlock ≠ some g) : Box3 w' g v0 v1 v2 := by
  have e := ho g hl hn.1 hn.2.1 hn.2.2
  exact ⟨(World.cell?_of_block (a := ⟨g, 0, none⟩) e).trans h.1, (World.cell?_of_block (a := ⟨g, 1, none⟩) e).trans h.2.1, (World.cell?_of_block (a := ⟨g, 2, none⟩) e).trans h.2.2⟩
theorem Box3.grown {w w' : World} {g : Nat} {r : Option Nat} {v0 v1 v2 : Value} (h : Box3 w g v0 v1 v2) (hg : w.grownBy w' r) (hl : g < w.heap.size) (hr : ∀ b, r = some b → b ≠ g) : Box3 w' g v0 v1 v2 := by
  have e := hg.block g hl (fun e => hr g e.symm rfl)
  exact ⟨(World.cell?_of_block (a := ⟨g, 0, none⟩) e).trans h.1, (World.cell?_of_block (a := ⟨g, 1, none⟩) e).trans h.2.1, (World.cell?_of_block (a := ⟨g, 2, none⟩) e).trans h.2.2⟩

end Go.Proofs.Ytgkkeejhfofcaaa
