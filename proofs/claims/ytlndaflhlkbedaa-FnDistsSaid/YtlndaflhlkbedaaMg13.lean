/- Texts of one claim laid into one file, in build order: NewT, ForI, SzC, Three2, ToIS, ToCo, CoSm, HarB, IntE, HarQ, CoX. -/
import Derived.Test.YtlndaflhlkbedaaMg12
import Derived.Below
import Derived.Maps.Own
import Derived.Outline
import Derived.Test.YtlndaflhlkbedaaRows
/- Contracts (NewT). -/
namespace Go.Proofs.Ytlndaflhlkbedaa
open Go.RowKit
set_option linter.unusedVariables false

theorem SD.made {B : Nat} {xs ys : Tr} {k : Co} {w : World} {ga0 ga1 ga2 gb0 gb1 gb2 ca0 ca1 ca2 cb0 cb1 cb2 c0 c1 c2 : Nat} {k0 k1 k2 : Addr} (hx : Tr.ok xs = true) (hy : Tr.ok ys = true)
    (a0 : w.ownsRow B 3 1 (.slice (some ⟨ga0, 0, none⟩) xs.length ca0) xs.length (ints (Tr.lab xs))) (a1 : w.ownsRow B 3 1 (.slice (some ⟨ga1, 0, none⟩) xs.length ca1) xs.length (ints (Zs.up (Tr.lfs xs))))
    (b0 : w.ownsRow B 3 1 (.slice (some ⟨gb0, 0, none⟩) ys.length cb0) ys.length (ints (Tr.lab ys))) (b1 : w.ownsRow B 3 1 (.slice (some ⟨gb1, 0, none⟩) ys.length cb1) ys.length (ints (Zs.up (Tr.lfs ys))))
    (hk : CoIn w B (some k0) (some k1) (some k2) 6 6 36 k) (gm : Nat) (e : TypeId) :
    SD w.heap.size ⟨ga0, 0, none⟩ ⟨ga1, 0, none⟩ ⟨gb0, 0, none⟩ ⟨gb1, 0, none⟩ k0 k1 k2 ca0 ca1 cb0 cb1 c0 c1 c2 xs ys k (w.alloc (.cells #[.slice (some ⟨ga0, 0, none⟩) xs.length ca0, .slice (some ⟨ga1, 0, none⟩) xs.length ca1, .slice (some ⟨ga2, 0, none⟩) (Tr.krs xs).length ca2, .slice (some ⟨gb0, 0, none⟩) ys.length cb0, .slice (some ⟨gb1, 0, none⟩) ys.length cb1, .slice (some ⟨gb2, 0, none⟩) (Tr.krs ys).length cb2, .slice (some k0) 6 c0, .slice (some k1) 6 c1, .slice (some k2) 36 c2, .map (some gm)] e)) := by
  have old : ∀ {p : Addr} {v : Value}, w.cell? p = some v → (w.alloc (.cells #[.slice (some ⟨ga0, 0, none⟩) xs.length ca0, .slice (some ⟨ga1, 0, none⟩) xs.length ca1, .slice (some ⟨ga2, 0, none⟩) (Tr.krs xs).length ca2, .slice (some ⟨gb0, 0, none⟩) ys.length cb0, .slice (some ⟨gb1, 0, none⟩) ys.length cb1, .slice (some ⟨gb2, 0, none⟩) (Tr.krs ys).length cb2, .slice (some k0) 6 c0, .slice (some k1) 6 c1, .slice (some k2) 36 c2, .map (some gm)] e)).cell? p = some v := fun hc => by rw [World.cell?_alloc_lt w _ _ (World.block_lt_of_cell? w _ hc)]; exact hc
  have ln : ∀ {n c gg : Nat} {zs : List Int}, w.ownsRow B 3 1 (.slice (some ⟨gg, 0, none⟩) n c) n (ints zs) → zs.length = n := fun h => by have := h.1; rw [ints_length] at this; omega
  have z0 : ∀ (gg x : Nat), (⟨gg, 0, none⟩ : Addr).add x = ⟨gg, x, none⟩ := fun gg x => by simp [Addr.add]; omega
  exact ⟨cell_made _ _ _ 0 _ rfl, cell_made _ _ _ 1 _ rfl, cell_made _ _ _ 3 _ rfl, cell_made _ _ _ 4 _ rfl, cell_made _ _ _ 6 _ rfl, cell_made _ _ _ 7 _ rfl, cell_made _ _ _ 8 _ rfl,
    fun x hl => old (by rw [z0]; exact own_int a0 (by rw [ln a0]; exact hl)), fun x hl => old (by rw [z0, ← Tr.la_up hx hl]; exact own_int a1 (by rw [ln a1]; exact hl)),
    fun x hl => old (by rw [z0]; exact own_int b0 (by rw [ln b0]; exact hl)), fun x hl => old (by rw [z0, ← Tr.la_up hy hl]; exact own_int b1 (by rw [ln b1]; exact hl)),
    fun u hu => old (hk.1.here hu), fun u hu => old (hk.2.1.here hu), fun u hu => old (hk.2.2.here hu)⟩
set_option maxHeartbeats 800000 in
set_option maxRecDepth 100000 in
theorem newTable_no (A A' : Option Addr) (n n' c c' : Nat) (xs ys : Tr) (K0 K1 K2 : Option Addr) (n0 n1 n2 c0 c1 c2 : Nat) (k : Co) (w : World) (ha : NdIn w w.heap.size A n xs) (hb : NdIn w w.heap.size A' n' ys) (hk : CoIn w w.heap.size K0 K1 K2 n0 n1 n2 k) (hn : n ≤ 1048576) (hn' : n' ≤ 1048576) (h0 : n0 ≤ 1048576) (h1 : n1 ≤ 1048576) (h2 : n2 ≤ 1048576) (hc : n ≤ c) (hc' : n' ≤ c') (hno : DOk xs ys k = false) :
    Calls Try.prog 82 #[.slice A n c, .slice A' n' c', .agg #[.slice K0 n0 c0, .slice K1 n1 c1, .slice K2 n2 c2]] w fun e w' => e = .returned (.pointer none) ∧ Below w.heap.size w w' := by
  obtain ⟨wc, hwc⟩ : ∃ wc, wc = w.alloc (.cells #[.slice K0 n0 c0, .slice K1 n1 c1, .slice K2 n2 c2] 27) := ⟨_, rfl⟩
  have hbc : Below w.heap.size w wc := by rw [hwc]; exact (Below.refl _ _).alloc (Nat.le_refl _) _
  have HQ := Lib.hid (show Box3 wc w.heap.size (.slice K0 n0 c0) (.slice K1 n1 c1) (.slice K2 n2 c2) by rw [hwc]; exact Box3.made _ _ _ _ _)
  have HWC := Lib.hid hwc
  have HA := Lib.hid (ha.to_below hbc)
  have HB := Lib.hid (hb.to_below hbc)
  have HK := Lib.hid (hk.to_below hbc)
  have HBC := Lib.hid hbc
  have HN := Lib.hid hno
  clear ha hb hk hwc hbc hno
  go_enter Try.func82, Try.ntmps82
  go_wp2_with fail
  rw [← HWC.out]
  refine (sidesOf_no _ _ _ _ _ _ xs ys _ _ _ _ _ _ _ _ _ k _ HA.out HB.out HK.out hn hn' h0 h1 h2 hc hc' HN.out).mono ?_
  rintro e w1 ⟨rfl, b1⟩
  have HS := Lib.hid (HBC.out.trans (b1.mono HBC.out.size))
  clear b1
  go_wp2
  go_ret
  exact ⟨rfl, HS.out.alloc HS.out.size _⟩
set_option maxHeartbeats 800000 in
set_option maxRecDepth 100000 in
theorem newTable_yes (A A' : Option Addr) (n n' c c' : Nat) (xs ys : Tr) (K0 K1 K2 : Option Addr) (n0 n1 n2 c0 c1 c2 : Nat) (k : Co) (w : World) (ha : NdIn w w.heap.size A n xs) (hb : NdIn w w.heap.size A' n' ys) (hk : CoIn w w.heap.size K0 K1 K2 n0 n1 n2 k) (hc : n ≤ c) (hc' : n' ≤ c') (hx : Tr.ok xs = true) (hy : Tr.ok ys = true) (ho : Co.ok k = true) :
    Calls Try.prog 82 #[.slice A n c, .slice A' n' c', .agg #[.slice K0 n0 c0, .slice K1 n1 c1, .slice K2 n2 c2]] w fun e w' => ∃ D : D10, e = .returned (.pointer (some ⟨D.g, 0, none⟩)) ∧ PT D xs ys k w' ∧ Below w.heap.size w w' ∧ w.heap.size ≤ D.gm ∧ w.heap.size ≤ D.g := by
  have hln := ha.1
  have hln' := hb.1
  have hkl := hk.len
  have l1 := (Zs.fit_iff.1 (Co.fit3 ho).1).1
  have l2 := (Zs.fit_iff.1 (Co.fit3 ho).2.1).1
  have l3 := (Zs.fit_iff.1 (Co.fit3 ho).2.2).1
  obtain rfl : n0 = 6 := by omega
  obtain rfl : n1 = 6 := by omega
  obtain rfl : n2 = 36 := by omega
  obtain ⟨k0, rfl, hk0⟩ := hk.1.2.1 (by omega)
  obtain ⟨k1, rfl, hk1⟩ := hk.2.1.2.1 (by omega)
  obtain ⟨k2, rfl, hk2⟩ := hk.2.2.2.1 (by omega)
  obtain ⟨x1, x24⟩ := Tr.len24 hx
  obtain ⟨y1, y24⟩ := Tr.len24 hy
  subst hln
  subst hln'
  obtain ⟨wc, hwc⟩ : ∃ wc, wc = w.alloc (.cells #[.slice (some k0) 6 c0, .slice (some k1) 6 c1, .slice (some k2) 36 c2] 27) := ⟨_, rfl⟩
  have hbc : Below w.heap.size w wc := by rw [hwc]; exact (Below.refl _ _).alloc (Nat.le_refl _) _
  have HQ := Lib.hid (show Box3 wc w.heap.size (.slice (some k0) 6 c0) (.slice (some k1) 6 c1) (.slice (some k2) 36 c2) by rw [hwc]; exact Box3.made _ _ _ _ _)
  have HWC := Lib.hid hwc
  have HA := Lib.hid (ha.to_below hbc)
  have HB := Lib.hid (hb.to_below hbc)
  have HK := Lib.hid (hk.to_below hbc)
  have HBC := Lib.hid hbc
  have HX := Lib.hid hx
  have HY := Lib.hid hy
  have HO := Lib.hid ho
  have hmm := @run_makeMap Try.prog
  clear ha hb hk hkl l1 l2 l3 hx hy ho hwc hbc
  go_enter Try.func82, Try.ntmps82
  go_wp2_with fail
  rw [← HWC.out]
  refine (sidesOf_yes _ _ _ _ _ _ xs ys _ _ _ _ _ _ _ _ _ k _ HA.out HB.out HK.out hc hc' HX.out HY.out HO.out).mono ?_
  rintro e w1 ⟨ga0, ga1, ga2, gb0, gb1, gb2, ca0, ca1, ca2, cb0, cb1, cb2, rfl, ra0, ra1, ra2, rb0, rb1, rb2, b1⟩
  have HS := Lib.hid (HBC.out.trans (b1.mono HBC.out.size))
  have BC := Lib.hid b1
  have ROWS := Lib.hid (And.intro ra0 (And.intro ra1 (And.intro rb0 rb1)))
  clear b1 ra0 ra1 ra2 rb0 rb1 rb2
  obtain ⟨w2, hw2⟩ : ∃ w2, w2 = w1.alloc (.cells #[.slice (some ⟨ga0, 0, none⟩) xs.length ca0, .slice (some ⟨ga1, 0, none⟩) xs.length ca1, .slice (some ⟨ga2, 0, none⟩) (Tr.krs xs).length ca2, .slice (some ⟨gb0, 0, none⟩) ys.length cb0, .slice (some ⟨gb1, 0, none⟩) ys.length cb1, .slice (some ⟨gb2, 0, none⟩) (Tr.krs ys).length cb2, .slice (some k0) 6 c0, .slice (some k1) 6 c1, .slice (some k2) 36 c2] 86) := ⟨_, rfl⟩
  have HW2 := Lib.hid hw2
  have B2 := Lib.hid (show Below w1.heap.size w1 w2 by rw [hw2]; exact (Below.refl _ _).alloc (Nat.le_refl _) _)
  have CC := Lib.hid (show ∀ o (_ : o < 9) v, #[.slice (some ⟨ga0, 0, none⟩) xs.length ca0, .slice (some ⟨ga1, 0, none⟩) xs.length ca1, .slice (some ⟨ga2, 0, none⟩) (Tr.krs xs).length ca2, .slice (some ⟨gb0, 0, none⟩) ys.length cb0, .slice (some ⟨gb1, 0, none⟩) ys.length cb1, .slice (some ⟨gb2, 0, none⟩) (Tr.krs ys).length cb2, .slice (some k0) 6 c0, .slice (some k1) 6 c1, .slice (some k2) 36 c2][o]? = some v → w2.cell? ⟨w1.heap.size, o, none⟩ = some v by intro o _ v hv; rw [hw2]; exact cell_made _ _ _ _ _ hv)
  have HS2 := Lib.hid (HS.out.trans (B2.out.mono HS.out.size))
  clear hw2
  have s0 := CC.out 0 (by omega) _ rfl
  have s1 := CC.out 1 (by omega) _ rfl
  have s2 := CC.out 2 (by omega) _ rfl
  have s3 := CC.out 3 (by omega) _ rfl
  have s4 := CC.out 4 (by omega) _ rfl
  have s5 := CC.out 5 (by omega) _ rfl
  have s6 := CC.out 6 (by omega) _ rfl
  have s7 := CC.out 7 (by omega) _ rfl
  have s8 := CC.out 8 (by omega) _ rfl
  go_wp2_with fail
  rw [← HW2.out]
  go_wp2_with fail
  clear s0 s1 s2 s3 s4 s5 s6 s7 s8
  obtain ⟨w3, hw3⟩ : ∃ w3, w3 = w2.alloc (.map #[] 0) := ⟨_, rfl⟩
  have M3 := Lib.hid (show Memo xs ys k w2.heap.size w3 by rw [hw3]; exact Memo.made w2)
  have B3 := Lib.hid (show Below w2.heap.size w2 w3 by rw [hw3]; exact (Below.refl _ _).alloc (Nat.le_refl _) _)
  have Z3 := Lib.hid (show w3.heap.size = w2.heap.size + 1 by rw [hw3]; simp)
  have hB13 : Below w1.heap.size w1 w3 := B2.out.trans (B3.out.mono B2.out.size)
  have hB33 : ∀ o, Below w3.heap.size w3 (w3.alloc o) := fun o => (Below.refl _ _).alloc (Nat.le_refl _) o
  obtain ⟨ra0, ra1, rb0, rb1⟩ := ROWS.out
  have hSD := SD.made (B := wc.heap.size) (ga2 := ga2) (gb2 := gb2) (ca2 := ca2) (cb2 := cb2) (c0 := c0) (c1 := c1) (c2 := c2) HX.out HY.out (own_below ra0 hB13) (own_below ra1 hB13) (own_below rb0 hB13) (own_below rb1 hB13) (HK.out.below (BC.out.trans (hB13.mono BC.out.size))) w2.heap.size 142
  have hPT : PT ⟨w3.heap.size, w2.heap.size, ⟨ga0, 0, none⟩, ⟨ga1, 0, none⟩, ⟨gb0, 0, none⟩, ⟨gb1, 0, none⟩, k0, k1, k2, ca0, ca1, cb0, cb1, c0, c1, c2⟩ xs ys k (w3.alloc (.cells #[.slice (some ⟨ga0, 0, none⟩) xs.length ca0, .slice (some ⟨ga1, 0, none⟩) xs.length ca1, .slice (some ⟨ga2, 0, none⟩) (Tr.krs xs).length ca2, .slice (some ⟨gb0, 0, none⟩) ys.length cb0, .slice (some ⟨gb1, 0, none⟩) ys.length cb1, .slice (some ⟨gb2, 0, none⟩) (Tr.krs ys).length cb2, .slice (some k0) 6 c0, .slice (some k1) 6 c1, .slice (some k2) 36 c2, .map (some w2.heap.size)] 142)) :=
    ⟨hSD, cell_made _ _ _ 9 _ rfl, M3.out.below (hB33 _)⟩
  have HP := Lib.hid hPT
  have HZ := Lib.hid (HS2.out.trans ((B3.out.mono HS2.out.size).trans ((hB33 (.cells #[.slice (some ⟨ga0, 0, none⟩) xs.length ca0, .slice (some ⟨ga1, 0, none⟩) xs.length ca1, .slice (some ⟨ga2, 0, none⟩) (Tr.krs xs).length ca2, .slice (some ⟨gb0, 0, none⟩) ys.length cb0, .slice (some ⟨gb1, 0, none⟩) ys.length cb1, .slice (some ⟨gb2, 0, none⟩) (Tr.krs ys).length cb2, .slice (some k0) 6 c0, .slice (some k1) 6 c1, .slice (some k2) 36 c2, .map (some w2.heap.size)] 142)).mono (Nat.le_trans HS2.out.size B3.out.size))))
  have HS3 := Lib.hid (Nat.le_trans HS2.out.size B3.out.size)
  have e2 : w2.heap.size = w1.heap.size + 1 := by rw [HW2.out]; simp

  clear hSD hPT hB13 hB33 ra0 ra1 rb0 rb1
  go_ret
  rw [← hw3, ← e2]
  refine ⟨⟨w3.heap.size, w2.heap.size, ⟨ga0, 0, none⟩, ⟨ga1, 0, none⟩, ⟨gb0, 0, none⟩, ⟨gb1, 0, none⟩, k0, k1, k2, ca0, ca1, cb0, cb1, c0, c1, c2⟩, ?_, ?_, ?_, HS2.out.size, HS3.out⟩
  · rw [Z3.out]; rfl
  · exact HP.out
  · exact HZ.out

end Go.Proofs.Ytlndaflhlkbedaa

/- Contracts (ForI). -/
namespace Go.Proofs.Ytlndaflhlkbedaa
open Go.RowKit
set_option linter.unusedVariables false

set_option maxHeartbeats 800000 in
set_option maxRecDepth 100000 in
theorem implForest_no (A A' : Option Addr) (n n' c c' : Nat) (xs ys : Tr) (K0 K1 K2 : Option Addr) (n0 n1 n2 c0 c1 c2 : Nat) (k : Co) (w : World) (ha : NdIn w w.heap.size A n xs) (hb : NdIn w w.heap.size A' n' ys) (hk : CoIn w w.heap.size K0 K1 K2 n0 n1 n2 k) (i0 i1 i2 i3 : Int) (hn : n ≤ 1048576) (hn' : n' ≤ 1048576) (h0 : n0 ≤ 1048576) (h1 : n1 ≤ 1048576) (h2 : n2 ≤ 1048576) (hc : n ≤ c) (hc' : n' ≤ c') (hno : DOk xs ys k = false) :
    Calls Try.prog 27 #[.slice A n c, .int .i64 i0, .int .i64 i1, .slice A' n' c', .int .i64 i2, .int .i64 i3, .agg #[.slice K0 n0 c0, .slice K1 n1 c1, .slice K2 n2 c2]] w fun e w' => e = .returned (.int .i64 (-1)) ∧ Below w.heap.size w w' := by
  obtain ⟨wc, hwc⟩ : ∃ wc, wc = w.alloc (.cells #[.slice K0 n0 c0, .slice K1 n1 c1, .slice K2 n2 c2] 27) := ⟨_, rfl⟩
  have hbc : Below w.heap.size w wc := by rw [hwc]; exact (Below.refl _ _).alloc (Nat.le_refl _) _
  have HQ := Lib.hid (show Box3 wc w.heap.size (.slice K0 n0 c0) (.slice K1 n1 c1) (.slice K2 n2 c2) by rw [hwc]; exact Box3.made _ _ _ _ _)
  have HWC := Lib.hid hwc
  have HA := Lib.hid (ha.to_below hbc)
  have HB := Lib.hid (hb.to_below hbc)
  have HK := Lib.hid (hk.to_below hbc)
  have HBC := Lib.hid hbc
  have HN := Lib.hid hno
  clear ha hb hk hwc hbc hno
  go_enter Try.func27, Try.ntmps27
  go_wp2_with fail
  rw [← HWC.out]
  refine (newTable_no _ _ _ _ _ _ xs ys _ _ _ _ _ _ _ _ _ k _ HA.out HB.out HK.out hn hn' h0 h1 h2 hc hc' HN.out).mono ?_
  rintro e w1 ⟨rfl, b1⟩
  have HS := Lib.hid (HBC.out.trans (b1.mono HBC.out.size))
  clear b1
  go_wp2
  go_ret
  exact ⟨rfl, HS.out⟩
set_option maxHeartbeats 800000 in
set_option maxRecDepth 100000 in
theorem implForest_a (A A' : Option Addr) (n n' c c' : Nat) (xs ys : Tr) (K0 K1 K2 : Option Addr) (n0 n1 n2 c0 c1 c2 : Nat) (k : Co) (w : World) (ha : NdIn w w.heap.size A n xs) (hb : NdIn w w.heap.size A' n' ys) (hk : CoIn w w.heap.size K0 K1 K2 n0 n1 n2 k) (i0 i1 i2 i3 : Int) (hc : n ≤ c) (hc' : n' ≤ c') (hx : Tr.ok xs = true) (hy : Tr.ok ys = true) (ho : Co.ok k = true) (hr : ¬ (0 ≤ i0 ∧ i0 ≤ i1 ∧ i1 ≤ (xs.length : Int))) :
    Calls Try.prog 27 #[.slice A n c, .int .i64 i0, .int .i64 i1, .slice A' n' c', .int .i64 i2, .int .i64 i3, .agg #[.slice K0 n0 c0, .slice K1 n1 c1, .slice K2 n2 c2]] w fun e w' => e = .returned (.int .i64 (-1)) ∧ Below w.heap.size w w' := by
  have hln := ha.1
  have hln' := hb.1
  have hkl := hk.len
  have l1 := (Zs.fit_iff.1 (Co.fit3 ho).1).1
  have l2 := (Zs.fit_iff.1 (Co.fit3 ho).2.1).1
  have l3 := (Zs.fit_iff.1 (Co.fit3 ho).2.2).1
  obtain rfl : n0 = 6 := by omega
  obtain rfl : n1 = 6 := by omega
  obtain rfl : n2 = 36 := by omega
  obtain ⟨k0, rfl, hk0⟩ := hk.1.2.1 (by omega)
  obtain ⟨k1, rfl, hk1⟩ := hk.2.1.2.1 (by omega)
  obtain ⟨k2, rfl, hk2⟩ := hk.2.2.2.1 (by omega)
  obtain ⟨x1, x24⟩ := Tr.len24 hx
  obtain ⟨y1, y24⟩ := Tr.len24 hy
  subst hln
  subst hln'
  obtain ⟨wc, hwc⟩ : ∃ wc, wc = w.alloc (.cells #[.slice (some k0) 6 c0, .slice (some k1) 6 c1, .slice (some k2) 36 c2] 27) := ⟨_, rfl⟩
  have hbc : Below w.heap.size w wc := by rw [hwc]; exact (Below.refl _ _).alloc (Nat.le_refl _) _
  have HQ := Lib.hid (show Box3 wc w.heap.size (.slice (some k0) 6 c0) (.slice (some k1) 6 c1) (.slice (some k2) 36 c2) by rw [hwc]; exact Box3.made _ _ _ _ _)
  have HWC := Lib.hid hwc
  have HA := Lib.hid (ha.to_below hbc)
  have HB := Lib.hid (hb.to_below hbc)
  have HK := Lib.hid (hk.to_below hbc)
  have HBC := Lib.hid hbc
  have HX := Lib.hid hx
  have HY := Lib.hid hy
  have HO := Lib.hid ho
  have hmm := @run_makeMap Try.prog
  have RA := Lib.hid (show decide (0 ≤ i0 ∧ i0 ≤ i1 ∧ i1 ≤ (xs.length : Int)) = false from decide_eq_false hr)
  clear hr
  clear ha hb hk hkl l1 l2 l3 hx hy ho hwc hbc
  go_enter Try.func27, Try.ntmps27
  go_wp2_with fail
  rw [← HWC.out]
  refine (newTable_yes _ _ _ _ _ _ xs ys _ _ _ _ _ _ _ _ _ k _ HA.out HB.out HK.out hc hc' HX.out HY.out HO.out).mono ?_
  rintro e w2 ⟨D, rfl, hPT, b1, hgm, hgg⟩
  have HS2 := Lib.hid (HBC.out.trans (b1.mono HBC.out.size))
  have HP := Lib.hid hPT
  have HG := Lib.hid (Nat.le_trans HBC.out.size hgm)
  clear b1 hPT hgm hgg
  go_wp2_with fail
  refine (rangeOk_any i0 i1 _ w2).mono ?_
  rintro e w' ⟨rfl, rfl⟩
  rw [RA.out]
  go_wp2
  go_ret
  exact ⟨rfl, HS2.out⟩
set_option maxHeartbeats 800000 in
set_option maxRecDepth 100000 in
theorem implForest_b (A A' : Option Addr) (n n' c c' : Nat) (xs ys : Tr) (K0 K1 K2 : Option Addr) (n0 n1 n2 c0 c1 c2 : Nat) (k : Co) (w : World) (ha : NdIn w w.heap.size A n xs) (hb : NdIn w w.heap.size A' n' ys) (hk : CoIn w w.heap.size K0 K1 K2 n0 n1 n2 k) (i0 i1 i2 i3 : Int) (hc : n ≤ c) (hc' : n' ≤ c') (hx : Tr.ok xs = true) (hy : Tr.ok ys = true) (ho : Co.ok k = true) (ha' : 0 ≤ i0 ∧ i0 ≤ i1 ∧ i1 ≤ (xs.length : Int)) (hr : ¬ (0 ≤ i2 ∧ i2 ≤ i3 ∧ i3 ≤ (ys.length : Int))) :
    Calls Try.prog 27 #[.slice A n c, .int .i64 i0, .int .i64 i1, .slice A' n' c', .int .i64 i2, .int .i64 i3, .agg #[.slice K0 n0 c0, .slice K1 n1 c1, .slice K2 n2 c2]] w fun e w' => e = .returned (.int .i64 (-1)) ∧ Below w.heap.size w w' := by
  have hln := ha.1
  have hln' := hb.1
  have hkl := hk.len
  have l1 := (Zs.fit_iff.1 (Co.fit3 ho).1).1
  have l2 := (Zs.fit_iff.1 (Co.fit3 ho).2.1).1
  have l3 := (Zs.fit_iff.1 (Co.fit3 ho).2.2).1
  obtain rfl : n0 = 6 := by omega
  obtain rfl : n1 = 6 := by omega
  obtain rfl : n2 = 36 := by omega
  obtain ⟨k0, rfl, hk0⟩ := hk.1.2.1 (by omega)
  obtain ⟨k1, rfl, hk1⟩ := hk.2.1.2.1 (by omega)
  obtain ⟨k2, rfl, hk2⟩ := hk.2.2.2.1 (by omega)
  obtain ⟨x1, x24⟩ := Tr.len24 hx
  obtain ⟨y1, y24⟩ := Tr.len24 hy
  subst hln
  subst hln'
  obtain ⟨wc, hwc⟩ : ∃ wc, wc = w.alloc (.cells #[.slice (some k0) 6 c0, .slice (some k1) 6 c1, .slice (some k2) 36 c2] 27) := ⟨_, rfl⟩
  have hbc : Below w.heap.size w wc := by rw [hwc]; exact (Below.refl _ _).alloc (Nat.le_refl _) _
  have HQ := Lib.hid (show Box3 wc w.heap.size (.slice (some k0) 6 c0) (.slice (some k1) 6 c1) (.slice (some k2) 36 c2) by rw [hwc]; exact Box3.made _ _ _ _ _)
  have HWC := Lib.hid hwc
  have HA := Lib.hid (ha.to_below hbc)
  have HB := Lib.hid (hb.to_below hbc)
  have HK := Lib.hid (hk.to_below hbc)
  have HBC := Lib.hid hbc
  have HX := Lib.hid hx
  have HY := Lib.hid hy
  have HO := Lib.hid ho
  have hmm := @run_makeMap Try.prog
  have RA := Lib.hid (show decide (0 ≤ i0 ∧ i0 ≤ i1 ∧ i1 ≤ (xs.length : Int)) = true from decide_eq_true ha')
  have RB := Lib.hid (show decide (0 ≤ i2 ∧ i2 ≤ i3 ∧ i3 ≤ (ys.length : Int)) = false from decide_eq_false hr)
  clear hr ha'
  clear ha hb hk hkl l1 l2 l3 hx hy ho hwc hbc
  go_enter Try.func27, Try.ntmps27
  go_wp2_with fail
  rw [← HWC.out]
  refine (newTable_yes _ _ _ _ _ _ xs ys _ _ _ _ _ _ _ _ _ k _ HA.out HB.out HK.out hc hc' HX.out HY.out HO.out).mono ?_
  rintro e w2 ⟨D, rfl, hPT, b1, hgm, hgg⟩
  have HS2 := Lib.hid (HBC.out.trans (b1.mono HBC.out.size))
  have HP := Lib.hid hPT
  have HG := Lib.hid (Nat.le_trans HBC.out.size hgm)
  clear b1 hPT hgm hgg
  go_wp2_with fail
  refine (rangeOk_any i0 i1 _ w2).mono ?_
  rintro e w' ⟨rfl, rfl⟩
  rw [RA.out]
  go_wp2_with fail
  refine (rangeOk_any i2 i3 _ w2).mono ?_
  rintro e w' ⟨rfl, rfl⟩
  rw [RB.out]
  go_wp2
  go_ret
  exact ⟨rfl, HS2.out⟩
set_option maxHeartbeats 800000 in
set_option maxRecDepth 100000 in
theorem implForest_yes (A A' : Option Addr) (n n' c c' : Nat) (xs ys : Tr) (K0 K1 K2 : Option Addr) (n0 n1 n2 c0 c1 c2 : Nat) (k : Co) (w : World) (ha : NdIn w w.heap.size A n xs) (hb : NdIn w w.heap.size A' n' ys) (hk : CoIn w w.heap.size K0 K1 K2 n0 n1 n2 k) (i0 i1 i2 i3 : Int) (hc : n ≤ c) (hc' : n' ≤ c') (hx : Tr.ok xs = true) (hy : Tr.ok ys = true) (ho : Co.ok k = true) (i j p q : Nat) (e0 : i0 = (i : Int)) (e1 : i1 = (j : Int)) (e2 : i2 = (p : Int)) (e3 : i3 = (q : Int)) (hij : i ≤ j) (hj : j ≤ xs.length) (hpq : p ≤ q) (hq : q ≤ ys.length) :
    Calls Try.prog 27 #[.slice A n c, .int .i64 i0, .int .i64 i1, .slice A' n' c', .int .i64 i2, .int .i64 i3, .agg #[.slice K0 n0 c0, .slice K1 n1 c1, .slice K2 n2 c2]] w fun e w' => e = .returned (.int .i64 (RR xs ys k i j p q)) ∧ Below w.heap.size w w' := by
  have hln := ha.1
  have hln' := hb.1
  have hkl := hk.len
  have l1 := (Zs.fit_iff.1 (Co.fit3 ho).1).1
  have l2 := (Zs.fit_iff.1 (Co.fit3 ho).2.1).1
  have l3 := (Zs.fit_iff.1 (Co.fit3 ho).2.2).1
  obtain rfl : n0 = 6 := by omega
  obtain rfl : n1 = 6 := by omega
  obtain rfl : n2 = 36 := by omega
  obtain ⟨k0, rfl, hk0⟩ := hk.1.2.1 (by omega)
  obtain ⟨k1, rfl, hk1⟩ := hk.2.1.2.1 (by omega)
  obtain ⟨k2, rfl, hk2⟩ := hk.2.2.2.1 (by omega)
  obtain ⟨x1, x24⟩ := Tr.len24 hx
  obtain ⟨y1, y24⟩ := Tr.len24 hy
  subst hln
  subst hln'
  obtain ⟨wc, hwc⟩ : ∃ wc, wc = w.alloc (.cells #[.slice (some k0) 6 c0, .slice (some k1) 6 c1, .slice (some k2) 36 c2] 27) := ⟨_, rfl⟩
  have hbc : Below w.heap.size w wc := by rw [hwc]; exact (Below.refl _ _).alloc (Nat.le_refl _) _
  have HQ := Lib.hid (show Box3 wc w.heap.size (.slice (some k0) 6 c0) (.slice (some k1) 6 c1) (.slice (some k2) 36 c2) by rw [hwc]; exact Box3.made _ _ _ _ _)
  have HWC := Lib.hid hwc
  have HA := Lib.hid (ha.to_below hbc)
  have HB := Lib.hid (hb.to_below hbc)
  have HK := Lib.hid (hk.to_below hbc)
  have HBC := Lib.hid hbc
  have HX := Lib.hid hx
  have HY := Lib.hid hy
  have HO := Lib.hid ho
  have hmm := @run_makeMap Try.prog
  have RA := Lib.hid (show decide (0 ≤ i0 ∧ i0 ≤ i1 ∧ i1 ≤ (xs.length : Int)) = true from decide_eq_true (by omega))
  have RB := Lib.hid (show decide (0 ≤ i2 ∧ i2 ≤ i3 ∧ i3 ≤ (ys.length : Int)) = true from decide_eq_true (by omega))
  have DD := Lib.hid (fun (D : D10) (wq : World) (hp : PT D xs ys k wq) => rangeDist_any D xs ys k hx hy ho (xs.length + ys.length + 1) i j p q wq hij hj hpq hq (by omega) hp)
  subst e0 e1 e2 e3
  clear hij hj hpq hq
  clear ha hb hk hkl l1 l2 l3 hx hy ho hwc hbc
  go_enter Try.func27, Try.ntmps27
  go_wp2_with fail
  rw [← HWC.out]
  refine (newTable_yes _ _ _ _ _ _ xs ys _ _ _ _ _ _ _ _ _ k _ HA.out HB.out HK.out hc hc' HX.out HY.out HO.out).mono ?_
  rintro e w2 ⟨D, rfl, hPT, b1, hgm, hgg⟩
  have HS2 := Lib.hid (HBC.out.trans (b1.mono HBC.out.size))
  have HP := Lib.hid hPT
  have HG := Lib.hid (Nat.le_trans HBC.out.size hgm)
  clear b1 hPT hgm hgg
  go_wp2_with fail
  refine (rangeOk_any (i : Int) (j : Int) _ w2).mono ?_
  rintro e w' ⟨rfl, rfl⟩
  rw [RA.out]
  go_wp2_with fail
  refine (rangeOk_any (p : Int) (q : Int) _ w2).mono ?_
  rintro e w' ⟨rfl, rfl⟩
  rw [RB.out]
  go_wp2_with fail
  refine (DD.out _ _ HP.out).mono ?_
  rintro e w4 ⟨rfl, _, hg⟩
  have HR := Lib.hid (show Below w.heap.size w w4 from HS2.out.grown hg HS2.out.size (fun b hb => by injection hb with hb; rw [← hb]; exact HG.out))
  clear hg
  go_wp2
  go_ret
  exact ⟨rfl, HR.out⟩
theorem implForestDist_any (A A' : Option Addr) (n n' c c' : Nat) (xs ys : Tr) (K0 K1 K2 : Option Addr) (n0 n1 n2 c0 c1 c2 : Nat) (k : Co) (w : World) (ha : NdIn w w.heap.size A n xs) (hb : NdIn w w.heap.size A' n' ys) (hk : CoIn w w.heap.size K0 K1 K2 n0 n1 n2 k) (i0 i1 i2 i3 : Int) (hn : n ≤ 1048576) (hn' : n' ≤ 1048576) (h0 : n0 ≤ 1048576) (h1 : n1 ≤ 1048576) (h2 : n2 ≤ 1048576) (hc : n ≤ c) (hc' : n' ≤ c') :
    Calls Try.prog 27 #[.slice A n c, .int .i64 i0, .int .i64 i1, .slice A' n' c', .int .i64 i2, .int .i64 i3, .agg #[.slice K0 n0 c0, .slice K1 n1 c1, .slice K2 n2 c2]] w fun e w' => e = .returned (.int .i64 (Tr.fdist xs ys k i0 i1 i2 i3)) ∧ Below w.heap.size w w' := by
  cases hd : DOk xs ys k with
  | false =>
    rw [show Tr.fdist xs ys k i0 i1 i2 i3 = -1 from if_neg (fun h => by unfold DOk at hd; rw [hd] at h; exact absurd h.1 (by decide))]
    exact implForest_no A A' n n' c c' xs ys K0 K1 K2 n0 n1 n2 c0 c1 c2 k w ha hb hk i0 i1 i2 i3 hn hn' h0 h1 h2 hc hc' hd
  | true =>
    obtain ⟨o1, o2, o3⟩ := DOk.parts hd
    by_cases hr : 0 ≤ i0 ∧ i0 ≤ i1 ∧ i1 ≤ (xs.length : Int)
    · by_cases hs : 0 ≤ i2 ∧ i2 ≤ i3 ∧ i3 ≤ (ys.length : Int)
      · rw [show Tr.fdist xs ys k i0 i1 i2 i3 = RR xs ys k i0.toNat i1.toNat i2.toNat i3.toNat from if_pos ⟨hd, hr, hs⟩]
        exact implForest_yes A A' n n' c c' xs ys K0 K1 K2 n0 n1 n2 c0 c1 c2 k w ha hb hk i0 i1 i2 i3 hc hc' o1 o2 o3 _ _ _ _ (by omega) (by omega) (by omega) (by omega) (by omega) (by omega) (by omega) (by omega)
      · rw [show Tr.fdist xs ys k i0 i1 i2 i3 = -1 from if_neg (fun h => hs h.2.2)]
        exact implForest_b A A' n n' c c' xs ys K0 K1 K2 n0 n1 n2 c0 c1 c2 k w ha hb hk i0 i1 i2 i3 hc hc' o1 o2 o3 hr hs
    · rw [show Tr.fdist xs ys k i0 i1 i2 i3 = -1 from if_neg (fun h => hr h.2.1)]
      exact implForest_a A A' n n' c c' xs ys K0 K1 K2 n0 n1 n2 c0 c1 c2 k w ha hb hk i0 i1 i2 i3 hc hc' o1 o2 o3 hr

end Go.Proofs.Ytlndaflhlkbedaa

/- Contracts (SzC). -/
namespace Go.Proofs.Ytlndaflhlkbedaa
open Go.RowKit
set_option linter.unusedVariables false

set_option maxHeartbeats 400000 in
theorem szIntS_any (A : Option Addr) (n c : Nat) (left : Int) (w : World) (hn : n ≤ 9223372036854775807) (h0 : 0 ≤ left) (h1 : left ≤ 1048576) :
    Calls Try.prog 102 #[.slice A n c, .int .i64 left] w fun e w' => e = .returned (.int .i64 (if (n : Int) ≤ left then left - n else -1)) ∧ w = w' := by
  by_cases h : (n : Int) ≤ left
  · rw [if_pos h]
    go_enter Try.func102, Try.ntmps102
    go_wp2
    go_ret
    exact ⟨rfl, rfl⟩
  · rw [if_neg h]
    go_enter Try.func102, Try.ntmps102
    go_wp2
    go_ret
    exact ⟨rfl, rfl⟩
set_option maxHeartbeats 1600000 in
set_option maxRecDepth 100000 in
theorem szCost_any (A0 A1 A2 : Option Addr) (n0 n1 n2 c0 c1 c2 : Nat) (left : Int) (w : World) (l0 : n0 ≤ 9223372036854775807) (l1 : n1 ≤ 9223372036854775807) (l2 : n2 ≤ 9223372036854775807) (h0 : 0 ≤ left) (h1 : left ≤ 1048576) :
    Calls Try.prog 49 #[.agg #[.slice A0 n0 c0, .slice A1 n1 c1, .slice A2 n2 c2], .int .i64 left] w fun e w' => e = .returned (.int .i64 (if (n0 : Int) + n1 + n2 ≤ left then left - (n0 + n1 + n2 : Nat) else -1)) ∧ Below w.heap.size w w' := by
  have HB := Lib.hid ((Below.refl w.heap.size w).alloc (Nat.le_refl _) (.cells #[.slice A0 n0 c0, .slice A1 n1 c1, .slice A2 n2 c2] 58))
  by_cases q0 : (n0 : Int) ≤ left
  · by_cases q1 : (n1 : Int) ≤ left - n0
    · by_cases q2 : (n2 : Int) ≤ left - n0 - n1
      · rw [if_pos (by omega)]
        go_enter Try.func49, Try.ntmps49
        go_wp2_with fail
        refine (szIntS_any _ _ _ (left) _ l0 h0 h1).mono ?_
        rintro e w' ⟨rfl, rfl⟩
        rw [if_pos (by omega)]
        go_wp2_with fail
        refine (szIntS_any _ _ _ (left - n0) _ l1 (by omega) (by omega)).mono ?_
        rintro e w' ⟨rfl, rfl⟩
        rw [if_pos (by omega)]
        go_wp2_with fail
        refine (szIntS_any _ _ _ (left - n0 - n1) _ l2 (by omega) (by omega)).mono ?_
        rintro e w' ⟨rfl, rfl⟩
        rw [if_pos (by omega)]
        go_wp2
        go_ret
        exact ⟨Kit.ret_int (by omega), HB.out⟩
      · rw [if_neg (by omega)]
        go_enter Try.func49, Try.ntmps49
        go_wp2_with fail
        refine (szIntS_any _ _ _ (left) _ l0 h0 h1).mono ?_
        rintro e w' ⟨rfl, rfl⟩
        rw [if_pos (by omega)]
        go_wp2_with fail
        refine (szIntS_any _ _ _ (left - n0) _ l1 (by omega) (by omega)).mono ?_
        rintro e w' ⟨rfl, rfl⟩
        rw [if_pos (by omega)]
        go_wp2_with fail
        refine (szIntS_any _ _ _ (left - n0 - n1) _ l2 (by omega) (by omega)).mono ?_
        rintro e w' ⟨rfl, rfl⟩
        rw [if_neg (by omega)]
        go_wp2
        go_ret
        exact ⟨rfl, HB.out⟩
    · rw [if_neg (by omega)]
      go_enter Try.func49, Try.ntmps49
      go_wp2_with fail
      refine (szIntS_any _ _ _ (left) _ l0 h0 h1).mono ?_
      rintro e w' ⟨rfl, rfl⟩
      rw [if_pos (by omega)]
      go_wp2_with fail
      refine (szIntS_any _ _ _ (left - n0) _ l1 (by omega) (by omega)).mono ?_
      rintro e w' ⟨rfl, rfl⟩
      rw [if_neg (by omega)]
      go_wp2
      go_ret
      exact ⟨rfl, HB.out⟩
  · rw [if_neg (by omega)]
    go_enter Try.func49, Try.ntmps49
    go_wp2_with fail
    refine (szIntS_any _ _ _ (left) _ l0 h0 h1).mono ?_
    rintro e w' ⟨rfl, rfl⟩
    rw [if_neg (by omega)]
    go_wp2
    go_ret
    exact ⟨rfl, HB.out⟩

end Go.Proofs.Ytlndaflhlkbedaa

/- Contracts (Three2). -/
namespace Go.Proofs.Ytlndaflhlkbedaa
open Go.RowKit
set_option linter.unusedVariables false

theorem Apart.of_new {v v' : Value} {w w' : World} {base size n n' : Nat} {e e' : TypeId} {ys ys' : List Value} (h : w.ownsRow base e size v n ys) (h' : w'.ownsRow w.heap.size e' size v' n' ys') : Apart v v' := by
  rcases hb : v.ownBlock with _ | g
  · exact .inl hb
  · refine .inr fun e => ?_
    have h1 := (h.lt g hb).2
    rw [hb] at e
    have h2 := (h'.lt g e.symm).1
    omega
theorem Three.put0 {w0 w w' : World} {g n0 n1 n2 n' : Nat} {L0 L1 L2 L' : List Int} {v0 v1 v2 v' : Value} (hg : w0.heap.size ≤ g) (h : ThreeAt w0 g n0 n1 n2 L0 L1 L2 v0 v1 v2 w)
    (hb : Below w.heap.size w w') (hown : w'.ownsRow w.heap.size 3 1 v' n' (ints L')) :
    ThreeAt w0 g n' n1 n2 L' L1 L2 v' v1 v2 (w'.setCell ⟨g, 0, none⟩ v') := by
  obtain ⟨hx, hf, o0, o1, o2, a01, a02, a12, hB, hgl⟩ := h
  have hgw : g < w'.heap.size := by have := hb.size; omega
  have hgs := Kit.grown_set w' g 0 v'
  have keep : ∀ {v : Value} {n : Nat} {ys : List Value}, w'.ownsRow (g + 1) 3 1 v n ys → (w'.setCell ⟨g, 0, none⟩ v').ownsRow (g + 1) 3 1 v n ys := fun k => own_grown k hgs (fun b hb => by injection hb with hb; omega)
  obtain ⟨b0, b1, b2⟩ := hx.below hb hgl
  refine ⟨⟨?_, ?_, ?_⟩, fun off => ?_, ?_, ?_, ?_, (Apart.of_new o1 hown).symm, (Apart.of_new o2 hown).symm, a12, (hB.trans (hb.mono hB.size)).setCell (by exact hg) _, by simpa using hgw⟩
  · exact World.cell?_setCell_same' _ _ _ (by rw [b0]; rfl)
  · rw [World.cell?_setCell_other _ _ _ _ (fun e => by injection e with e1 e2; omega)]; exact b1
  · rw [World.cell?_setCell_other _ _ _ _ (fun e => by injection e with e1 e2; omega)]; exact b2
  · rw [World.frozen?_setCell]
    have e := hb.block g hgl
    have := hf off
    unfold World.frozen? at this ⊢
    simp only [e]
    exact this
  · exact keep (own_base hown (by omega))
  · exact keep (own_below o1 hb)
  · exact keep (own_below o2 hb)
theorem Three.put1 {w0 w w' : World} {g n0 n1 n2 n' : Nat} {L0 L1 L2 L' : List Int} {v0 v1 v2 v' : Value} (hg : w0.heap.size ≤ g) (h : ThreeAt w0 g n0 n1 n2 L0 L1 L2 v0 v1 v2 w)
    (hb : Below w.heap.size w w') (hown : w'.ownsRow w.heap.size 3 1 v' n' (ints L')) :
    ThreeAt w0 g n0 n' n2 L0 L' L2 v0 v' v2 (w'.setCell ⟨g, 1, none⟩ v') := by
  obtain ⟨hx, hf, o0, o1, o2, a01, a02, a12, hB, hgl⟩ := h
  have hgw : g < w'.heap.size := by have := hb.size; omega
  have hgs := Kit.grown_set w' g 1 v'
  have keep : ∀ {v : Value} {n : Nat} {ys : List Value}, w'.ownsRow (g + 1) 3 1 v n ys → (w'.setCell ⟨g, 1, none⟩ v').ownsRow (g + 1) 3 1 v n ys := fun k => own_grown k hgs (fun b hb => by injection hb with hb; omega)
  obtain ⟨b0, b1, b2⟩ := hx.below hb hgl
  refine ⟨⟨?_, ?_, ?_⟩, fun off => ?_, ?_, ?_, ?_, (Apart.of_new o0 hown), a02, (Apart.of_new o2 hown).symm, (hB.trans (hb.mono hB.size)).setCell (by exact hg) _, by simpa using hgw⟩
  · rw [World.cell?_setCell_other _ _ _ _ (fun e => by injection e with e1 e2; omega)]; exact b0
  · exact World.cell?_setCell_same' _ _ _ (by rw [b1]; rfl)
  · rw [World.cell?_setCell_other _ _ _ _ (fun e => by injection e with e1 e2; omega)]; exact b2
  · rw [World.frozen?_setCell]
    have e := hb.block g hgl
    have := hf off
    unfold World.frozen? at this ⊢
    simp only [e]
    exact this
  · exact keep (own_below o0 hb)
  · exact keep (own_base hown (by omega))
  · exact keep (own_below o2 hb)
theorem Three.put2 {w0 w w' : World} {g n0 n1 n2 n' : Nat} {L0 L1 L2 L' : List Int} {v0 v1 v2 v' : Value} (hg : w0.heap.size ≤ g) (h : ThreeAt w0 g n0 n1 n2 L0 L1 L2 v0 v1 v2 w)
    (hb : Below w.heap.size w w') (hown : w'.ownsRow w.heap.size 3 1 v' n' (ints L')) :
    ThreeAt w0 g n0 n1 n' L0 L1 L' v0 v1 v' (w'.setCell ⟨g, 2, none⟩ v') := by
  obtain ⟨hx, hf, o0, o1, o2, a01, a02, a12, hB, hgl⟩ := h
  have hgw : g < w'.heap.size := by have := hb.size; omega
  have hgs := Kit.grown_set w' g 2 v'
  have keep : ∀ {v : Value} {n : Nat} {ys : List Value}, w'.ownsRow (g + 1) 3 1 v n ys → (w'.setCell ⟨g, 2, none⟩ v').ownsRow (g + 1) 3 1 v n ys := fun k => own_grown k hgs (fun b hb => by injection hb with hb; omega)
  obtain ⟨b0, b1, b2⟩ := hx.below hb hgl
  refine ⟨⟨?_, ?_, ?_⟩, fun off => ?_, ?_, ?_, ?_, a01, (Apart.of_new o0 hown), (Apart.of_new o1 hown), (hB.trans (hb.mono hB.size)).setCell (by exact hg) _, by simpa using hgw⟩
  · rw [World.cell?_setCell_other _ _ _ _ (fun e => by injection e with e1 e2; omega)]; exact b0
  · rw [World.cell?_setCell_other _ _ _ _ (fun e => by injection e with e1 e2; omega)]; exact b1
  · exact World.cell?_setCell_same' _ _ _ (by rw [b2]; rfl)
  · rw [World.frozen?_setCell]
    have e := hb.block g hgl
    have := hf off
    unfold World.frozen? at this ⊢
    simp only [e]
    exact this
  · exact keep (own_below o0 hb)
  · exact keep (own_below o1 hb)
  · exact keep (own_base hown (by omega))

end Go.Proofs.Ytlndaflhlkbedaa

/- Contracts (ToIS). -/
namespace Go.Proofs.Ytlndaflhlkbedaa
open Go.RowKit
set_option linter.unusedVariables false

set_option maxHeartbeats 1600000 in
set_option maxRecDepth 100000 in
theorem toIntS_any (A : Option Addr) (n c : Nat) (zs : List Int) (w : World) (h : IntIn w w.heap.size A n zs) (hn : n ≤ 1048576) :
    Calls Try.prog 104 #[.slice A n c] w fun e w' => e = .returned (.slice (some ⟨w.heap.size, 0, none⟩) n n) ∧ w'.ownsRow w.heap.size 3 1 (.slice (some ⟨w.heap.size, 0, none⟩) n n) n (ints zs) ∧ Below w.heap.size w w' := by
  have H := Lib.hid h
  have HL := Lib.hid h.1
  clear h
  obtain ⟨i0, hi, hz0, hz1, hz2⟩ := info_parts info_intZ
  have Hi := Lib.hid hi
  clear hi
  have HZ0 := Lib.hid (show List.replicate n (0 : Int) = Zs.part zs 0 by rw [Zs.part_zero, HL.out])
  go_enter Try.func104, Try.ntmps104
  go_wp2_with (at_make; go_loud (refine wpList_make_full _ rfl _ _ 25 rfl w.heap.size 3 i0 (.int .i64 0) 1 Try.underlying25 Hi.out hz0 hz1 _ _ _ _ n rfl rfl rfl rfl (by rw [hz2]; omega) (by unfold maxLen; omega) (Nat.le_refl _) ?_); intro w2 hown2 hgrow2)
  have hb2 : Below w.heap.size w w2 := (Below.refl _ w).grown hgrow2 (Nat.le_refl _) (fun _ h => by cases h)
  rw [made_zeros 0 n, HZ0.out] at hown2
  have HO2 := Lib.hid hown2
  have HB2 := Lib.hid hb2
  clear hown2 hgrow2 hb2
  go_wp2
  go_loopw [4] (fun iv wr => ∃ k : Nat, k ≤ n ∧ iv = .int .i64 k ∧ wr.ownsRow w.heap.size 3 1 (.slice (some ⟨w.heap.size, 0, none⟩) n n) n (ints (Zs.part zs k)) ∧ Below w.heap.size w wr) (fun i _ => n - (intOf i).toNat)
  case atStart => exact ⟨0, Nat.zero_le _, rfl, HO2.out, HB2.out⟩
  case round =>
    clear HO2 HB2
    obtain ⟨k, hk, rfl, hown, hB⟩ := hrel
    have Ho := Lib.hid hown
    have HB := Lib.hid hB
    clear hown hB
    by_cases hlt : k < n
    · obtain ⟨ad, rfl, _, c1⟩ := (H.out.below HB.out).at_ hlt
      have c0 := own_int Ho.out (k := k) (by rw [Zs.part_length zs k (by rw [HL.out]; exact hk), HL.out]; exact hlt)
      have f0 := Ho.out.frozenAt k
      have b2 : (0 : Int) ≤ (k : Int) := by omega
      have b3 : (k : Int) < (n : Int) := by omega
      go_wp2
      go_roundw
      case rel =>
        refine ⟨k + 1, by omega, by go_num, ?_, HB.out.setCell (Nat.le_refl _) _⟩
        have := (Ho.out.stored k (.int .i64 (Zs.at zs k))).1
        rw [ints_set, Zs.part_set zs k (by rw [HL.out]; exact hlt)] at this
        exact this
      case measure => simp [intOf]; omega
    · obtain rfl : k = n := by omega
      rw [show Zs.part zs k = zs by rw [← HL.out]; exact Zs.part_all zs] at Ho
      go_wp2
      go_ret
      exact ⟨rfl, Ho.out, HB.out⟩
/-- the like, where the answer lies left open -/
theorem toIntS_own (A : Option Addr) (n c : Nat) (zs : List Int) (w : World) (h : IntIn w w.heap.size A n zs) (hn : n ≤ 1048576) :
    Calls Try.prog 104 #[.slice A n c] w fun e w' => ∃ A' c', e = .returned (.slice A' n c') ∧ w'.ownsRow w.heap.size 3 1 (.slice A' n c') n (ints zs) ∧ Below w.heap.size w w' :=
  (toIntS_any A n c zs w h hn).mono fun _ _ ⟨h1, h2, h3⟩ => ⟨_, _, h1, h2, h3⟩

end Go.Proofs.Ytlndaflhlkbedaa

/- Contracts (ToCo). -/
namespace Go.Proofs.Ytlndaflhlkbedaa
open Go.RowKit
set_option linter.unusedVariables false

theorem info_intT : (Try.prog.info? 3).map (fun i => (i.zero, i.size, i.bytes)) = some (some (.int .i64 0), 1, 8) := by kernel_rfl
set_option maxHeartbeats 1600000 in
set_option maxRecDepth 100000 in
theorem toCost_any (A0 A1 A2 : Option Addr) (n0 n1 n2 c0 c1 c2 : Nat) (k : Co) (w : World) (h : CoIn w w.heap.size A0 A1 A2 n0 n1 n2 k) (h0 : n0 ≤ 1048576) (h1 : n1 ≤ 1048576) (h2 : n2 ≤ 1048576) :
    Calls Try.prog 51 #[.agg #[.slice A0 n0 c0, .slice A1 n1 c1, .slice A2 n2 c2]] w (OwnCo k w) := by
  have H := Lib.hid h
  have HL := Lib.hid h.len
  clear h
  obtain ⟨o1, ho1⟩ : ∃ o, o = Obj.cells #[.slice A0 n0 c0, .slice A1 n1 c1, .slice A2 n2 c2] 58 := ⟨_, rfl⟩
  obtain ⟨o2, ho2⟩ : ∃ o, o = Obj.cells #[.slice none 0 0, .slice none 0 0, .slice none 0 0] 27 := ⟨_, rfl⟩
  obtain ⟨s, hs⟩ : ∃ s, s = w.heap.size := ⟨_, rfl⟩
  have s1 : (w.alloc o1).heap.size = s + 1 := by rw [hs]; simp
  have s2 : ((w.alloc o1).alloc o2).heap.size = s + 2 := by rw [hs]; simp
  have hb1 := (Below.refl w.heap.size w).alloc (Nat.le_refl _) o1
  have hb2 := hb1.alloc hb1.size o2
  have hx0 : Box3 (w.alloc o1) s (.slice A0 n0 c0) (.slice A1 n1 c1) (.slice A2 n2 c2) := by rw [ho1, hs]; exact Box3.made _ _ _ _ _
  have hz0 : Box3 ((w.alloc o1).alloc o2) (s + 1) (.slice none 0 0) (.slice none 0 0) (.slice none 0 0) := by rw [← s1, ho2]; exact Box3.made _ _ _ _ _
  have hzf : ∀ off, ((w.alloc o1).alloc o2).frozen? ⟨s + 1, off, none⟩ = false := by rw [← s1, ho2]; exact Box3.free _ _ _ _ _
  have hT : ThreeAt ((w.alloc o1).alloc o2) (s + 2) 0 0 0 [] [] [] (.slice none 0 0) (.slice none 0 0) (.slice none 0 0) (((w.alloc o1).alloc o2).alloc o2) := by
    have := Three.new ((w.alloc o1).alloc o2) 27
    rw [← ho2, s2] at this
    exact this
  have hb3 : Below (s + 2) ((w.alloc o1).alloc o2) (((w.alloc o1).alloc o2).alloc o2) := by have := (Below.refl ((w.alloc o1).alloc o2).heap.size ((w.alloc o1).alloc o2)).alloc (Nat.le_refl _) o2; rw [s2] at this; exact this
  have HX := Lib.hid (hx0.alloc (by omega) o2)
  have HZ := Lib.hid hz0
  have HZF := Lib.hid hzf
  have HT := Lib.hid hT
  have HB2 := Lib.hid hb2
  have S2 := Lib.hid s2
  have hyb := ((hx0.alloc (by omega) o2).below hb3 (by omega)).1
  obtain ⟨wz, hwz⟩ : ∃ wz, wz = (w.alloc o1).alloc o2 := ⟨_, rfl⟩
  obtain ⟨wy, hwy⟩ : ∃ wy, wy = wz.alloc o2 := ⟨_, rfl⟩
  rw [← hwz] at HX HZ HZF HT HB2 S2 hyb
  rw [← hwy] at HT hyb
  have hgz : wz.heap.size ≤ s + 2 := by have := S2.out; omega
  clear hx0 hz0 hzf hT hb3 hb1 hb2 s1 s2
  subst ho1
  subst ho2
  have HSZ := Lib.hid hs
  clear hs
  go_enter Try.func51, Try.ntmps51
  have hB := HT.out.2.2.2.2.2.2.2.2.1
  have hgl := HT.out.2.2.2.2.2.2.2.2.2
  have HC := Lib.hid ((H.out.below (HB2.out.trans (hB.mono HB2.out.size))).more (HB2.out.trans (hB.mono HB2.out.size)).size)
  go_wp2_with fail
  rw [← hwz, ← hwy, ← HSZ.out, show s + 1 + 1 = s + 2 from rfl]
  refine (toIntS_own _ _ _ k.d _ HC.out.1 h0).mono ?_
  rintro e w1 ⟨B0, b0, rfl, ho, hb⟩
  have d0 := (HT.out.1.below hb hgl).1
  have e0 := free_below hb hgl HT.out.2.1 0
  have b := (HX.out.below (hB.trans (hb.mono hB.size)) (by rw [S2.out]; omega)).2.1
  have HT := Lib.hid (Three.put0 hgz HT.out hb ho)
  clear HC hB hgl ho hb
  clear hyb hwy hwz
  have hB := HT.out.2.2.2.2.2.2.2.2.1
  have hgl := HT.out.2.2.2.2.2.2.2.2.2
  have HC := Lib.hid ((H.out.below (HB2.out.trans (hB.mono HB2.out.size))).more (HB2.out.trans (hB.mono HB2.out.size)).size)
  go_wp2_with fail
  refine (toIntS_own _ _ _ k.i _ HC.out.2.1 h1).mono ?_
  rintro e w2 ⟨B1, b1, rfl, ho, hb⟩
  have d1 := (HT.out.1.below hb hgl).2.1
  have e1 := free_below hb hgl HT.out.2.1 1
  have b := (HX.out.below (hB.trans (hb.mono hB.size)) (by rw [S2.out]; omega)).2.2
  have HT := Lib.hid (Three.put1 hgz HT.out hb ho)
  clear HC hB hgl ho hb
  have hB := HT.out.2.2.2.2.2.2.2.2.1
  have hgl := HT.out.2.2.2.2.2.2.2.2.2
  have HC := Lib.hid ((H.out.below (HB2.out.trans (hB.mono HB2.out.size))).more (HB2.out.trans (hB.mono HB2.out.size)).size)
  go_wp2_with fail
  refine (toIntS_own _ _ _ k.r _ HC.out.2.2 h2).mono ?_
  rintro e w3 ⟨B2, b2, rfl, ho, hb⟩
  have d2 := (HT.out.1.below hb hgl).2.2
  have e2 := free_below hb hgl HT.out.2.1 2
  have d0 := (HT.out.1.below hb hgl).1
  have d1 := (HT.out.1.below hb hgl).2.1
  have z := HZ.out.below (hB.trans (hb.mono hB.size)) (by rw [S2.out]; omega)
  have z0 := z.1
  have z1 := z.2.1
  have z2 := z.2.2
  have zf := free_below (hB.trans (hb.mono hB.size)) (by rw [S2.out]; omega) HZF.out
  have f0 := zf 0
  have f1 := zf 1
  have f2 := zf 2
  clear z zf
  have HT := Lib.hid (Three.put2 hgz HT.out hb ho)
  clear HC hB hgl ho hb
  go_wp2
  refine bodyPost_ret (v := .agg #[.slice B0 n0 b0, .slice B1 n1 b1, .slice B2 n2 b2]) ?_ rfl ?_
  · rw [results_cell1 rfl]
    go_simp
  · have hs := HSZ.out
    have ho := Three.out (s := s + 1) (base := w.heap.size) (u0 := .slice B0 n0 b0) (u1 := .slice B1 n1 b1) (u2 := .slice B2 n2 b2) HT.out (by omega) (by omega)
    have hB := HT.out.2.2.2.2.2.2.2.2.1
    have hb := HB2.out.trans (hB.mono HB2.out.size)
    unfold OwnCo
    rw [HL.out.1, HL.out.2.1, HL.out.2.2]
    exact ⟨B0, B1, B2, b0, b1, b2, rfl, ho.1, ho.2.1, ho.2.2.1, ho.2.2.2.1, ho.2.2.2.2.1, ho.2.2.2.2.2, ((hb.setCell (p := ⟨s + 1, 0, none⟩) (by simp only; omega) _).setCell (p := ⟨s + 1, 1, none⟩) (by simp only; omega) _).setCell (p := ⟨s + 1, 2, none⟩) (by simp only; omega) _⟩

end Go.Proofs.Ytlndaflhlkbedaa

/- Contracts (CoSm). -/
namespace Go.Proofs.Ytlndaflhlkbedaa
open Go.RowKit
set_option linter.unusedVariables false

def Co.same (a b : Co) : Bool := decide (a.d = b.d) && decide (a.i = b.i) && decide (a.r = b.r)

end Go.Proofs.Ytlndaflhlkbedaa

/- Contracts (HarB). -/
namespace Go.Proofs.Ytlndaflhlkbedaa
open Go.RowKit
set_option linter.unusedVariables false

/-- three rows of the call's own, apart -/
def OwnC (w : World) (base : Nat) (A0 A1 A2 : Option Addr) (c0 c1 c2 : Nat) (k : Co) : Prop :=
  w.ownsRow base 3 1 (.slice A0 k.d.length c0) k.d.length (ints k.d) ∧ w.ownsRow base 3 1 (.slice A1 k.i.length c1) k.i.length (ints k.i) ∧ w.ownsRow base 3 1 (.slice A2 k.r.length c2) k.r.length (ints k.r) ∧
  Apart (.slice A0 k.d.length c0) (.slice A1 k.i.length c1) ∧ Apart (.slice A0 k.d.length c0) (.slice A2 k.r.length c2) ∧ Apart (.slice A1 k.i.length c1) (.slice A2 k.r.length c2)
theorem OwnC.to_in {w : World} {base : Nat} {A0 A1 A2 : Option Addr} {c0 c1 c2 : Nat} {k : Co} (h : OwnC w base A0 A1 A2 c0 c1 c2 k) : CoIn w w.heap.size A0 A1 A2 k.d.length k.i.length k.r.length k := ⟨IntIn.of_own h.1, IntIn.of_own h.2.1, IntIn.of_own h.2.2.1⟩
theorem OwnC.below {w w' : World} {base : Nat} {A0 A1 A2 : Option Addr} {c0 c1 c2 : Nat} {k : Co} (h : OwnC w base A0 A1 A2 c0 c1 c2 k) (hb : Below w.heap.size w w') : OwnC w' base A0 A1 A2 c0 c1 c2 k :=
  ⟨own_below h.1 hb, own_below h.2.1 hb, own_below h.2.2.1 hb, h.2.2.2⟩
/-- the old blocks but those of three rows stand as they did -/
def Only3 (v0 v1 v2 : Value) (w w' : World) : Prop := ∀ i, i < w.heap.size → v0.ownBlock ≠ some i → v1.ownBlock ≠ some i → v2.ownBlock ≠ some i → w'.heap[i]? = w.heap[i]?
theorem OwnC.lt {w : World} {base : Nat} {A0 A1 A2 : Option Addr} {c0 c1 c2 : Nat} {k : Co} (h : OwnC w base A0 A1 A2 c0 c1 c2 k) {s : Nat} (hs : w.heap.size ≤ s) :
    (Value.slice A0 k.d.length c0).ownBlock ≠ some s ∧ (Value.slice A1 k.i.length c1).ownBlock ≠ some s ∧ (Value.slice A2 k.r.length c2).ownBlock ≠ some s :=
  ⟨fun e => by have := (h.1.lt s e).2; omega, fun e => by have := (h.2.1.lt s e).2; omega, fun e => by have := (h.2.2.1.lt s e).2; omega⟩
theorem Box3.only {w w' : World} {g : Nat} {u0 u1 u2 v0 v1 v2 : Value} (h : Box3 w g v0 v1 v2) (ho : Only3 u0 u1 u2 w w') (hl : g < w.heap.size) (hn : u0.ownBlock ≠ some g ∧ u1.ownBlock ≠ some g ∧ u2.ownBlock ≠ some g) : Box3 w' g v0 v1 v2 := by
  have e := ho g hl hn.1 hn.2.1 hn.2.2
  exact ⟨(World.cell?_of_block (a := ⟨g, 0, none⟩) e).trans h.1, (World.cell?_of_block (a := ⟨g, 1, none⟩) e).trans h.2.1, (World.cell?_of_block (a := ⟨g, 2, none⟩) e).trans h.2.2⟩
def Co.marks (k0 : Int) (k : Co) : Co := ⟨Zs.marks k0 k.d.length, Zs.marks (k0 + k.d.length) k.i.length, Zs.marks (k0 + k.d.length + k.i.length) k.r.length⟩
theorem Co.marks_d (k0 : Int) (k : Co) : (Co.marks k0 k).d.length = k.d.length := Zs.marks_length _ _
theorem Co.marks_i (k0 : Int) (k : Co) : (Co.marks k0 k).i.length = k.i.length := Zs.marks_length _ _
theorem Co.marks_r (k0 : Int) (k : Co) : (Co.marks k0 k).r.length = k.r.length := Zs.marks_length _ _
theorem Box3.grown {w w' : World} {g : Nat} {r : Option Nat} {v0 v1 v2 : Value} (h : Box3 w g v0 v1 v2) (hg : w.grownBy w' r) (hl : g < w.heap.size) (hr : ∀ b, r = some b → b ≠ g) : Box3 w' g v0 v1 v2 := by
  have e := hg.block g hl (fun e => hr g e.symm rfl)
  exact ⟨(World.cell?_of_block (a := ⟨g, 0, none⟩) e).trans h.1, (World.cell?_of_block (a := ⟨g, 1, none⟩) e).trans h.2.1, (World.cell?_of_block (a := ⟨g, 2, none⟩) e).trans h.2.2⟩

end Go.Proofs.Ytlndaflhlkbedaa

/- Contracts (IntE). -/
namespace Go.Proofs.Ytlndaflhlkbedaa
open Go.RowKit
set_option linter.unusedVariables false

set_option maxHeartbeats 800000 in
set_option maxRecDepth 100000 in
theorem eqIntS_any (A A' : Option Addr) (n c n' c' : Nat) (xs ys : List Int) (w : World) (h : IntIn w w.heap.size A n xs) (h' : IntIn w w.heap.size A' n' ys) (hn : n ≤ 1048576) (hn' : n' ≤ 1048576) :
    Calls Try.prog 64 #[.slice A n c, .slice A' n' c'] w fun e w' => e = .returned (.bool (decide (xs = ys))) ∧ Below w.heap.size w w' := by
  have H := Lib.hid h
  have H' := Lib.hid h'
  clear h h'
  have HL := Lib.hid H.out.1
  have HL' := Lib.hid H'.out.1
  by_cases hnn : n = n'
  · go_enter Try.func64, Try.ntmps64
    have Hnn := Lib.hid hnn
    have hne : ((n : Int) != (n' : Int)) = false := by simp [hnn]
    clear hnn
    go_wp2
    go_loopw [5] (fun iv wr => ∃ k : Nat, k ≤ n ∧ iv = .int .i64 k ∧ (∀ j, j < k → Zs.at xs j = Zs.at ys j) ∧ Drawn w wr) (fun i _ => n - (intOf i).toNat)
    case atStart => exact ⟨0, by omega, rfl, fun j hj => absurd hj (by omega), Drawn.refl _⟩
    case round =>
      obtain ⟨k, hk, rfl, hsm, hD⟩ := hrel
      have Hsm := Lib.hid hsm
      clear hsm
      by_cases hlt : k < n
      · obtain ⟨ad, rfl, hb, hl⟩ := (H.out.drawn hD).at_ hlt
        obtain ⟨ad', rfl, hb', hl'⟩ := (H'.out.drawn hD).at_ (k := k) (by rw [← Hnn.out]; exact hlt)
        have hlt' : (k : Int) < (n' : Int) := by rw [← Hnn.out]; omega
        have hk0 : (0 : Int) ≤ (k : Int) := by omega
        by_cases hq1 : Zs.at xs k = Zs.at ys k
        · have Hq := Lib.hid hq1
          have q1 : (Zs.at xs k != Zs.at ys k) = false := by simpa using hq1
          clear hq1
          go_wp2
          go_quiet (fail)
          go_wp2
          go_roundw
          case rel => exact ⟨k + 1, by omega, by go_num, fun j hj => by
            rcases Nat.lt_succ_iff_lt_or_eq.1 hj with h' | rfl
            · exact Hsm.out j h'
            · exact Hq.out, hD.drewN _⟩
          case measure => simp [intOf]; omega
        · have Hq := Lib.hid hq1
          have q1 : (Zs.at xs k != Zs.at ys k) = true := by simpa using hq1
          clear hq1
          go_wp2
          go_quiet (fail)
          go_wp2
          go_ret
          refine ⟨Kit.ret_bool ?_, (hD.drewN _).toBelow⟩
          symm
          rw [decide_eq_false_iff_not]
          rintro rfl
          exact Hq.out rfl
      · obtain rfl : k = n := by omega
        go_wp2
        go_ret
        refine ⟨Kit.ret_bool ?_, hD.toBelow⟩
        symm
        rw [decide_eq_true_eq]
        exact Zs.ext (by rw [HL.out, HL'.out]; exact Hnn.out) (fun j hj => Hsm.out j (by rw [← HL.out]; exact hj))
  · have hne : ((n : Int) != (n' : Int)) = true := by simp; omega
    have Hq := Lib.hid (show decide (xs = ys) = false by
      rw [decide_eq_false_iff_not]; rintro rfl; exact hnn (HL.out.symm.trans HL'.out))
    clear hnn
    go_enter Try.func64, Try.ntmps64
    go_wp2
    go_ret
    exact ⟨Kit.ret_bool Hq.out.symm, Below.refl _ _⟩


end Go.Proofs.Ytlndaflhlkbedaa

/- Contracts (HarQ). -/
namespace Go.Proofs.Ytlndaflhlkbedaa
open Go.RowKit
set_option linter.unusedVariables false

set_option maxHeartbeats 1600000 in
set_option maxRecDepth 100000 in
theorem eqCost_any (A0 A1 A2 : Option Addr) (n0 n1 n2 c0 c1 c2 : Nat) (k : Co) (B0 B1 B2 : Option Addr) (m0 m1 m2 d0 d1 d2 : Nat) (l : Co) (w : World) (h : CoIn w w.heap.size A0 A1 A2 n0 n1 n2 k) (h' : CoIn w w.heap.size B0 B1 B2 m0 m1 m2 l)
    (h0 : n0 ≤ 1048576) (h1 : n1 ≤ 1048576) (h2 : n2 ≤ 1048576) (l0 : m0 ≤ 1048576) (l1 : m1 ≤ 1048576) (l2 : m2 ≤ 1048576) :
    Calls Try.prog 53 #[.agg #[.slice A0 n0 c0, .slice A1 n1 c1, .slice A2 n2 c2], .agg #[.slice B0 m0 d0, .slice B1 m1 d1, .slice B2 m2 d2]] w fun e w' => e = .returned (.bool (Co.same k l)) ∧ Below w.heap.size w w' := by
  have H := Lib.hid h
  have H' := Lib.hid h'
  clear h h'
  obtain ⟨o1, ho1⟩ : ∃ o, o = Obj.cells #[.slice A0 n0 c0, .slice A1 n1 c1, .slice A2 n2 c2] 27 := ⟨_, rfl⟩
  obtain ⟨o2, ho2⟩ : ∃ o, o = Obj.cells #[.slice B0 m0 d0, .slice B1 m1 d1, .slice B2 m2 d2] 27 := ⟨_, rfl⟩
  have hba := (Below.refl w.heap.size w).alloc (Nat.le_refl _) o1
  have HB := Lib.hid (hba.alloc hba.size o2)
  have hlt : w.heap.size < (w.alloc o1).heap.size := by simp
  have GL := Lib.hid (show w.heap.size < ((w.alloc o1).alloc o2).heap.size ∧ w.heap.size + 1 < ((w.alloc o1).alloc o2).heap.size by simp; omega)
  have GA := Lib.hid ((show Box3 (w.alloc o1) w.heap.size (.slice A0 n0 c0) (.slice A1 n1 c1) (.slice A2 n2 c2) by rw [ho1]; exact Box3.made _ _ _ _ _).alloc hlt o2)
  have GB := Lib.hid (show Box3 ((w.alloc o1).alloc o2) (w.alloc o1).heap.size (.slice B0 m0 d0) (.slice B1 m1 d1) (.slice B2 m2 d2) by rw [ho2]; exact Box3.made _ _ _ _ _)
  have hs1 : (w.alloc o1).heap.size = w.heap.size + 1 := by simp
  rw [hs1] at GB
  clear hba hlt hs1
  subst ho1
  subst ho2
  have HA := Lib.hid (H.out.to_below HB.out)
  have HA' := Lib.hid (H'.out.to_below HB.out)
  cases e0 : decide (k.d = l.d) with
  | false =>
    have Hf := Lib.hid (show Co.same k l = false by unfold Co.same; rw [e0]; rfl)
    have E0 := Lib.hid e0
    clear e0
    go_enter Try.func53, Try.ntmps53
    obtain ⟨g0, g1, g2⟩ := GA.out
    obtain ⟨g3, g4, g5⟩ := GB.out
    go_wp2_with fail
    clear g0 g1 g2 g3 g4 g5
    refine (eqIntS_any _ _ _ _ _ _ k.d l.d _ HA.out.1 HA'.out.1 h0 l0).mono ?_
    rintro e w1 ⟨rfl, hd⟩
    have HB := Lib.hid (HB.out.trans (hd.mono HB.out.size))
    have GA := Lib.hid (GA.out.below hd (GL.out.1))
    have GB := Lib.hid (GB.out.below hd (GL.out.2))
    have HA := Lib.hid (HA.out.to_below hd)
    have HA' := Lib.hid (HA'.out.to_below hd)
    have GL := Lib.hid (And.intro (Nat.lt_of_lt_of_le GL.out.1 hd.size) (Nat.lt_of_lt_of_le GL.out.2 hd.size))
    clear hd
    rw [E0.out]
    go_wp2
    go_ret
    exact ⟨Kit.ret_bool Hf.out.symm, HB.out⟩
  | true =>
    cases e1 : decide (k.i = l.i) with
    | false =>
      have Hf := Lib.hid (show Co.same k l = false by unfold Co.same; rw [e0, e1]; rfl)
      have E0 := Lib.hid e0
      have E1 := Lib.hid e1
      clear e0 e1
      go_enter Try.func53, Try.ntmps53
      obtain ⟨g0, g1, g2⟩ := GA.out
      obtain ⟨g3, g4, g5⟩ := GB.out
      go_wp2_with fail
      clear g0 g1 g2 g3 g4 g5
      refine (eqIntS_any _ _ _ _ _ _ k.d l.d _ HA.out.1 HA'.out.1 h0 l0).mono ?_
      rintro e w1 ⟨rfl, hd⟩
      have HB := Lib.hid (HB.out.trans (hd.mono HB.out.size))
      have GA := Lib.hid (GA.out.below hd (GL.out.1))
      have GB := Lib.hid (GB.out.below hd (GL.out.2))
      have HA := Lib.hid (HA.out.to_below hd)
      have HA' := Lib.hid (HA'.out.to_below hd)
      have GL := Lib.hid (And.intro (Nat.lt_of_lt_of_le GL.out.1 hd.size) (Nat.lt_of_lt_of_le GL.out.2 hd.size))
      clear hd
      rw [E0.out]
      obtain ⟨g0, g1, g2⟩ := GA.out
      obtain ⟨g3, g4, g5⟩ := GB.out
      go_wp2_with fail
      clear g0 g1 g2 g3 g4 g5
      refine (eqIntS_any _ _ _ _ _ _ k.i l.i _ HA.out.2.1 HA'.out.2.1 h1 l1).mono ?_
      rintro e w2 ⟨rfl, hd⟩
      have HB := Lib.hid (HB.out.trans (hd.mono HB.out.size))
      have GA := Lib.hid (GA.out.below hd (GL.out.1))
      have GB := Lib.hid (GB.out.below hd (GL.out.2))
      have HA := Lib.hid (HA.out.to_below hd)
      have HA' := Lib.hid (HA'.out.to_below hd)
      have GL := Lib.hid (And.intro (Nat.lt_of_lt_of_le GL.out.1 hd.size) (Nat.lt_of_lt_of_le GL.out.2 hd.size))
      clear hd
      rw [E1.out]
      go_wp2
      go_ret
      exact ⟨Kit.ret_bool Hf.out.symm, HB.out⟩
    | true =>
      cases e2 : decide (k.r = l.r) with
      | false =>
        have Hf := Lib.hid (show Co.same k l = false by unfold Co.same; rw [e0, e1, e2]; rfl)
        have E0 := Lib.hid e0
        have E1 := Lib.hid e1
        have E2 := Lib.hid e2
        clear e0 e1 e2
        go_enter Try.func53, Try.ntmps53
        obtain ⟨g0, g1, g2⟩ := GA.out
        obtain ⟨g3, g4, g5⟩ := GB.out
        go_wp2_with fail
        clear g0 g1 g2 g3 g4 g5
        refine (eqIntS_any _ _ _ _ _ _ k.d l.d _ HA.out.1 HA'.out.1 h0 l0).mono ?_
        rintro e w1 ⟨rfl, hd⟩
        have HB := Lib.hid (HB.out.trans (hd.mono HB.out.size))
        have GA := Lib.hid (GA.out.below hd (GL.out.1))
        have GB := Lib.hid (GB.out.below hd (GL.out.2))
        have HA := Lib.hid (HA.out.to_below hd)
        have HA' := Lib.hid (HA'.out.to_below hd)
        have GL := Lib.hid (And.intro (Nat.lt_of_lt_of_le GL.out.1 hd.size) (Nat.lt_of_lt_of_le GL.out.2 hd.size))
        clear hd
        rw [E0.out]
        obtain ⟨g0, g1, g2⟩ := GA.out
        obtain ⟨g3, g4, g5⟩ := GB.out
        go_wp2_with fail
        clear g0 g1 g2 g3 g4 g5
        refine (eqIntS_any _ _ _ _ _ _ k.i l.i _ HA.out.2.1 HA'.out.2.1 h1 l1).mono ?_
        rintro e w2 ⟨rfl, hd⟩
        have HB := Lib.hid (HB.out.trans (hd.mono HB.out.size))
        have GA := Lib.hid (GA.out.below hd (GL.out.1))
        have GB := Lib.hid (GB.out.below hd (GL.out.2))
        have HA := Lib.hid (HA.out.to_below hd)
        have HA' := Lib.hid (HA'.out.to_below hd)
        have GL := Lib.hid (And.intro (Nat.lt_of_lt_of_le GL.out.1 hd.size) (Nat.lt_of_lt_of_le GL.out.2 hd.size))
        clear hd
        rw [E1.out]
        obtain ⟨g0, g1, g2⟩ := GA.out
        obtain ⟨g3, g4, g5⟩ := GB.out
        go_wp2_with fail
        clear g0 g1 g2 g3 g4 g5
        refine (eqIntS_any _ _ _ _ _ _ k.r l.r _ HA.out.2.2 HA'.out.2.2 h2 l2).mono ?_
        rintro e w3 ⟨rfl, hd⟩
        have HB := Lib.hid (HB.out.trans (hd.mono HB.out.size))
        have GA := Lib.hid (GA.out.below hd (GL.out.1))
        have GB := Lib.hid (GB.out.below hd (GL.out.2))
        have HA := Lib.hid (HA.out.to_below hd)
        have HA' := Lib.hid (HA'.out.to_below hd)
        have GL := Lib.hid (And.intro (Nat.lt_of_lt_of_le GL.out.1 hd.size) (Nat.lt_of_lt_of_le GL.out.2 hd.size))
        clear hd
        rw [E2.out]
        go_wp2
        go_ret
        exact ⟨Kit.ret_bool Hf.out.symm, HB.out⟩
      | true =>
        have Hf := Lib.hid (show Co.same k l = true by unfold Co.same; rw [e0, e1, e2]; rfl)
        have E0 := Lib.hid e0
        have E1 := Lib.hid e1
        have E2 := Lib.hid e2
        clear e0 e1 e2
        go_enter Try.func53, Try.ntmps53
        obtain ⟨g0, g1, g2⟩ := GA.out
        obtain ⟨g3, g4, g5⟩ := GB.out
        go_wp2_with fail
        clear g0 g1 g2 g3 g4 g5
        refine (eqIntS_any _ _ _ _ _ _ k.d l.d _ HA.out.1 HA'.out.1 h0 l0).mono ?_
        rintro e w1 ⟨rfl, hd⟩
        have HB := Lib.hid (HB.out.trans (hd.mono HB.out.size))
        have GA := Lib.hid (GA.out.below hd (GL.out.1))
        have GB := Lib.hid (GB.out.below hd (GL.out.2))
        have HA := Lib.hid (HA.out.to_below hd)
        have HA' := Lib.hid (HA'.out.to_below hd)
        have GL := Lib.hid (And.intro (Nat.lt_of_lt_of_le GL.out.1 hd.size) (Nat.lt_of_lt_of_le GL.out.2 hd.size))
        clear hd
        rw [E0.out]
        obtain ⟨g0, g1, g2⟩ := GA.out
        obtain ⟨g3, g4, g5⟩ := GB.out
        go_wp2_with fail
        clear g0 g1 g2 g3 g4 g5
        refine (eqIntS_any _ _ _ _ _ _ k.i l.i _ HA.out.2.1 HA'.out.2.1 h1 l1).mono ?_
        rintro e w2 ⟨rfl, hd⟩
        have HB := Lib.hid (HB.out.trans (hd.mono HB.out.size))
        have GA := Lib.hid (GA.out.below hd (GL.out.1))
        have GB := Lib.hid (GB.out.below hd (GL.out.2))
        have HA := Lib.hid (HA.out.to_below hd)
        have HA' := Lib.hid (HA'.out.to_below hd)
        have GL := Lib.hid (And.intro (Nat.lt_of_lt_of_le GL.out.1 hd.size) (Nat.lt_of_lt_of_le GL.out.2 hd.size))
        clear hd
        rw [E1.out]
        obtain ⟨g0, g1, g2⟩ := GA.out
        obtain ⟨g3, g4, g5⟩ := GB.out
        go_wp2_with fail
        clear g0 g1 g2 g3 g4 g5
        refine (eqIntS_any _ _ _ _ _ _ k.r l.r _ HA.out.2.2 HA'.out.2.2 h2 l2).mono ?_
        rintro e w3 ⟨rfl, hd⟩
        have HB := Lib.hid (HB.out.trans (hd.mono HB.out.size))
        have GA := Lib.hid (GA.out.below hd (GL.out.1))
        have GB := Lib.hid (GB.out.below hd (GL.out.2))
        have HA := Lib.hid (HA.out.to_below hd)
        have HA' := Lib.hid (HA'.out.to_below hd)
        have GL := Lib.hid (And.intro (Nat.lt_of_lt_of_le GL.out.1 hd.size) (Nat.lt_of_lt_of_le GL.out.2 hd.size))
        clear hd
        rw [E2.out]
        go_wp2
        go_ret
        exact ⟨Kit.ret_bool Hf.out.symm, HB.out⟩

end Go.Proofs.Ytlndaflhlkbedaa

/- Contracts (CoX). -/
namespace Go.Proofs.Ytlndaflhlkbedaa
open Go.RowKit
set_option linter.unusedVariables false

/-- two variables of three cells each stand as they did; the world has only grown -/
def SixG (w0 : World) (s t : Nat) (wq : World) : Prop := Below w0.heap.size w0 wq ∧ s < w0.heap.size ∧ t < w0.heap.size
theorem six_keep {w0 wx wq : World} {s t : Nat} {a0 a1 a2 b0 b1 b2 : Option Value} (hS : wx.cell? ⟨s, 0, none⟩ = a0 ∧ wx.cell? ⟨s, 1, none⟩ = a1 ∧ wx.cell? ⟨s, 2, none⟩ = a2 ∧ wx.cell? ⟨t, 0, none⟩ = b0 ∧ wx.cell? ⟨t, 1, none⟩ = b1 ∧ wx.cell? ⟨t, 2, none⟩ = b2 ∧ SixG w0 s t wx)
    (hb : Below wx.heap.size wx wq) : wq.cell? ⟨s, 0, none⟩ = a0 ∧ wq.cell? ⟨s, 1, none⟩ = a1 ∧ wq.cell? ⟨s, 2, none⟩ = a2 ∧ wq.cell? ⟨t, 0, none⟩ = b0 ∧ wq.cell? ⟨t, 1, none⟩ = b1 ∧ wq.cell? ⟨t, 2, none⟩ = b2 ∧ SixG w0 s t wq := by
  obtain ⟨h0, h1, h2, k0, k1, k2, hB, hs, ht⟩ := hS
  have hz := hB.size
  have c (u o : Nat) (hu : u < w0.heap.size) : wq.cell? ⟨u, o, none⟩ = wx.cell? ⟨u, o, none⟩ := hb.cell (p := ⟨u, o, none⟩) (by simp only; omega)
  exact ⟨by rw [c s 0 hs, h0], by rw [c s 1 hs, h1], by rw [c s 2 hs, h2], by rw [c t 0 ht, k0], by rw [c t 1 ht, k1], by rw [c t 2 ht, k2], hB.trans (hb.mono hz), hs, ht⟩
theorem six_below {w0 wx : World} {s t : Nat} {a0 a1 a2 b0 b1 b2 : Option Value} (hS : wx.cell? ⟨s, 0, none⟩ = a0 ∧ wx.cell? ⟨s, 1, none⟩ = a1 ∧ wx.cell? ⟨s, 2, none⟩ = a2 ∧ wx.cell? ⟨t, 0, none⟩ = b0 ∧ wx.cell? ⟨t, 1, none⟩ = b1 ∧ wx.cell? ⟨t, 2, none⟩ = b2 ∧ SixG w0 s t wx) : Below w0.heap.size w0 wx := hS.2.2.2.2.2.2.1
theorem Co.same_self (k : Co) : Co.same k k = true := by simp [Co.same]

end Go.Proofs.Ytlndaflhlkbedaa
