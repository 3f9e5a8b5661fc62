/- Texts of one claim laid into one file, in build order: NewT, TrG. -/
import Derived.Test.YtgkkeejhfofcaaaHd15
import Derived.Test.YtgkkeejhfofcaaaHd20
import Derived.Test.YtgkkeejhfofcaaaHd31
import Derived.Test.YtgkkeejhfofcaaaHd6
import Derived.Maps.AppendAt
import Derived.Maps.Own
/- Contracts (NewT). -/
namespace Go.Proofs.Ytgkkeejhfofcaaa
open Go.RowKit
set_option linter.unusedVariables false

theorem SD.made {B : Nat} {xs ys : Tr} {k : Co} {w : World} {ga0 ga1 ga2 gb0 gb1 gb2 ca0 ca1 ca2 cb0 cb1 cb2 c0 c1 c2 : Nat} {k0 k1 k2 : Addr} (hx : Tr.ok xs = true) (hy : Tr.ok ys = true)
    (a0 : w.ownsRow B 3 1 (.slice (some ⟨ga0, 0, none⟩) xs.length ca0) xs.length (ints (Tr.lab xs))) (a1 : w.ownsRow B 3 1 (.slice (some ⟨ga1, 0, none⟩) xs.length ca1) xs.length (ints (Zs.up (Tr.lfs xs))))
    (b0 : w.ownsRow B 3 1 (.slice (some ⟨gb0, 0, none⟩) ys.length cb0) ys.length (ints (Tr.lab ys))) (b1 : w.ownsRow B 3 1 (.slice (some ⟨gb1, 0, none⟩) ys.length cb1) ys.length (ints (Zs.up (Tr.lfs ys))))
    (hk : CoIn w B (some k0) (some k1) (some k2) 6 6 36 k) (gm : Nat) (e : TypeId) :
    SD w.heap.size ⟨ga0, 0, none⟩ ⟨ga1, 0, none⟩ ⟨gb0, 0, none⟩ ⟨gb1, 0, none⟩ k0 k1 k2 ca0 ca1 cb0 cb1 c0 c1 c2 xs ys k (w.alloc (.cells #[.slice (some ⟨ga0, 0, none⟩) xs.length ca0, .slice (some ⟨ga1, 0, none⟩) xs.length ca1, .slice (some ⟨ga2, 0, none⟩) (Tr.krs xs).length ca2, .slice (some ⟨gb0, 0, none⟩) ys.length cb0, .slice (some ⟨gb1, 0, none⟩) ys.length cb1, .slice (some ⟨gb2, 0, none⟩) (Tr.krs ys).length cb2, .slice (some k0) 6 c0, .slice (some k1) 6 c1, .slice (some k2) 36 c2, .map (some gm)] e)) := by
  have old : ∀ {p : Addr} {v : Value}, w.cell? p = some v → (w.alloc (.cells #[.slice (some ⟨ga0, 0, none⟩) xs.length ca0, .slice (some ⟨ga1, 0, none⟩) xs.length ca1, .slice (some ⟨ga2, 0, none⟩) (Tr.krs xs).length ca2, .slice (some ⟨gb0, 0, none⟩) ys.length cb0, .slice (some ⟨gb1, 0, none⟩) ys.length cb1, .slice (some ⟨gb2, 0, none⟩) (Tr.krs ys).length cb2, .slice (some k0) 6 c0, .slice (some k1) 6 c1, .slice (some k2) 36 c2, .map (some gm)] e)).cell? p = some v := fun hc => by rw [World.cell?_alloc_lt w _ _ (World.block_lt_of_cell? w _ hc)]; exact hc
  have ln : ∀ {n c gg : Nat} {zs : List Int}, w.ownsRow B 3 1 (.slice (some ⟨gg, 0, none⟩) n c) n (ints zs) → zs.length = n := fun h => by have := h.1; rw [ints_length] at this; omega
  have z0 : ∀ (gg x : Nat), (⟨gg, 0, none⟩ : Addr).add x = ⟨gg, x, none⟩ := fun gg x => by simp [Addr.add]; omega
  exact ⟨cell_made _ _ _ 0 _ rfl, cell_made _ _ _ 1 _ rfl, cell_made _ _ _ 3 _ rfl, cell_made _ _ _ 4 _ rfl, cell_made _ _ _ 6 _ rfl, cell_made _ _ _ 7 _ rfl, cell_made _ _ _ 8 _ rfl,
    fun x hl => old (by rw [z0]; exact own_int a0 (by rw [ln a0]; exact hl)), fun x hl => old (by rw [z0, ← Tr.la_up hx hl]; exact own_int a1 (by rw [ln a1]; exact hl)),
    fun x hl => old (by rw [z0]; exact own_int b0 (by rw [ln b0]; exact hl)), fun x hl => old (by rw [z0, ← Tr.la_up hy hl]; exact own_int b1 (by rw [ln b1]; exact hl)),
    fun u hu => old (hk.1.here hu), fun u hu => old (hk.2.1.here hu), fun u hu => old (hk.2.2.here hu)⟩
set_option maxHeartbeats 800000 in
set_option maxRecDepth 100000 in
theorem newTable_no (A A' : Option Addr) (n n' c c' : Nat) (xs ys : Tr) (K0 K1 K2 : Option Addr) (n0 n1 n2 c0 c1 c2 : Nat) (k : Co) (w : World) (ha : NdIn w w.heap.size A n xs) (hb : NdIn w w.heap.size A' n' ys) (hk : CoIn w w.heap.size K0 K1 K2 n0 n1 n2 k) (hn : n ≤ 1048576) (hn' : n' ≤ 1048576) (h0 : n0 ≤ 1048576) (h1 : n1 ≤ 1048576) (h2 : n2 ≤ 1048576) (hc : n ≤ c) (hc' : n' ≤ c') (hno : DOk xs ys k = false) :
    Calls Try.prog 68 #[.slice A n c, .slice A' n' c', .agg #[.slice K0 n0 c0, .slice K1 n1 c1, .slice K2 n2 c2]] w fun e w' => e = .returned (.pointer none) ∧ Below w.heap.size w w' := by
  obtain ⟨wc, hwc⟩ : ∃ wc, wc = w.alloc (.cells #[.slice K0 n0 c0, .slice K1 n1 c1, .slice K2 n2 c2] 31) := ⟨_, rfl⟩
  have hbc : Below w.heap.size w wc := by rw [hwc]; exact (Below.refl _ _).alloc (Nat.le_refl _) _
  have HQ := Lib.hid (show Box3 wc w.heap.size (.slice K0 n0 c0) (.slice K1 n1 c1) (.slice K2 n2 c2) by rw [hwc]; exact Box3.made _ _ _ _ _)
  have HWC := Lib.hid hwc
  have HA := Lib.hid (ha.to_below hbc)
  have HB := Lib.hid (hb.to_below hbc)
  have HK := Lib.hid (hk.to_below hbc)
  have HBC := Lib.hid hbc
  have HN := Lib.hid hno
  clear ha hb hk hwc hbc hno
  go_enter Try.func68, Try.ntmps68
  go_wp2_with fail
  rw [← HWC.out]
  refine (sidesOf_no _ _ _ _ _ _ xs ys _ _ _ _ _ _ _ _ _ k _ HA.out HB.out HK.out hn hn' h0 h1 h2 hc hc' HN.out).mono ?_
  rintro e w1 ⟨rfl, b1⟩
  have HS := Lib.hid (HBC.out.trans (b1.mono HBC.out.size))
  clear b1
  go_wp2
  go_ret
  exact ⟨rfl, HS.out.alloc HS.out.size _⟩
set_option maxHeartbeats 800000 in
set_option maxRecDepth 100000 in
theorem newTable_yes (A A' : Option Addr) (n n' c c' : Nat) (xs ys : Tr) (K0 K1 K2 : Option Addr) (n0 n1 n2 c0 c1 c2 : Nat) (k : Co) (w : World) (ha : NdIn w w.heap.size A n xs) (hb : NdIn w w.heap.size A' n' ys) (hk : CoIn w w.heap.size K0 K1 K2 n0 n1 n2 k) (hc : n ≤ c) (hc' : n' ≤ c') (hx : Tr.ok xs = true) (hy : Tr.ok ys = true) (ho : Co.ok k = true) :
    Calls Try.prog 68 #[.slice A n c, .slice A' n' c', .agg #[.slice K0 n0 c0, .slice K1 n1 c1, .slice K2 n2 c2]] w fun e w' => ∃ D : D10, e = .returned (.pointer (some ⟨D.g, 0, none⟩)) ∧ PT D xs ys k w' ∧ Below w.heap.size w w' ∧ w.heap.size ≤ D.gm ∧ w.heap.size ≤ D.g := by
  have hln := ha.1
  have hln' := hb.1
  have hkl := hk.len
  have l1 := (Zs.fit_iff.1 (Co.fit3 ho).1).1
  have l2 := (Zs.fit_iff.1 (Co.fit3 ho).2.1).1
  have l3 := (Zs.fit_iff.1 (Co.fit3 ho).2.2).1
  obtain rfl : n0 = 6 := by omega
  obtain rfl : n1 = 6 := by omega
  obtain rfl : n2 = 36 := by omega
  obtain ⟨k0, rfl, hk0⟩ := hk.1.2.1 (by omega)
  obtain ⟨k1, rfl, hk1⟩ := hk.2.1.2.1 (by omega)
  obtain ⟨k2, rfl, hk2⟩ := hk.2.2.2.1 (by omega)
  obtain ⟨x1, x24⟩ := Tr.len24 hx
  obtain ⟨y1, y24⟩ := Tr.len24 hy
  subst hln
  subst hln'
  obtain ⟨wc, hwc⟩ : ∃ wc, wc = w.alloc (.cells #[.slice (some k0) 6 c0, .slice (some k1) 6 c1, .slice (some k2) 36 c2] 31) := ⟨_, rfl⟩
  have hbc : Below w.heap.size w wc := by rw [hwc]; exact (Below.refl _ _).alloc (Nat.le_refl _) _
  have HQ := Lib.hid (show Box3 wc w.heap.size (.slice (some k0) 6 c0) (.slice (some k1) 6 c1) (.slice (some k2) 36 c2) by rw [hwc]; exact Box3.made _ _ _ _ _)
  have HWC := Lib.hid hwc
  have HA := Lib.hid (ha.to_below hbc)
  have HB := Lib.hid (hb.to_below hbc)
  have HK := Lib.hid (hk.to_below hbc)
  have HBC := Lib.hid hbc
  have HX := Lib.hid hx
  have HY := Lib.hid hy
  have HO := Lib.hid ho
  have hmm := @run_makeMap Try.prog
  clear ha hb hk hkl l1 l2 l3 hx hy ho hwc hbc
  go_enter Try.func68, Try.ntmps68
  go_wp2_with fail
  rw [← HWC.out]
  refine (sidesOf_yes _ _ _ _ _ _ xs ys _ _ _ _ _ _ _ _ _ k _ HA.out HB.out HK.out hc hc' HX.out HY.out HO.out).mono ?_
  rintro e w1 ⟨ga0, ga1, ga2, gb0, gb1, gb2, ca0, ca1, ca2, cb0, cb1, cb2, rfl, ra0, ra1, ra2, rb0, rb1, rb2, b1⟩
  have HS := Lib.hid (HBC.out.trans (b1.mono HBC.out.size))
  have BC := Lib.hid b1
  have ROWS := Lib.hid (And.intro ra0 (And.intro ra1 (And.intro rb0 rb1)))
  clear b1 ra0 ra1 ra2 rb0 rb1 rb2
  obtain ⟨w2, hw2⟩ : ∃ w2, w2 = w1.alloc (.cells #[.slice (some ⟨ga0, 0, none⟩) xs.length ca0, .slice (some ⟨ga1, 0, none⟩) xs.length ca1, .slice (some ⟨ga2, 0, none⟩) (Tr.krs xs).length ca2, .slice (some ⟨gb0, 0, none⟩) ys.length cb0, .slice (some ⟨gb1, 0, none⟩) ys.length cb1, .slice (some ⟨gb2, 0, none⟩) (Tr.krs ys).length cb2, .slice (some k0) 6 c0, .slice (some k1) 6 c1, .slice (some k2) 36 c2] 89) := ⟨_, rfl⟩
  have HW2 := Lib.hid hw2
  have B2 := Lib.hid (show Below w1.heap.size w1 w2 by rw [hw2]; exact (Below.refl _ _).alloc (Nat.le_refl _) _)
  have CC := Lib.hid (show ∀ o (_ : o < 9) v, #[.slice (some ⟨ga0, 0, none⟩) xs.length ca0, .slice (some ⟨ga1, 0, none⟩) xs.length ca1, .slice (some ⟨ga2, 0, none⟩) (Tr.krs xs).length ca2, .slice (some ⟨gb0, 0, none⟩) ys.length cb0, .slice (some ⟨gb1, 0, none⟩) ys.length cb1, .slice (some ⟨gb2, 0, none⟩) (Tr.krs ys).length cb2, .slice (some k0) 6 c0, .slice (some k1) 6 c1, .slice (some k2) 36 c2][o]? = some v → w2.cell? ⟨w1.heap.size, o, none⟩ = some v by intro o _ v hv; rw [hw2]; exact cell_made _ _ _ _ _ hv)
  have HS2 := Lib.hid (HS.out.trans (B2.out.mono HS.out.size))
  clear hw2
  have s0 := CC.out 0 (by omega) _ rfl
  have s1 := CC.out 1 (by omega) _ rfl
  have s2 := CC.out 2 (by omega) _ rfl
  have s3 := CC.out 3 (by omega) _ rfl
  have s4 := CC.out 4 (by omega) _ rfl
  have s5 := CC.out 5 (by omega) _ rfl
  have s6 := CC.out 6 (by omega) _ rfl
  have s7 := CC.out 7 (by omega) _ rfl
  have s8 := CC.out 8 (by omega) _ rfl
  go_wp2_with fail
  rw [← HW2.out]
  go_wp2_with fail
  clear s0 s1 s2 s3 s4 s5 s6 s7 s8
  obtain ⟨w3, hw3⟩ : ∃ w3, w3 = w2.alloc (.map #[] 0) := ⟨_, rfl⟩
  have M3 := Lib.hid (show Memo xs ys k w2.heap.size w3 by rw [hw3]; exact Memo.made w2)
  have B3 := Lib.hid (show Below w2.heap.size w2 w3 by rw [hw3]; exact (Below.refl _ _).alloc (Nat.le_refl _) _)
  have Z3 := Lib.hid (show w3.heap.size = w2.heap.size + 1 by rw [hw3]; simp)
  have hB13 : Below w1.heap.size w1 w3 := B2.out.trans (B3.out.mono B2.out.size)
  have hB33 : ∀ o, Below w3.heap.size w3 (w3.alloc o) := fun o => (Below.refl _ _).alloc (Nat.le_refl _) o
  obtain ⟨ra0, ra1, rb0, rb1⟩ := ROWS.out
  have hSD := SD.made (B := wc.heap.size) (ga2 := ga2) (gb2 := gb2) (ca2 := ca2) (cb2 := cb2) (c0 := c0) (c1 := c1) (c2 := c2) HX.out HY.out (own_below ra0 hB13) (own_below ra1 hB13) (own_below rb0 hB13) (own_below rb1 hB13) (HK.out.below (BC.out.trans (hB13.mono BC.out.size))) w2.heap.size 158
  have hPT : PT ⟨w3.heap.size, w2.heap.size, ⟨ga0, 0, none⟩, ⟨ga1, 0, none⟩, ⟨gb0, 0, none⟩, ⟨gb1, 0, none⟩, k0, k1, k2, ca0, ca1, cb0, cb1, c0, c1, c2⟩ xs ys k (w3.alloc (.cells #[.slice (some ⟨ga0, 0, none⟩) xs.length ca0, .slice (some ⟨ga1, 0, none⟩) xs.length ca1, .slice (some ⟨ga2, 0, none⟩) (Tr.krs xs).length ca2, .slice (some ⟨gb0, 0, none⟩) ys.length cb0, .slice (some ⟨gb1, 0, none⟩) ys.length cb1, .slice (some ⟨gb2, 0, none⟩) (Tr.krs ys).length cb2, .slice (some k0) 6 c0, .slice (some k1) 6 c1, .slice (some k2) 36 c2, .map (some w2.heap.size)] 158)) :=
    ⟨hSD, cell_made _ _ _ 9 _ rfl, M3.out.below (hB33 _)⟩
  have HP := Lib.hid hPT
  have HZ := Lib.hid (HS2.out.trans ((B3.out.mono HS2.out.size).trans ((hB33 (.cells #[.slice (some ⟨ga0, 0, none⟩) xs.length ca0, .slice (some ⟨ga1, 0, none⟩) xs.length ca1, .slice (some ⟨ga2, 0, none⟩) (Tr.krs xs).length ca2, .slice (some ⟨gb0, 0, none⟩) ys.length cb0, .slice (some ⟨gb1, 0, none⟩) ys.length cb1, .slice (some ⟨gb2, 0, none⟩) (Tr.krs ys).length cb2, .slice (some k0) 6 c0, .slice (some k1) 6 c1, .slice (some k2) 36 c2, .map (some w2.heap.size)] 158)).mono (Nat.le_trans HS2.out.size B3.out.size))))
  have HS3 := Lib.hid (Nat.le_trans HS2.out.size B3.out.size)
  have e2 : w2.heap.size = w1.heap.size + 1 := by rw [HW2.out]; simp

  clear hSD hPT hB13 hB33 ra0 ra1 rb0 rb1
  go_ret
  rw [← hw3, ← e2]
  refine ⟨⟨w3.heap.size, w2.heap.size, ⟨ga0, 0, none⟩, ⟨ga1, 0, none⟩, ⟨gb0, 0, none⟩, ⟨gb1, 0, none⟩, k0, k1, k2, ca0, ca1, cb0, cb1, c0, c1, c2⟩, ?_, ?_, ?_, HS2.out.size, HS3.out⟩
  · rw [Z3.out]; rfl
  · exact HP.out
  · exact HZ.out

end Go.Proofs.Ytgkkeejhfofcaaa

/- Contracts (TrG). -/
namespace Go.Proofs.Ytgkkeejhfofcaaa
open Go.RowKit
set_option linter.unusedVariables false

theorem hp_cell {w : World} {b o : Nat} {cur : Array Value} {t : TypeId} {v : Value} (h : w.heap[b]? = some (.cells cur t)) (hv : cur[o]? = some v) : w.cell? ⟨b, o, none⟩ = some v := by simp [World.cell?, h, hv]
theorem hp_frozen {w : World} {b o : Nat} {cur : Array Value} {t : TypeId} (h : w.heap[b]? = some (.cells cur t)) : w.frozen? ⟨b, o, none⟩ = false := by simp [World.frozen?, h]
theorem hp_lt {w : World} {b : Nat} {o : Obj} (h : w.heap[b]? = some o) : b < w.heap.size := (Array.getElem?_eq_some_iff.1 h).1
/-- blocks of other things than pairs and the tracer stand -/
structure Stay (w w' : World) : Prop where
  size : w.heap.size ≤ w'.heap.size
  blk : ∀ (b : Nat) (cur : Array Value) (t : TypeId), w.heap[b]? = some (.cells cur t) → t ≠ 124 → t ≠ 102 → w'.heap[b]? = some (.cells cur t)
theorem Stay.refl (w : World) : Stay w w := ⟨Nat.le_refl _, fun _ _ _ h _ _ => h⟩
theorem Stay.trans {a b c : World} (h : Stay a b) (h' : Stay b c) : Stay a c := ⟨Nat.le_trans h.size h'.size, fun x cur t hx h1 h2 => h'.blk x cur t (h.blk x cur t hx h1 h2) h1 h2⟩
theorem Stay.below {w w' : World} (h : Below w.heap.size w w') : Stay w w' := ⟨h.size, fun b cur t hb _ _ => (h.block b (hp_lt hb)).trans hb⟩
theorem Stay.grown {w w' : World} {row : Option Nat} (hg : w.grownBy w' row) (hr : ∀ g, row = some g → ∀ cur t, w.heap[g]? = some (.cells cur t) → t = 124 ∨ t = 102) : Stay w w' :=
  ⟨hg.size, fun b cur t hb h1 h2 => (hg.block b (hp_lt hb) (fun e => by rcases hr b e.symm cur t hb with h | h; exact h1 h; exact h2 h)).trans hb⟩
/-- four ints in a block of their own -/
def Rb (w : World) (b i j p q : Nat) : Prop := w.heap[b]? = some (.cells #[.int .i64 (i : Int), .int .i64 (j : Int), .int .i64 (p : Int), .int .i64 (q : Int)] 105)
theorem Rb.stay {w w' : World} {b i j p q : Nat} (h : Rb w b i j p q) (hs : Stay w w') : Rb w' b i j p q := hs.blk _ _ _ h (by decide) (by decide)
theorem Rb.cells {w : World} {b i j p q : Nat} (h : Rb w b i j p q) : w.cell? ⟨b, 0, none⟩ = some (.int .i64 (i : Int)) ∧ w.cell? ⟨b, 1, none⟩ = some (.int .i64 (j : Int)) ∧ w.cell? ⟨b, 2, none⟩ = some (.int .i64 (p : Int)) ∧ w.cell? ⟨b, 3, none⟩ = some (.int .i64 (q : Int)) := ⟨hp_cell h rfl, hp_cell h rfl, hp_cell h rfl, hp_cell h rfl⟩
theorem Rb.froz {w : World} {b i j p q : Nat} (h : Rb w b i j p q) : w.frozen? ⟨b, 0, none⟩ = false ∧ w.frozen? ⟨b, 1, none⟩ = false ∧ w.frozen? ⟨b, 2, none⟩ = false ∧ w.frozen? ⟨b, 3, none⟩ = false := ⟨hp_frozen h, hp_frozen h, hp_frozen h, hp_frozen h⟩
theorem Rb.drawn {w w' : World} {b i j p q : Nat} (h : Rb w b i j p q) (hd : Drawn w w') : Rb w' b i j p q := h.stay (Stay.below hd.toBelow)
theorem Rb.made (w : World) (i j p q : Nat) : Rb (w.alloc (.cells #[.int .i64 (i : Int), .int .i64 (j : Int), .int .i64 (p : Int), .int .i64 (q : Int)] 105)) w.heap.size i j p q := (MapKept.heap_alloc w _).1
/-- four ints stored over four -/
theorem Rb.set {w : World} {b i j p q : Nat} (h : Rb w b i j p q) (i' j' p' q' : Nat) : Rb ((((w.setCell ⟨b, 0, none⟩ (.int .i64 (i' : Int))).setCell ⟨b, 1, none⟩ (.int .i64 (j' : Int))).setCell ⟨b, 2, none⟩ (.int .i64 (p' : Int))).setCell ⟨b, 3, none⟩ (.int .i64 (q' : Int))) b i' j' p' q' :=
  heap_setCell_same _ _ 3 _ _ _ (heap_setCell_same _ _ 2 _ _ _ (heap_setCell_same _ _ 1 _ _ _ (heap_setCell_same _ _ 0 _ _ _ h)))
theorem grown_set (w : World) (a : Addr) (u : Value) : w.grownBy (w.setCell a u) (some a.block) := ⟨rfl, rfl, rfl, by simp, fun k _ hk => heap_setCell_other w a k u (fun e => hk (by rw [e]))⟩
theorem grown_set4 (w : World) (b : Nat) (u0 u1 u2 u3 : Value) : w.grownBy ((((w.setCell ⟨b, 0, none⟩ u0).setCell ⟨b, 1, none⟩ u1).setCell ⟨b, 2, none⟩ u2).setCell ⟨b, 3, none⟩ u3) (some b) :=
  (((grown_set w ⟨b, 0, none⟩ u0).trans (grown_set _ ⟨b, 1, none⟩ u1)).trans (grown_set _ ⟨b, 2, none⟩ u2)).trans (grown_set _ ⟨b, 3, none⟩ u3)
theorem Memo.at_heap {xs ys : Tr} {k : Co} {b : Nat} {w w' : World} (h : Memo xs ys k b w) (e : w'.heap[b]? = w.heap[b]?) : Memo xs ys k b w' := by
  obtain ⟨es, clock, h1, h2⟩ := h
  exact ⟨es, clock, e.trans h1, h2⟩
theorem Memo.no_cells {xs ys : Tr} {k : Co} {b : Nat} {w : World} (h : Memo xs ys k b w) {cur : Array Value} {t : TypeId} (e : w.heap[b]? = some (.cells cur t)) : False := by
  obtain ⟨es, clock, h1, h2⟩ := h
  rw [h1] at e
  cases e
/-- the tracer: made in wB, the pairs L so far -/
structure TG (D : D10) (oa ob : Addr) (ca cb : Nat) (wB : World) (xs ys : Tr) (k : Co) (L : Tr) (w : World) : Prop where
  hp : PT D xs ys k wB
  ra : ∀ u, u < xs.length → wB.cell? (oa.add u) = some (.int .i64 (Tr.nd xs u : Int))
  rb : ∀ u, u < ys.length → wB.cell? (ob.add u) = some (.int .i64 (Tr.nd ys u : Int))
  hg : wB.grownBy w (some D.gm)
  hm : Memo xs ys k D.gm w
  ht : ∃ pv, w.heap[wB.heap.size]? = some (.cells #[.pointer (some ⟨D.g, 0, none⟩), .slice (some oa) xs.length ca, .slice (some ob) ys.length cb, pv] 102) ∧ w.ownsRow (wB.heap.size + 1) 124 2 pv L.length (Tr.cells L)
section
variable {D : D10} {oa ob : Addr} {ca cb : Nat} {wB : World} {xs ys : Tr} {k : Co} {L : Tr} {w w' : World}
theorem TG.pt (h : TG D oa ob ca cb wB xs ys k L w) : PT D xs ys k w := h.hp.step h.hg h.hm
theorem TG.own_type {base n : Nat} {pv : Value} {cs : List Value} (h : w.ownsRow base 124 2 pv n cs) {g : Nat} (hg : pv.ownBlock = some g) : ∃ cur, w.heap[g]? = some (.cells cur 124) := by
  rcases h.2 with ⟨rfl, _⟩ | ⟨g', cap, cur, rfl, _, hh, _⟩
  · cases hg
  · simp only [Value.ownBlock, Option.some.injEq] at hg
    subst hg
    exact ⟨cur, hh⟩
theorem TG.keep (h : TG D oa ob ca cb wB xs ys k L w) {row : Option Nat} (hg : w.grownBy w' row) (hm : Memo xs ys k D.gm w') (hr : ∀ g, row = some g → g = D.gm ∨ (wB.heap.size ≤ g ∧ ∃ cur t, w.heap[g]? = some (.cells cur t) ∧ t ≠ 124 ∧ t ≠ 102)) : TG D oa ob ca cb wB xs ys k L w' := by
  obtain ⟨pv, h1, h2⟩ := h.ht
  have hB := h.hg.size
  refine ⟨h.hp, h.ra, h.rb, ⟨hg.os.trans h.hg.os, hg.tape.trans h.hg.tape, hg.output.trans h.hg.output, Nat.le_trans hB hg.size, fun i hi hne => ?_⟩, hm, pv, ?_, ?_⟩
  · refine (hg.block i (by omega) (fun e => ?_)).trans (h.hg.block i hi hne)
    rcases hr i e.symm with h3 | ⟨h3, _⟩
    · exact hne (by rw [h3])
    · omega
  · refine (hg.block _ (hp_lt h1) (fun e => ?_)).trans h1
    rcases hr _ e.symm with h3 | ⟨_, cur, t, h3, _, h4⟩
    · exact h.hm.no_cells (h3 ▸ h1)
    · rw [h1] at h3
      simp only [Option.some.injEq, Obj.cells.injEq] at h3
      exact h4 h3.2.1.symm
  · refine h2.kept hg ?_
    rcases hb : pv.ownBlock with _ | g
    · exact .inl rfl
    · refine .inr fun e => ?_
      obtain ⟨cur0, h5⟩ := TG.own_type h2 hb
      rcases hr g e.symm with h3 | ⟨_, cur, t, h3, h4, _⟩
      · exact h.hm.no_cells (h3 ▸ h5)
      · rw [h5] at h3
        simp only [Option.some.injEq, Obj.cells.injEq] at h3
        exact h4 h3.2.1.symm
theorem TG.below (h : TG D oa ob ca cb wB xs ys k L w) (hb : Below w.heap.size w w') : TG D oa ob ca cb wB xs ys k L w' := h.keep (grownB_below hb none) (h.hm.below hb) (fun g e => by cases e)
theorem TG.drawn (h : TG D oa ob ca cb wB xs ys k L w) (hd : Drawn w w') : TG D oa ob ca cb wB xs ys k L w' := h.below hd.toBelow
theorem TG.dist (h : TG D oa ob ca cb wB xs ys k L w) (h' : PG D xs ys k w w') : TG D oa ob ca cb wB xs ys k L w' := h.keep h'.2 h'.1.mm (fun g e => .inl (Option.some.inj e).symm)
theorem TG.stay (h : TG D oa ob ca cb wB xs ys k L w) (h' : PG D xs ys k w w') : Stay w w' := Stay.grown h'.2 (fun g e cur t hc => (h.hm.no_cells ((Option.some.inj e) ▸ hc)).elim)
theorem TG.box (h : TG D oa ob ca cb wB xs ys k L w) {b i j p q : Nat} (hb : Rb w b i j p q) (hB : wB.heap.size ≤ b) (u0 u1 u2 u3 : Value) : TG D oa ob ca cb wB xs ys k L ((((w.setCell ⟨b, 0, none⟩ u0).setCell ⟨b, 1, none⟩ u1).setCell ⟨b, 2, none⟩ u2).setCell ⟨b, 3, none⟩ u3) :=
  have hg := grown_set4 w b u0 u1 u2 u3
  h.keep hg (h.hm.at_heap (hg.block _ h.hm.lt (fun e => h.hm.no_cells ((Option.some.inj e) ▸ hb)))) (fun g e => .inr (by obtain rfl := Option.some.inj e; exact ⟨hB, _, _, hb, by decide, by decide⟩))
theorem TG.len (h : TG D oa ob ca cb wB xs ys k L w) : wB.heap.size < w.heap.size := by obtain ⟨pv, h1, _⟩ := h.ht; exact hp_lt h1
theorem TG.nodeA (h : TG D oa ob ca cb wB xs ys k L w) {u : Nat} (hu : u < xs.length) : w.cell? (oa.add u) = some (.int .i64 (Tr.nd xs u : Int)) :=
  h.hg.cell (h.ra u hu) (fun e => h.hp.mm.apart (h.ra u hu) (Option.some.inj e))
theorem TG.nodeB (h : TG D oa ob ca cb wB xs ys k L w) {u : Nat} (hu : u < ys.length) : w.cell? (ob.add u) = some (.int .i64 (Tr.nd ys u : Int)) :=
  h.hg.cell (h.rb u hu) (fun e => h.hp.mm.apart (h.rb u hu) (Option.some.inj e))
/-- what the tracer's cells hold -/
theorem TG.cell0 (h : TG D oa ob ca cb wB xs ys k L w) : w.cell? ⟨wB.heap.size, 0, none⟩ = some (.pointer (some ⟨D.g, 0, none⟩)) ∧ w.cell? ⟨wB.heap.size, 1, none⟩ = some (.slice (some oa) xs.length ca) ∧ w.cell? ⟨wB.heap.size, 2, none⟩ = some (.slice (some ob) ys.length cb) := by
  obtain ⟨pv, h1, _⟩ := h.ht
  exact ⟨hp_cell h1 rfl, hp_cell h1 rfl, hp_cell h1 rfl⟩
/-- a pair more -/
theorem TG.app (h : TG D oa ob ca cb wB xs ys k L w) {pv pv' : Value} {w3 : World} {L' : Tr} (h1 : w.heap[wB.heap.size]? = some (.cells #[.pointer (some ⟨D.g, 0, none⟩), .slice (some oa) xs.length ca, .slice (some ob) ys.length cb, pv] 102)) (h2 : w.ownsRow (wB.heap.size + 1) 124 2 pv L.length (Tr.cells L))
    (hgr : w.grownBy w3 pv.ownBlock) (hown : w3.ownsRow (wB.heap.size + 1) 124 2 pv' L'.length (Tr.cells L')) : TG D oa ob ca cb wB xs ys k L' (w3.setCell ⟨wB.heap.size, 3, none⟩ pv') ∧ Stay w (w3.setCell ⟨wB.heap.size, 3, none⟩ pv') := by
  have hB := h.hg.size
  have hs := grown_set w3 ⟨wB.heap.size, 3, none⟩ pv'
  have hne : ∀ i, i ≤ wB.heap.size → some i ≠ pv.ownBlock := fun i hi e => by have := (h2.lt i e.symm).1; omega
  have h3 : w3.heap[wB.heap.size]? = some (.cells #[.pointer (some ⟨D.g, 0, none⟩), .slice (some oa) xs.length ca, .slice (some ob) ys.length cb, pv] 102) := (hgr.block _ (hp_lt h1) (hne _ (Nat.le_refl _))).trans h1
  have hgm : D.gm < wB.heap.size := h.hp.mm.lt
  refine ⟨⟨h.hp, h.ra, h.rb, ⟨hs.os.trans (hgr.os.trans h.hg.os), hs.tape.trans (hgr.tape.trans h.hg.tape), hs.output.trans (hgr.output.trans h.hg.output), Nat.le_trans hB (Nat.le_trans hgr.size hs.size), fun i hi hn => ?_⟩, ?_, pv', ?_, ?_⟩, ?_⟩
  · exact (hs.block i (by have := hgr.size; omega) (fun e => by have := Option.some.inj e; simp at this; omega)).trans ((hgr.block i (by omega) (hne i (by omega))).trans (h.hg.block i hi hn))
  · exact (h.hm.at_heap (hgr.block _ h.hm.lt (hne _ (by omega)))).at_heap (hs.block _ (by have := hgr.size; have := h.hm.lt; omega) (fun e => by have := Option.some.inj e; simp at this; omega))
  · exact heap_setCell_same _ _ 3 _ _ _ h3
  · refine hown.kept hs ?_
    rcases hb : pv'.ownBlock with _ | g
    · exact .inl rfl
    · refine .inr fun e => ?_
      have := (hown.lt g hb).1
      have := Option.some.inj e
      simp at this
      omega
  · refine (Stay.grown hgr (fun g e cur t hc => ?_)).trans (Stay.grown hs (fun g e cur t hc => ?_))
    · obtain ⟨cur0, h5⟩ := TG.own_type h2 e
      rw [h5] at hc
      simp only [Option.some.injEq, Obj.cells.injEq] at hc
      exact .inl hc.2.1.symm
    · obtain rfl := Option.some.inj e
      rw [h3] at hc
      simp only [Option.some.injEq, Obj.cells.injEq] at hc
      exact .inr hc.2.1.symm
end

end Go.Proofs.Ytgkkeejhfofcaaa
