/- Texts of one claim laid into one file, in build order: Mem9, New9. -/
import Derived.Test.YtlndaflhlkbedaaMg8
import Derived.Deep.RegionHeld3
import Derived.Maps.AppendAt
import Derived.Outline
/- What is known of forests: the model's memo of chapter 9. -/
namespace Go.Proofs.Ytlndaflhlkbedaa
open Go.RowKit
set_option linter.unusedVariables false

/-- where what is known of a range of both trees stands -/
def ix9 (n m i j p q : Nat) : Nat := ((i * (n + 1) + j) * (m + 1) + p) * (m + 1) + q
theorem ix9_lt {n m i j p q : Nat} (hi : i ≤ n) (hj : j ≤ n) (hp : p ≤ m) (hq : q ≤ m) : ix9 n m i j p q < (n + 1) * (n + 1) * (m + 1) * (m + 1) := by
  unfold ix9
  exact idx_lt (idx_lt (idx_lt (by omega) (by omega)) (by omega)) (by omega)
theorem ix9_inj {n m i j p q i' j' p' q' : Nat} (hj : j ≤ n) (hp : p ≤ m) (hq : q ≤ m) (hj' : j' ≤ n) (hp' : p' ≤ m) (hq' : q' ≤ m) (h : ix9 n m i j p q = ix9 n m i' j' p' q') : i = i' ∧ j = j' ∧ p = p' ∧ q = q' := by
  unfold ix9 at h
  obtain ⟨h1, h2⟩ := idx_inj (by omega) (by omega) h
  obtain ⟨h3, h4⟩ := idx_inj (by omega) (by omega) h1
  obtain ⟨h5, h6⟩ := idx_inj (by omega) (by omega) h3
  exact ⟨h5, h6, h4, h2⟩
/-- the rows that are read, and their caps -/
structure D9 where
  g : Nat
  gk : Nat
  ax : Addr
  ay : Addr
  la : Addr
  lb : Addr
  k0 : Addr
  k1 : Addr
  k2 : Addr
  cx : Nat
  cy : Nat
  dx : Nat
  dy : Nat
  e0 : Nat
  e1 : Nat
  e2 : Nat
structure M9 (B N : Nat) (D : D9) (xs ys : Tr) (k : Co) (K : List Int) (w : World) : Prop where
  gB : B ≤ D.g
  gl : D.g < w.heap.size
  gg : D.gk ≠ D.g
  hN : N = (xs.length + 1) * (xs.length + 1) * (ys.length + 1) * (ys.length + 1)
  h0 : w.cell? ⟨D.g, 0, none⟩ = some (.slice (some D.ax) xs.length D.cx)
  h1 : w.cell? ⟨D.g, 1, none⟩ = some (.slice (some D.ay) ys.length D.cy)
  h2 : w.cell? ⟨D.g, 2, none⟩ = some (.slice (some D.la) xs.length D.dx)
  h3 : w.cell? ⟨D.g, 3, none⟩ = some (.slice (some D.lb) ys.length D.dy)
  h4 : w.cell? ⟨D.g, 4, none⟩ = some (.slice (some ⟨D.gk, 0, none⟩) N N)
  h5 : w.cell? ⟨D.g, 5, none⟩ = some (.slice (some D.k0) 6 D.e0)
  h6 : w.cell? ⟨D.g, 6, none⟩ = some (.slice (some D.k1) 6 D.e1)
  h7 : w.cell? ⟨D.g, 7, none⟩ = some (.slice (some D.k2) 36 D.e2)
  row : w.ownsRow B 3 1 (.slice (some ⟨D.gk, 0, none⟩) N N) N (ints K)
  kn : ∀ i j p q, i ≤ j → j ≤ xs.length → p ≤ q → q ≤ ys.length → Zs.at K (ix9 xs.length ys.length i j p q) = 0 ∨ Zs.at K (ix9 xs.length ys.length i j p q) = RR xs ys k i j p q + 1
  rx : RowOff w D.g D.gk D.ax xs.length (Tr.lab xs)
  ry : RowOff w D.g D.gk D.ay ys.length (Tr.lab ys)
  ra : RowOff w D.g D.gk D.la xs.length (Zs.up (Tr.lfs xs))
  rb : RowOff w D.g D.gk D.lb ys.length (Zs.up (Tr.lfs ys))
  r0 : RowOff w D.g D.gk D.k0 6 k.d
  r1 : RowOff w D.g D.gk D.k1 6 k.i
  r2 : RowOff w D.g D.gk D.k2 36 k.r
section
variable {B N : Nat} {D : D9} {xs ys : Tr} {k : Co} {K : List Int} {w w' : World}
theorem M9.klen (h : M9 B N D xs ys k K w) : K.length = N := by have := h.row.1; rw [ints_length] at this; omega
theorem M9.drawn (h : M9 B N D xs ys k K w) (hd : Drawn w w') : M9 B N D xs ys k K w' := by
  have hc : ∀ p, w'.cell? p = w.cell? p := fun p => hd.cell p
  have hs : w.heap.size ≤ w'.heap.size := by obtain ⟨m, rfl⟩ := hd; exact Nat.le_refl _
  have r {ad : Addr} {n : Nat} {zs : List Int} (q : RowOff w D.g D.gk ad n zs) : RowOff w' D.g D.gk ad n zs := q.keep hs (fun p _ _ _ => hc p)
  exact ⟨h.gB, Nat.lt_of_lt_of_le h.gl hs, h.gg, h.hN, (hc _).trans h.h0, (hc _).trans h.h1, (hc _).trans h.h2, (hc _).trans h.h3, (hc _).trans h.h4, (hc _).trans h.h5, (hc _).trans h.h6, (hc _).trans h.h7, own_drawn h.row hd, h.kn, r h.rx, r h.ry, r h.ra, r h.rb, r h.r0, r h.r1, r h.r2⟩
theorem M9.set (h : M9 B N D xs ys k K w) {i j p q : Nat} (hij : i ≤ j) (hj : j ≤ xs.length) (hpq : p ≤ q) (hq : q ≤ ys.length) : M9 B N D xs ys k (K.set (ix9 xs.length ys.length i j p q) (RR xs ys k i j p q + 1)) (w.setCell ⟨D.gk, ix9 xs.length ys.length i j p q, none⟩ (.int .i64 (RR xs ys k i j p q + 1))) := by
  have hlt : ix9 xs.length ys.length i j p q < K.length := by rw [h.klen, h.hN]; exact ix9_lt (by omega) hj (by omega) hq
  have hl : ∀ o, (w.setCell ⟨D.gk, ix9 xs.length ys.length i j p q, none⟩ (.int .i64 (RR xs ys k i j p q + 1))).cell? ⟨D.g, o, none⟩ = w.cell? ⟨D.g, o, none⟩ := fun o => World.cell?_setCell_other _ _ _ _ (fun e => by injection e with e1 e2; exact h.gg e1)
  have ho : ∀ z : Addr, z.block < w.heap.size → z.block ≠ D.g → z.block ≠ D.gk → (w.setCell ⟨D.gk, ix9 xs.length ys.length i j p q, none⟩ (.int .i64 (RR xs ys k i j p q + 1))).cell? z = w.cell? z := fun z _ _ hz => World.cell?_setCell_other _ _ _ _ (fun e => hz (by rw [← e]))
  have hsz : (w.setCell ⟨D.gk, ix9 xs.length ys.length i j p q, none⟩ (.int .i64 (RR xs ys k i j p q + 1))).heap.size = w.heap.size := by simp
  have r {ad : Addr} {n : Nat} {zs : List Int} (q : RowOff w D.g D.gk ad n zs) := q.keep (Nat.le_of_eq hsz.symm) ho
  exact ⟨h.gB, by rw [hsz]; exact h.gl, h.gg, h.hN, (hl _).trans h.h0, (hl _).trans h.h1, (hl _).trans h.h2, (hl _).trans h.h3, (hl _).trans h.h4, (hl _).trans h.h5, (hl _).trans h.h6, (hl _).trans h.h7,
    by have := (h.row.stored (ix9 xs.length ys.length i j p q) (.int .i64 (RR xs ys k i j p q + 1))).1; rw [ints_set] at this; exact this,
    fun i' j' p' q' a1 a2 a3 a4 => by
      rw [Zs.at_set hlt]
      by_cases e : ix9 xs.length ys.length i' j' p' q' = ix9 xs.length ys.length i j p q
      · rw [if_pos e]
        obtain ⟨rfl, rfl, rfl, rfl⟩ := ix9_inj (by omega) (by omega) a4 (by omega) (by omega) hq e
        exact .inr rfl
      · rw [if_neg e]; exact h.kn i' j' p' q' a1 a2 a3 a4,
    r h.rx, r h.ry, r h.ra, r h.rb, r h.r0, r h.r1, r h.r2⟩
/-- below B nothing has turned, and above it nothing but block gk -/
structure GB (B gk : Nat) (w0 w : World) : Prop where
  bl : Below B w0 w
  gr : w0.grownBy w (some gk)
theorem GB.refl (B gk : Nat) (w : World) : GB B gk w w := ⟨Below.refl _ _, World.grownBy.refl _ _⟩
theorem GB.trans {B gk : Nat} {a b c : World} (h : GB B gk a b) (h' : GB B gk b c) : GB B gk a c := ⟨h.bl.trans h'.bl, h.gr.trans h'.gr⟩
theorem GB.mono {B B' gk : Nat} {a b : World} (h : GB B gk a b) (hb : B' ≤ B) : Below B' a b := h.bl.mono hb
theorem GB.of_drawn {B gk : Nat} {a b : World} (hd : Drawn a b) : GB B gk a b := ⟨hd.toBelow, ⟨(hd.toBelow (B := 0)).os, (hd.toBelow (B := 0)).tape, (hd.toBelow (B := 0)).output, (hd.toBelow (B := 0)).size, fun i _ _ => (hd.toBelow (B := i + 1)).block i (Nat.lt_succ_self i)⟩⟩
theorem GB.drawn {B gk : Nat} {a b c : World} (h : GB B gk a b) (hd : Drawn b c) : GB B gk a c := h.trans (GB.of_drawn hd)
theorem GB.setCell {B gk : Nat} {a b : World} (h : GB B gk a b) (hB : B ≤ gk) (o : Nat) (v : Value) : GB B gk a (b.setCell ⟨gk, o, none⟩ v) :=
  ⟨h.bl.setCell hB _, h.gr.trans ⟨rfl, rfl, rfl, by simp [World.setCell], fun k _ hne => Below.heap_setCell _ _ _ _ (fun e => hne (by rw [e]))⟩⟩
/-- the memo holds some knowledge; below B nothing has turned -/
def K9 (B N : Nat) (D : D9) (xs ys : Tr) (k : Co) (w0 w : World) : Prop := (∃ K, M9 B N D xs ys k K w) ∧ GB B D.gk w0 w
end

end Go.Proofs.Ytlndaflhlkbedaa

/- Contracts (New9). -/
namespace Go.Proofs.Ytlndaflhlkbedaa
open Go.RowKit
set_option linter.unusedVariables false

/-- what l9New holds while it makes its rows -/
structure NwG (A A' : Option Addr) (n n' : Nat) (xs ys : Tr) (K0 K1 K2 : Option Addr) (c0 c1 c2 : Nat) (k : Co) (w wq : World) : Prop where
  a : NdIn wq w.heap.size A n xs
  b : NdIn wq w.heap.size A' n' ys
  k : CoIn wq w.heap.size K0 K1 K2 6 6 36 k
  bl : Below w.heap.size w wq
  q : Box3 wq w.heap.size (.slice K0 6 c0) (.slice K1 6 c1) (.slice K2 36 c2)
  lt : w.heap.size < wq.heap.size
section
variable {A A' : Option Addr} {n n' : Nat} {xs ys : Tr} {K0 K1 K2 : Option Addr} {c0 c1 c2 : Nat} {k : Co} {w wx wq : World}
theorem NwG.keep (h : NwG A A' n n' xs ys K0 K1 K2 c0 c1 c2 k w wx) (hb : Below wx.heap.size wx wq) : NwG A A' n n' xs ys K0 K1 K2 c0 c1 c2 k w wq := by
  have hl := h.lt
  have hb' := hb.mono (B' := w.heap.size) (by omega)
  exact ⟨h.a.below hb', h.b.below hb', h.k.below hb', h.bl.trans hb', h.q.below hb hl, Nat.lt_of_lt_of_le hl hb.size⟩
theorem nw_in (h : (wx.cell? ⟨w.heap.size, 0, none⟩ = some (.slice K0 6 c0) ∧ wx.cell? ⟨w.heap.size, 1, none⟩ = some (.slice K1 6 c1) ∧ wx.cell? ⟨w.heap.size, 2, none⟩ = some (.slice K2 36 c2)) ∧ NwG A A' n n' xs ys K0 K1 K2 c0 c1 c2 k w wx) : NwG A A' n n' xs ys K0 K1 K2 c0 c1 c2 k w wx := h.2
theorem nw_out (h : NwG A A' n n' xs ys K0 K1 K2 c0 c1 c2 k w wx) : (wx.cell? ⟨w.heap.size, 0, none⟩ = some (.slice K0 6 c0) ∧ wx.cell? ⟨w.heap.size, 1, none⟩ = some (.slice K1 6 c1) ∧ wx.cell? ⟨w.heap.size, 2, none⟩ = some (.slice K2 36 c2)) ∧ NwG A A' n n' xs ys K0 K1 K2 c0 c1 c2 k w wx := ⟨h.q, h⟩
theorem nw_a (h : (wx.cell? ⟨w.heap.size, 0, none⟩ = some (.slice K0 6 c0) ∧ wx.cell? ⟨w.heap.size, 1, none⟩ = some (.slice K1 6 c1) ∧ wx.cell? ⟨w.heap.size, 2, none⟩ = some (.slice K2 36 c2)) ∧ NwG A A' n n' xs ys K0 K1 K2 c0 c1 c2 k w wx) : NdIn wx wx.heap.size A n xs := h.2.a.more h.2.bl.size
theorem nw_b (h : (wx.cell? ⟨w.heap.size, 0, none⟩ = some (.slice K0 6 c0) ∧ wx.cell? ⟨w.heap.size, 1, none⟩ = some (.slice K1 6 c1) ∧ wx.cell? ⟨w.heap.size, 2, none⟩ = some (.slice K2 36 c2)) ∧ NwG A A' n n' xs ys K0 K1 K2 c0 c1 c2 k w wx) : NdIn wx wx.heap.size A' n' ys := h.2.b.more h.2.bl.size
theorem nw_le (h : (wx.cell? ⟨w.heap.size, 0, none⟩ = some (.slice K0 6 c0) ∧ wx.cell? ⟨w.heap.size, 1, none⟩ = some (.slice K1 6 c1) ∧ wx.cell? ⟨w.heap.size, 2, none⟩ = some (.slice K2 36 c2)) ∧ NwG A A' n n' xs ys K0 K1 K2 c0 c1 c2 k w wx) : w.heap.size ≤ wx.heap.size := h.2.bl.size
end
/-- the memo, new -/
theorem M9.made {B N : Nat} {xs ys : Tr} {k : Co} {w : World} {g1 g2 g3 g4 gk e1 e2 e3 e4 c0 c1 c2 : Nat} {k0 k1 k2 : Addr} {t : TypeId} (hN : N = (xs.length + 1) * (xs.length + 1) * (ys.length + 1) * (ys.length + 1))
    (r1 : w.ownsRow B 3 1 (.slice (some ⟨g1, 0, none⟩) xs.length e1) xs.length (ints (Tr.lab xs))) (r2 : w.ownsRow B 3 1 (.slice (some ⟨g2, 0, none⟩) ys.length e2) ys.length (ints (Tr.lab ys))) (r3 : w.ownsRow B 3 1 (.slice (some ⟨g3, 0, none⟩) xs.length e3) xs.length (ints (Zs.up (Tr.lfs xs)))) (r4 : w.ownsRow B 3 1 (.slice (some ⟨g4, 0, none⟩) ys.length e4) ys.length (ints (Zs.up (Tr.lfs ys))))
    (rk : w.ownsRow B 3 1 (.slice (some ⟨gk, 0, none⟩) N N) N (ints (List.replicate N 0))) (hk : CoIn w B (some k0) (some k1) (some k2) 6 6 36 k) (n1 : g1 ≠ gk) (n2 : g2 ≠ gk) (n3 : g3 ≠ gk) (n4 : g4 ≠ gk) (hB : B ≤ w.heap.size) :
    M9 B N ⟨w.heap.size, gk, ⟨g1, 0, none⟩, ⟨g2, 0, none⟩, ⟨g3, 0, none⟩, ⟨g4, 0, none⟩, k0, k1, k2, e1, e2, e3, e4, c0, c1, c2⟩ xs ys k (List.replicate N 0)
      (w.alloc (.cells #[.slice (some ⟨g1, 0, none⟩) xs.length e1, .slice (some ⟨g2, 0, none⟩) ys.length e2, .slice (some ⟨g3, 0, none⟩) xs.length e3, .slice (some ⟨g4, 0, none⟩) ys.length e4, .slice (some ⟨gk, 0, none⟩) N N, .slice (some k0) 6 c0, .slice (some k1) 6 c1, .slice (some k2) 36 c2] t)) := by
  obtain ⟨_, e0, q0⟩ := hk.1.2.1 (by omega)
  injection e0 with e0; subst e0
  obtain ⟨_, e5, q1⟩ := hk.2.1.2.1 (by omega)
  injection e5 with e5; subst e5
  obtain ⟨_, e6, q2⟩ := hk.2.2.2.1 (by omega)
  injection e6 with e6; subst e6
  have lk := rk.lt gk rfl
  exact {
    gB := hB
    gl := by show w.heap.size < _; rw [size_made]; omega
    gg := by show gk ≠ w.heap.size; omega
    hN := hN
    h0 := cell_made _ _ _ 0 _ rfl, h1 := cell_made _ _ _ 1 _ rfl, h2 := cell_made _ _ _ 2 _ rfl, h3 := cell_made _ _ _ 3 _ rfl, h4 := cell_made _ _ _ 4 _ rfl, h5 := cell_made _ _ _ 5 _ rfl, h6 := cell_made _ _ _ 6 _ rfl, h7 := cell_made _ _ _ 7 _ rfl
    row := rk.alloc _
    kn := fun i j p q _ _ _ _ => .inl (by unfold Zs.at; rw [List.getD_eq_getElem?_getD, List.getElem?_replicate]; split <;> rfl)
    rx := RowOff.of_own r1 (r1.lt g1 rfl).2 n1, ry := RowOff.of_own r2 (r2.lt g2 rfl).2 n2, ra := RowOff.of_own r3 (r3.lt g3 rfl).2 n3, rb := RowOff.of_own r4 (r4.lt g4 rfl).2 n4
    r0 := RowOff.of_in hk.1 q0 lk.1 lk.2, r1 := RowOff.of_in hk.2.1 q1 lk.1 lk.2, r2 := RowOff.of_in hk.2.2 q2 lk.1 lk.2 }
set_option maxHeartbeats 3200000 in
set_option maxRecDepth 100000 in
theorem l9New_any (A A' : Option Addr) (n n' c c' : Nat) (xs ys : Tr) (K0 K1 K2 : Option Addr) (n0 n1 n2 c0 c1 c2 : Nat) (k : Co) (w : World) (ha : NdIn w w.heap.size A n xs) (hb : NdIn w w.heap.size A' n' ys) (hk : CoIn w w.heap.size K0 K1 K2 n0 n1 n2 k)
    (hx : Tr.ok xs = true) (hy : Tr.ok ys = true) (ho : Co.ok k = true) :
    Calls Try.prog 91 #[.slice A n c, .slice A' n' c', .agg #[.slice K0 n0 c0, .slice K1 n1 c1, .slice K2 n2 c2]] w fun e w' =>
      ∃ (D : D9) (N : Nat) (K : List Int), e = .returned (.pointer (some ⟨D.g, 0, none⟩)) ∧ M9 w.heap.size N D xs ys k K w' ∧ Below w.heap.size w w' := by
  have hln := ha.1
  have hln' := hb.1
  have hkl := hk.len
  have l1 := (Zs.fit_iff.1 (Co.fit3 ho).1).1
  have l2 := (Zs.fit_iff.1 (Co.fit3 ho).2.1).1
  have l3 := (Zs.fit_iff.1 (Co.fit3 ho).2.2).1
  obtain rfl : n0 = 6 := by omega
  obtain rfl : n1 = 6 := by omega
  obtain rfl : n2 = 36 := by omega
  obtain ⟨k0, rfl, hk0⟩ := hk.1.2.1 (by omega)
  obtain ⟨k1, rfl, hk1⟩ := hk.2.1.2.1 (by omega)
  obtain ⟨k2, rfl, hk2⟩ := hk.2.2.2.1 (by omega)
  obtain ⟨x1, x24⟩ := Tr.len24 hx
  obtain ⟨y1, y24⟩ := Tr.len24 hy
  subst hln
  subst hln'
  obtain ⟨v1, hv1⟩ : ∃ v, v = (xs.length + 1) * (xs.length + 1) := ⟨_, rfl⟩
  obtain ⟨v2, hv2⟩ : ∃ v, v = v1 * (ys.length + 1) := ⟨_, rfl⟩
  obtain ⟨N, hN⟩ : ∃ v, v = v2 * (ys.length + 1) := ⟨_, rfl⟩
  have b1 : v1 ≤ 25 * 25 := by rw [hv1]; exact Nat.mul_le_mul (by omega) (by omega)
  have b2 : v2 ≤ 625 * 25 := by rw [hv2]; exact Nat.mul_le_mul (by omega) (by omega)
  have b3 : N ≤ 15625 * 25 := by rw [hN]; exact Nat.mul_le_mul (by omega) (by omega)
  have a1 : IntKind.i64.wrap (((xs.length : Int) + 1) * ((xs.length : Int) + 1)) = (v1 : Int) := by rw [show ((xs.length : Int) + 1) * ((xs.length : Int) + 1) = (v1 : Int) by rw [hv1]; push_cast; rfl]; exact Kit.w64 (by omega) (by omega)
  have a2 : IntKind.i64.wrap ((v1 : Int) * ((ys.length : Int) + 1)) = (v2 : Int) := by rw [show (v1 : Int) * ((ys.length : Int) + 1) = (v2 : Int) by rw [hv2]; push_cast; rfl]; exact Kit.w64 (by omega) (by omega)
  have a3 : IntKind.i64.wrap ((v2 : Int) * ((ys.length : Int) + 1)) = (N : Int) := by rw [show (v2 : Int) * ((ys.length : Int) + 1) = (N : Int) by rw [hN]; push_cast; rfl]; exact Kit.w64 (by omega) (by omega)
  have HNN := Lib.hid (show N = (xs.length + 1) * (xs.length + 1) * (ys.length + 1) * (ys.length + 1) by rw [hN, hv2, hv1])
  obtain ⟨wc, hwc⟩ : ∃ wc, wc = w.alloc (.cells #[.slice (some k0) 6 c0, .slice (some k1) 6 c1, .slice (some k2) 36 c2] 27) := ⟨_, rfl⟩
  have hbc : Below w.heap.size w wc := by rw [hwc]; exact (Below.refl _ _).alloc (Nat.le_refl _) _
  have G1 := Lib.hid (show NwG A A' xs.length ys.length xs ys (some k0) (some k1) (some k2) c0 c1 c2 k w wc from ⟨ha.below hbc, hb.below hbc, hk.below hbc, hbc, by rw [hwc]; exact Box3.made _ _ _ _ _, by rw [hwc]; simp⟩)
  have HWC := Lib.hid hwc
  have HX := Lib.hid hx
  have HY := Lib.hid hy
  obtain ⟨i0, hi0, hz0, hz1, hz2⟩ := info_parts info_intZ
  have Hi := Lib.hid hi0
  have S0 := Lib.hid (nw_out (G1.out.keep (Drawn.refl _).drew.toBelow))
  clear ha hb hk hkl l1 l2 l3 hx hy ho hwc hbc hi0 hv1 hv2 hN
  go_enter Try.func91, Try.ntmps91
  go_wp2_with fail
  rw [← HWC.out]
  go_region_held3 (fun wq => (wq.cell? ⟨w.heap.size, 0, none⟩ = some (.slice (some k0) 6 c0) ∧ wq.cell? ⟨w.heap.size, 1, none⟩ = some (.slice (some k1) 6 c1) ∧ wq.cell? ⟨w.heap.size, 2, none⟩ = some (.slice (some k2) 36 c2)) ∧ NwG A A' xs.length ys.length xs ys (some k0) (some k1) (some k2) c0 c1 c2 k w wq) (first | (with_reducible exact nw_out (NwG.keep (nw_in SX) ((Below.refl _ _).alloc (Nat.le_refl _) _))) | (with_reducible exact SX) | (with_reducible exact S0.out)) (first | (go_at_call 119; (fail_if_success (have := m1)); refine (l8Labels_new A c xs _ (nw_a (by assumption)) HX.out).mono ?_; rintro e w5 ⟨g1, e1, rfl, r1, f1, f1', hb⟩; have hb1 := hb; have SX := nw_out (NwG.keep (nw_in (by assumption)) hb); have m1 := True.intro) | (go_at_call 119; (fail_if_success (have := m2)); refine (l8Labels_new A' c' ys _ (nw_b (by assumption)) HY.out).mono ?_; rintro e w6 ⟨g2, e2, rfl, r2, f2, f2', hb⟩; have hb2 := hb; have SX := nw_out (NwG.keep (nw_in (by assumption)) hb); have m2 := True.intro) | (go_at_call 25; (fail_if_success (have := m3)); refine (specLeft_new A c xs _ (nw_a (by assumption)) HX.out).mono ?_; rintro e w7 ⟨g3, e3, rfl, r3, f3, f3', hb⟩; have hb3 := hb; have SX := nw_out (NwG.keep (nw_in (by assumption)) hb); have m3 := True.intro) | (go_at_call 25; (fail_if_success (have := m4)); refine (specLeft_new A' c' ys _ (nw_b (by assumption)) HY.out).mono ?_; rintro e w8 ⟨g4, e4, rfl, r4, f4, f4', hb⟩; have hb4 := hb; have SX := nw_out (NwG.keep (nw_in (by assumption)) hb); have m4 := True.intro) | (refine upon_make w.heap.size 25 3 i0 Try.underlying25 Hi.out hz0 hz1 hz2 N (by omega) (nw_le (by assumption)) ?_; intro w9 rk hg9; have hb : Below _ _ w9 := (Below.refl _ _).grown hg9 (Nat.le_refl _) (fun _ h => by cases h); have hb5 := hb; have SX := nw_out (NwG.keep (nw_in (by assumption)) hb)))
  · have s1 : wc.heap.size ≤ w5.heap.size := hb1.size
    have q1 : wc.heap.size ≤ g1 := f1
    have s2 : w5.heap.size ≤ w6.heap.size := hb2.size
    have q2 : w5.heap.size ≤ g2 := f2
    have s3 : w6.heap.size ≤ w7.heap.size := hb3.size
    have q3 : w6.heap.size ≤ g3 := f3
    have s4 : w7.heap.size ≤ w8.heap.size := hb4.size
    have q4 : w7.heap.size ≤ g4 := f4
    have s5 : w8.heap.size ≤ w9.heap.size := hb5.size
    have sc := G1.out.lt
    have zd : wc.drew.heap.size = wc.heap.size := rfl
    have lk : w8.heap.size < w9.heap.size := (rk.lt _ rfl).2
    have SXX := nw_in SX
    have hM := M9.made (c0 := c0) (c1 := c1) (c2 := c2) (t := 150) (gk := w8.heap.size) HNN.out (own_base (own_below (own_below (own_below (own_below r1 hb2) hb3) hb4) hb5) (by omega)) (own_base (own_below (own_below (own_below r2 hb3) hb4) hb5) (by omega)) (own_base (own_below (own_below r3 hb4) hb5) (by omega)) (own_base (own_below r4 hb5) (by omega)) (rk) SXX.k (by omega) (by omega) (by omega) (by omega) SXX.bl.size
    go_wp2
    go_ret
    exact ⟨_, _, _, rfl, hM, SXX.bl.alloc SXX.bl.size _⟩
  · have s1 : wc.heap.size ≤ w5.heap.size := hb1.size
    have q1 : wc.heap.size ≤ g1 := f1
    have s2 : w5.heap.size ≤ w6.heap.size := hb2.size
    have q2 : w5.heap.size ≤ g2 := f2
    have s3 : w6.heap.size ≤ w7.heap.size := hb3.size
    have q3 : w6.heap.size ≤ g3 := f3
    have s5 : w7.heap.size ≤ w9.heap.size := hb5.size
    have s4 : w9.heap.size ≤ w8.heap.size := hb4.size
    have q4 : w9.heap.size ≤ g4 := f4
    have sc := G1.out.lt
    have zd : wc.drew.heap.size = wc.heap.size := rfl
    have lk : w7.heap.size < w9.heap.size := (rk.lt _ rfl).2
    have SXX := nw_in SX
    have hM := M9.made (c0 := c0) (c1 := c1) (c2 := c2) (t := 150) (gk := w7.heap.size) HNN.out (own_base (own_below (own_below (own_below (own_below r1 hb2) hb3) hb5) hb4) (by omega)) (own_base (own_below (own_below (own_below r2 hb3) hb5) hb4) (by omega)) (own_base (own_below (own_below r3 hb5) hb4) (by omega)) (own_base r4 (by omega)) ((own_below rk hb4)) SXX.k (by omega) (by omega) (by omega) (by omega) SXX.bl.size
    go_wp2
    go_ret
    exact ⟨_, _, _, rfl, hM, SXX.bl.alloc SXX.bl.size _⟩
  · have s1 : wc.heap.size ≤ w5.heap.size := hb1.size
    have q1 : wc.heap.size ≤ g1 := f1
    have s2 : w5.heap.size ≤ w6.heap.size := hb2.size
    have q2 : w5.heap.size ≤ g2 := f2
    have s5 : w6.heap.size ≤ w9.heap.size := hb5.size
    have s3 : w9.heap.size ≤ w7.heap.size := hb3.size
    have q3 : w9.heap.size ≤ g3 := f3
    have s4 : w7.heap.size ≤ w8.heap.size := hb4.size
    have q4 : w7.heap.size ≤ g4 := f4
    have sc := G1.out.lt
    have zd : wc.drew.heap.size = wc.heap.size := rfl
    have lk : w6.heap.size < w9.heap.size := (rk.lt _ rfl).2
    have SXX := nw_in SX
    have hM := M9.made (c0 := c0) (c1 := c1) (c2 := c2) (t := 150) (gk := w6.heap.size) HNN.out (own_base (own_below (own_below (own_below (own_below r1 hb2) hb5) hb3) hb4) (by omega)) (own_base (own_below (own_below (own_below r2 hb5) hb3) hb4) (by omega)) (own_base (own_below r3 hb4) (by omega)) (own_base r4 (by omega)) ((own_below (own_below rk hb3) hb4)) SXX.k (by omega) (by omega) (by omega) (by omega) SXX.bl.size
    go_wp2
    go_ret
    exact ⟨_, _, _, rfl, hM, SXX.bl.alloc SXX.bl.size _⟩
  · have s1 : wc.heap.size ≤ w5.heap.size := hb1.size
    have q1 : wc.heap.size ≤ g1 := f1
    have s5 : w5.heap.size ≤ w9.heap.size := hb5.size
    have s2 : w9.heap.size ≤ w6.heap.size := hb2.size
    have q2 : w9.heap.size ≤ g2 := f2
    have s3 : w6.heap.size ≤ w7.heap.size := hb3.size
    have q3 : w6.heap.size ≤ g3 := f3
    have s4 : w7.heap.size ≤ w8.heap.size := hb4.size
    have q4 : w7.heap.size ≤ g4 := f4
    have sc := G1.out.lt
    have zd : wc.drew.heap.size = wc.heap.size := rfl
    have lk : w5.heap.size < w9.heap.size := (rk.lt _ rfl).2
    have SXX := nw_in SX
    have hM := M9.made (c0 := c0) (c1 := c1) (c2 := c2) (t := 150) (gk := w5.heap.size) HNN.out (own_base (own_below (own_below (own_below (own_below r1 hb5) hb2) hb3) hb4) (by omega)) (own_base (own_below (own_below r2 hb3) hb4) (by omega)) (own_base (own_below r3 hb4) (by omega)) (own_base r4 (by omega)) ((own_below (own_below (own_below rk hb2) hb3) hb4)) SXX.k (by omega) (by omega) (by omega) (by omega) SXX.bl.size
    go_wp2
    go_ret
    exact ⟨_, _, _, rfl, hM, SXX.bl.alloc SXX.bl.size _⟩
  · have s5 : wc.heap.size ≤ w9.heap.size := hb5.size
    have s1 : w9.heap.size ≤ w5.heap.size := hb1.size
    have q1 : w9.heap.size ≤ g1 := f1
    have s2 : w5.heap.size ≤ w6.heap.size := hb2.size
    have q2 : w5.heap.size ≤ g2 := f2
    have s3 : w6.heap.size ≤ w7.heap.size := hb3.size
    have q3 : w6.heap.size ≤ g3 := f3
    have s4 : w7.heap.size ≤ w8.heap.size := hb4.size
    have q4 : w7.heap.size ≤ g4 := f4
    have sc := G1.out.lt
    have zd : wc.drew.heap.size = wc.heap.size := rfl
    have lk : wc.heap.size < w9.heap.size := (rk.lt _ rfl).2
    have SXX := nw_in SX
    have hM := M9.made (c0 := c0) (c1 := c1) (c2 := c2) (t := 150) (gk := wc.heap.size) HNN.out (own_base (own_below (own_below (own_below r1 hb2) hb3) hb4) (by omega)) (own_base (own_below (own_below r2 hb3) hb4) (by omega)) (own_base (own_below r3 hb4) (by omega)) (own_base r4 (by omega)) ((own_below (own_below (own_below (own_below rk hb1) hb2) hb3) hb4)) SXX.k (by omega) (by omega) (by omega) (by omega) SXX.bl.size
    go_wp2
    go_ret
    exact ⟨_, _, _, rfl, hM, SXX.bl.alloc SXX.bl.size _⟩

end Go.Proofs.Ytlndaflhlkbedaa
