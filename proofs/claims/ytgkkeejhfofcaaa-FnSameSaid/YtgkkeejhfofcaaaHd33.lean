/- Texts of one claim laid into one file, in build order: TrI. -/
import Derived.Test.YtgkkeejhfofcaaaHd32
import Derived.Test.YtgkkeejhfofcaaaHd9
import Derived.BigQuiet
import Derived.Deep.CutRange
import Derived.Deep.DeepCutAuto
import Derived.Deep.LoopGhost
import Derived.Deep.RegionHeld3
import Derived.Laws.NewBlocks
/- Contracts (TrI). -/
namespace Go.Proofs.Ytgkkeejhfofcaaa
open Go.RowKit
set_option linter.unusedVariables false

/-- the tracer, and one box of ranges -/
def MQ (D : D10) (oa ob : Addr) (ca cb : Nat) (wB : World) (xs ys : Tr) (k : Co) (L : Tr) (w0 : World) (b i j p q : Nat) (wq : World) : Prop := TG D oa ob ca cb wB xs ys k L wq ∧ Stay w0 wq ∧ Rb wq b i j p q
section
variable {D : D10} {oa ob : Addr} {ca cb : Nat} {wB : World} {xs ys : Tr} {k : Co} {L : Tr} {w0 wq wx : World} {b i j p q : Nat}
theorem MQ.below (h : MQ D oa ob ca cb wB xs ys k L w0 b i j p q wq) (hb : Below wq.heap.size wq wx) : MQ D oa ob ca cb wB xs ys k L w0 b i j p q wx := ⟨h.1.below hb, h.2.1.trans (Stay.below hb), h.2.2.stay (Stay.below hb)⟩
theorem MQ.drawn (h : MQ D oa ob ca cb wB xs ys k L w0 b i j p q wq) (hd : Drawn wq wx) : MQ D oa ob ca cb wB xs ys k L w0 b i j p q wx := h.below hd.toBelow
theorem MQ.dist (h : MQ D oa ob ca cb wB xs ys k L w0 b i j p q wq) (h' : PG D xs ys k wq wx) : MQ D oa ob ca cb wB xs ys k L w0 b i j p q wx := ⟨h.1.dist h', h.2.1.trans (h.1.stay h'), h.2.2.stay (h.1.stay h')⟩
theorem MQ.on (h : MQ D oa ob ca cb wB xs ys k L w0 b i j p q wq) : (wq.cell? ⟨b, 0, none⟩ = some (.int .i64 (i : Int)) ∧ wq.cell? ⟨b, 1, none⟩ = some (.int .i64 (j : Int)) ∧ wq.cell? ⟨b, 2, none⟩ = some (.int .i64 (p : Int)) ∧ wq.cell? ⟨b, 3, none⟩ = some (.int .i64 (q : Int)) ∧ wq.cell? ⟨wB.heap.size, 0, none⟩ = some (.pointer (some ⟨D.g, 0, none⟩))) ∧ MQ D oa ob ca cb wB xs ys k L w0 b i j p q wq := ⟨⟨h.2.2.cells.1, h.2.2.cells.2.1, h.2.2.cells.2.2.1, h.2.2.cells.2.2.2, h.1.cell0.1⟩, h⟩
theorem mq_of (h : (wq.cell? ⟨b, 0, none⟩ = some (.int .i64 (i : Int)) ∧ wq.cell? ⟨b, 1, none⟩ = some (.int .i64 (j : Int)) ∧ wq.cell? ⟨b, 2, none⟩ = some (.int .i64 (p : Int)) ∧ wq.cell? ⟨b, 3, none⟩ = some (.int .i64 (q : Int)) ∧ wq.cell? ⟨wB.heap.size, 0, none⟩ = some (.pointer (some ⟨D.g, 0, none⟩))) ∧ MQ D oa ob ca cb wB xs ys k L w0 b i j p q wq) : MQ D oa ob ca cb wB xs ys k L w0 b i j p q wq := h.2
theorem mq_tg (h : (wq.cell? ⟨b, 0, none⟩ = some (.int .i64 (i : Int)) ∧ wq.cell? ⟨b, 1, none⟩ = some (.int .i64 (j : Int)) ∧ wq.cell? ⟨b, 2, none⟩ = some (.int .i64 (p : Int)) ∧ wq.cell? ⟨b, 3, none⟩ = some (.int .i64 (q : Int)) ∧ wq.cell? ⟨wB.heap.size, 0, none⟩ = some (.pointer (some ⟨D.g, 0, none⟩))) ∧ MQ D oa ob ca cb wB xs ys k L w0 b i j p q wq) : TG D oa ob ca cb wB xs ys k L wq := h.2.1
theorem mq_next (h : (wq.cell? ⟨b, 0, none⟩ = some (.int .i64 (i : Int)) ∧ wq.cell? ⟨b, 1, none⟩ = some (.int .i64 (j : Int)) ∧ wq.cell? ⟨b, 2, none⟩ = some (.int .i64 (p : Int)) ∧ wq.cell? ⟨b, 3, none⟩ = some (.int .i64 (q : Int)) ∧ wq.cell? ⟨wB.heap.size, 0, none⟩ = some (.pointer (some ⟨D.g, 0, none⟩))) ∧ MQ D oa ob ca cb wB xs ys k L w0 b i j p q wq) (hb : Below wq.heap.size wq wx) : (wx.cell? ⟨b, 0, none⟩ = some (.int .i64 (i : Int)) ∧ wx.cell? ⟨b, 1, none⟩ = some (.int .i64 (j : Int)) ∧ wx.cell? ⟨b, 2, none⟩ = some (.int .i64 (p : Int)) ∧ wx.cell? ⟨b, 3, none⟩ = some (.int .i64 (q : Int)) ∧ wx.cell? ⟨wB.heap.size, 0, none⟩ = some (.pointer (some ⟨D.g, 0, none⟩))) ∧ MQ D oa ob ca cb wB xs ys k L w0 b i j p q wx := (h.2.below hb).on
/-- some box of ranges -/
def Zb (w : World) (g : Nat) : Prop := ∃ a b c d, Rb w g a b c d
theorem Zb.of (h : Rb wq b i j p q) : Zb wq b := ⟨i, j, p, q, h⟩
theorem Zb.alloc {g : Nat} (h : Zb wq g) (o : Obj) : Zb (wq.alloc o) g := by obtain ⟨a, b, c, d, h⟩ := h; exact ⟨a, b, c, d, h.stay (Stay.below ((Below.refl _ _).alloc (Nat.le_refl _) o))⟩
theorem Zb.set4 {g g' : Nat} (h : Zb wq g) (hne : g ≠ g') (u0 u1 u2 u3 : Value) : Zb ((((wq.setCell ⟨g', 0, none⟩ u0).setCell ⟨g', 1, none⟩ u1).setCell ⟨g', 2, none⟩ u2).setCell ⟨g', 3, none⟩ u3) g := by
  obtain ⟨a, b, c, d, h⟩ := h
  exact ⟨a, b, c, d, ((grown_set4 wq g' u0 u1 u2 u3).block _ (hp_lt h) (fun e => hne (Option.some.inj e))).trans h⟩
theorem Rb.over (h : Rb wq b i j p q) {g' : Nat} (hne : b ≠ g') (u0 u1 u2 u3 : Value) : Rb ((((wq.setCell ⟨g', 0, none⟩ u0).setCell ⟨g', 1, none⟩ u1).setCell ⟨g', 2, none⟩ u2).setCell ⟨g', 3, none⟩ u3) b i j p q :=
  ((grown_set4 wq g' u0 u1 u2 u3).block _ (hp_lt h) (fun e => hne (Option.some.inj e))).trans h
theorem Rb.alloc (h : Rb wq b i j p q) (o : Obj) : Rb (wq.alloc o) b i j p q := h.stay (Stay.below ((Below.refl _ _).alloc (Nat.le_refl _) o))
theorem MQ.alloc (h : MQ D oa ob ca cb wB xs ys k L w0 b i j p q wq) (o : Obj) : MQ D oa ob ca cb wB xs ys k L w0 b i j p q (wq.alloc o) := h.below ((Below.refl _ _).alloc (Nat.le_refl _) o)
theorem MQ.set4 (h : MQ D oa ob ca cb wB xs ys k L w0 b i j p q wq) {g : Nat} (hz : Zb wq g) (hB : wB.heap.size ≤ g) (hw : w0.heap.size ≤ g) (hne : b ≠ g) (u0 u1 u2 u3 : Value) : MQ D oa ob ca cb wB xs ys k L w0 b i j p q ((((wq.setCell ⟨g, 0, none⟩ u0).setCell ⟨g, 1, none⟩ u1).setCell ⟨g, 2, none⟩ u2).setCell ⟨g, 3, none⟩ u3) := by
  obtain ⟨z0, z1, z2, z3, hz⟩ := hz
  have hg := grown_set4 wq g u0 u1 u2 u3
  refine ⟨h.1.box hz hB _ _ _ _, ⟨Nat.le_trans h.2.1.size hg.size, fun b' cur t hb h1 h2 => ?_⟩, ?_⟩
  · have hb2 := h.2.1.blk b' cur t hb h1 h2
    exact (hg.block _ (hp_lt hb2) (fun e => by have := hp_lt hb; have := Option.some.inj e; omega)).trans hb2
  · exact (hg.block _ (hp_lt h.2.2) (fun e => hne (Option.some.inj e))).trans h.2.2
/-- the cells that a pair's region reads, while the row of pairs turns -/
theorem tr_six (h : TG D oa ob ca cb wB xs ys k L wq) (hr : Rb wq b i j p q) {pv : Value} (h2 : wq.ownsRow (wB.heap.size + 1) 124 2 pv L.length (Tr.cells L)) (hgr : wq.grownBy wx pv.ownBlock) {j1 q1 : Nat} (hj : j1 < xs.length) (hq : q1 < ys.length) :
    wx.cell? ⟨wB.heap.size, 1, none⟩ = some (.slice (some oa) xs.length ca) ∧ wx.cell? ⟨wB.heap.size, 2, none⟩ = some (.slice (some ob) ys.length cb) ∧ wx.cell? ⟨b, 1, none⟩ = some (.int .i64 (j : Int)) ∧ wx.cell? ⟨b, 3, none⟩ = some (.int .i64 (q : Int)) ∧ wx.cell? (oa.add j1) = some (.int .i64 (Tr.nd xs j1 : Int)) ∧ wx.cell? (ob.add q1) = some (.int .i64 (Tr.nd ys q1 : Int)) := by
  have hne : ∀ g, g ≤ wB.heap.size → some g ≠ pv.ownBlock := fun g hg e => by have := (h2.lt g e.symm).1; omega
  have hb : Rb wx b i j p q := (hgr.block _ (hp_lt hr) (fun e => by
    obtain ⟨cur0, h5⟩ := TG.own_type h2 e.symm
    unfold Rb at hr
    rw [hr] at h5
    simp only [Option.some.injEq, Obj.cells.injEq] at h5
    exact absurd h5.2.1 (by decide))).trans hr
  have c0 := h.cell0
  exact ⟨hgr.cell c0.2.1 (hne _ (Nat.le_refl _)), hgr.cell c0.2.2 (hne _ (Nat.le_refl _)), hb.cells.2.1, hb.cells.2.2.2,
    hgr.cell (h.nodeA hj) (hne _ (Nat.le_of_lt (World.block_lt_of_cell? _ _ (h.ra _ hj)))), hgr.cell (h.nodeB hq) (hne _ (Nat.le_of_lt (World.block_lt_of_cell? _ _ (h.rb _ hq))))⟩
theorem tr_six0 (h : TG D oa ob ca cb wB xs ys k L wq) (hr : Rb wq b i j p q) {j1 q1 : Nat} (hj : j1 < xs.length) (hq : q1 < ys.length) : wq.cell? ⟨wB.heap.size, 1, none⟩ = some (.slice (some oa) xs.length ca) ∧ wq.cell? ⟨wB.heap.size, 2, none⟩ = some (.slice (some ob) ys.length cb) ∧ wq.cell? ⟨b, 1, none⟩ = some (.int .i64 (j : Int)) ∧ wq.cell? ⟨b, 3, none⟩ = some (.int .i64 (q : Int)) ∧ wq.cell? (oa.add j1) = some (.int .i64 (Tr.nd xs j1 : Int)) ∧ wq.cell? (ob.add q1) = some (.int .i64 (Tr.nd ys q1 : Int)) := by
  have c0 := h.cell0
  exact ⟨c0.2.1, c0.2.2, hr.cells.2.1, hr.cells.2.2.2, h.nodeA hj, h.nodeB hq⟩
end
/-- trace of ranges that hold fewer than s places together -/
def SaysT (D : D10) (oa ob : Addr) (ca cb : Nat) (wB : World) (xs ys : Tr) (k : Co) (s : Nat) : Prop :=
  ∀ (i j p q : Nat) (L : Tr) (w : World), i ≤ j → j ≤ xs.length → p ≤ q → q ≤ ys.length → (j - i) + (q - p) < s → L.length + (q - p) ≤ 1000 → TG D oa ob ca cb wB xs ys k L w →
    Calls Try.prog 129 #[.pointer (some ⟨wB.heap.size, 0, none⟩), (.agg #[.int .i64 (i : Int), .int .i64 (j : Int), .int .i64 (p : Int), .int .i64 (q : Int)])] w fun e w' => e = .returned (.tuple #[]) ∧ TG D oa ob ca cb wB xs ys k (L ++ Bm.go (Bm.cP xs ys) xs ys k i j p q) w' ∧ Stay w w'
theorem Bm.go_len {xs ys : Tr} {k : Co} (hx : Tr.ok xs = true) (hy : Tr.ok ys = true) {i j p q : Nat} (hj : j ≤ xs.length) (hq : q ≤ ys.length) : (Bm.go (Bm.cP xs ys) xs ys k i j p q).length ≤ q - p := by
  refine Bm.go_ind (M := fun i j p q L => L.length ≤ q - p) hx hy ?_ ?_ ?_ ?_ (j - i + (q - p) + 1) i j p q (by omega) hj hq
  · intro i j p q _; simp
  · intro i j p q L _ _ _ _ _ h; exact h
  · intro i j p q L _ _ _ _ _ _ h; omega
  · intro i j p q P Q A B _ _ _ _ _ _ _ _ _ _ _ h1 h2
    unfold Bm.cP
    simp only [List.length_append, List.length_singleton]
    omega
theorem info_prT : (Try.prog.info? 124).map (fun i => (i.zero, i.size, i.bytes)) = some (some (.agg #[.int .i64 0, .int .i64 0]), 2, 16) := by kernel_rfl
set_option maxHeartbeats 6400000 in
set_option maxRecDepth 100000 in
theorem match_any (D : D10) (oa ob : Addr) (ca cb : Nat) (wB : World) (xs ys : Tr) (k : Co) (s : Nat) (hx : Tr.ok xs = true) (hy : Tr.ok ys = true) (hs : SaysT D oa ob ca cb wB xs ys k s) (i j p q : Nat) (L : Tr) (w : World) (hij : i < j) (hj : j ≤ xs.length) (hpq : p < q) (hq : q ≤ ys.length) (hsum : (j - i) + (q - p) ≤ s) (hL : L.length + (q - p) ≤ 1000) (h : TG D oa ob ca cb wB xs ys k L w) :
    Calls Try.prog 70 #[.pointer (some ⟨wB.heap.size, 0, none⟩), (.agg #[.int .i64 (i : Int), .int .i64 (j : Int), .int .i64 (p : Int), .int .i64 (q : Int)])] w fun e w' => e = .returned (.tuple #[]) ∧ TG D oa ob ca cb wB xs ys k (L ++ Bm.mt (Bm.cP xs ys) xs ys k i j p q) w' ∧ Stay w w' := by
  have x24 := (Tr.len24 hx).2
  have y24 := (Tr.len24 hy).2
  obtain ⟨j1, ej⟩ : ∃ z, j = z + 1 := ⟨j - 1, by omega⟩
  obtain ⟨q1, eq⟩ : ∃ z, q = z + 1 := ⟨q - 1, by omega⟩
  have la1 := (Tr.la_nest hx j1 (by omega)).1
  have lb1 := (Tr.la_nest hy q1 (by omega)).1
  obtain ⟨P, eP⟩ : ∃ z, z = max i (Tr.la xs j1) := ⟨_, rfl⟩
  obtain ⟨Q, eQ⟩ : ∃ z, z = max p (Tr.la ys q1) := ⟨_, rfl⟩
  obtain ⟨w1, hw1⟩ : ∃ w1, w1 = w.alloc (.cells #[.int .i64 (i : Int), .int .i64 (j : Int), .int .i64 (p : Int), .int .i64 (q : Int)] 105) := ⟨_, rfl⟩
  have hb1 : Below w.heap.size w w1 := by rw [hw1]; exact (Below.refl _ _).alloc (Nat.le_refl _) _
  have R1 := Lib.hid (show Rb w1 w.heap.size i j p q by rw [hw1]; exact Rb.made _ _ _ _ _)
  have G1 := Lib.hid (h.below hb1)
  have S1 := Lib.hid (Stay.below hb1)
  have CS := Lib.hid (fun (wq : World) (hp : TG D oa ob ca cb wB xs ys k L wq) => split_any D.g D.a0 D.a1 D.b0 D.b1 D.k0 D.k1 D.k2 D.ca0 D.ca1 D.cb0 D.cb1 D.ck0 D.ck1 D.ck2 xs ys k wq hp.pt.sd hx hy i j p q j1 q1 P Q ej eq hj hq (by omega) (by omega) eP eQ)
  have CA := Lib.hid (fun (wq : World) (hp : TG D oa ob ca cb wB xs ys k L wq) => hs i P p Q L wq (by omega) (by omega) (by omega) (by omega) (by omega) (by omega) hp)
  have CB := Lib.hid (fun (wq : World) (M : Tr) (hM : M.length + (q1 - Q) ≤ 1000) (hp : TG D oa ob ca cb wB xs ys k M wq) => hs P j1 Q q1 M wq (by omega) (by omega) (by omega) (by omega) (by omega) hM hp)
  have EM := Lib.hid (show L ++ Bm.go (Bm.cP xs ys) xs ys k i P p Q ++ [((Tr.nd xs j1 : Int), (Tr.nd ys q1 : Int))] ++ Bm.go (Bm.cP xs ys) xs ys k P j1 Q q1 = L ++ Bm.mt (Bm.cP xs ys) xs ys k i j p q by
    unfold Bm.mt Bm.cP
    rw [show j - 1 = j1 by omega, show q - 1 = q1 by omega, ← eP, ← eQ]
    simp only [List.append_assoc])
  have LA := Lib.hid (Bm.go_len (k := k) hx hy (i := i) (j := P) (p := p) (q := Q) (by omega) (by omega))
  have LL := Lib.hid hL
  have BJ := Lib.hid (show j1 < xs.length ∧ q1 < ys.length by omega)
  have I24 := Lib.hid (show j ≤ 24 ∧ q ≤ 24 by omega)
  have HW1 := Lib.hid hw1
  have G0 := Lib.hid h
  have EJ := Lib.hid ej
  have EQ := Lib.hid eq
  have EP := Lib.hid eP
  have EQQ := Lib.hid eQ
  have BD := Lib.hid (show i ≤ P ∧ P ≤ j1 ∧ p ≤ Q ∧ Q ≤ q1 by omega)
  clear h hw1 hb1 hs ej eq eP eQ la1 lb1 hij hj hpq hq hsum hL x24 y24
  have SZ := Lib.hid (show w1.heap.size = w.heap.size + 1 ∧ wB.heap.size < w.heap.size from ⟨by rw [HW1.out]; simp, G0.out.len⟩)
  obtain ⟨i0, hi, hz0, hz1, hz2⟩ := info_parts info_prT
  go_enter Try.func70, Try.ntmps70
  go_wp2_with fail
  rw [← HW1.out]
  go_cut [4, 5] from 6 (fun v4 v5 wq => ∃ g4 g5 : Nat, v4 = .pointer (some ⟨g4, 0, none⟩) ∧ v5 = .pointer (some ⟨g5, 0, none⟩) ∧ MQ D oa ob ca cb wB xs ys k L w w.heap.size i j p q wq ∧ Rb wq g4 i P p Q ∧ Rb wq g5 P j1 Q q1)
  case first =>
    obtain ⟨wn, hwn⟩ : ∃ x, x = w1.drew := ⟨_, rfl⟩
    have M := Lib.hid (show MQ D oa ob ca cb wB xs ys k L w w.heap.size i j p q wn by rw [hwn]; exact MQ.drawn ⟨G1.out, S1.out, R1.out⟩ (Drawn.refl _).drew)
    refine wp_region_held_drew (S := (fun wq => (wq.cell? ⟨w.heap.size, 0, none⟩ = some (.int .i64 (i : Int)) ∧ wq.cell? ⟨w.heap.size, 1, none⟩ = some (.int .i64 (j : Int)) ∧ wq.cell? ⟨w.heap.size, 2, none⟩ = some (.int .i64 (p : Int)) ∧ wq.cell? ⟨w.heap.size, 3, none⟩ = some (.int .i64 (q : Int)) ∧ wq.cell? ⟨wB.heap.size, 0, none⟩ = some (.pointer (some ⟨D.g, 0, none⟩))) ∧ MQ D oa ob ca cb wB xs ys k L w w.heap.size i j p q wq)) (by kernel_rfl) (by rw [← hwn]; exact M.out.on) (fun hHeld => ?_)
    rw [← hwn] at hHeld ⊢
    clear hwn
    refine rg_take (i := 0) (v := ?_) rfl (by kernel_rfl) (by kernel_rfl) (by kernel_rfl) (fun _ _ _ h => h) (by rfl) ?_ (by assumption) ?_
    rotate_left
    · intro w hSw
      (try dsimp only at hSw)
      go_simp
      (try with_reducible rfl)
    (try simp only [Act.put, List.setIfInBounds_toArray, List.set_cons_zero, List.set_cons_succ])
    refine rg_take (i := 1) (v := ?_) rfl (by kernel_rfl) (by kernel_rfl) (by kernel_rfl) (fun _ _ _ h => h) (by rfl) ?_ (by assumption) ?_
    rotate_left
    · intro w hSw
      (try dsimp only at hSw)
      go_simp
      (try with_reducible rfl)
    (try simp only [Act.put, List.setIfInBounds_toArray, List.set_cons_zero, List.set_cons_succ])
    refine rg_take (i := 2) (v := ?_) rfl (by kernel_rfl) (by kernel_rfl) (by kernel_rfl) (fun _ _ _ h => h) (by rfl) ?_ (by assumption) ?_
    rotate_left
    · intro w hSw
      (try dsimp only at hSw)
      go_simp
      (try with_reducible rfl)
    (try simp only [Act.put, List.setIfInBounds_toArray, List.set_cons_zero, List.set_cons_succ])
    refine rg_take (i := 3) (v := ?_) rfl (by kernel_rfl) (by kernel_rfl) (by kernel_rfl) (fun _ _ _ h => h) (by rfl) ?_ (by assumption) ?_
    rotate_left
    · intro w hSw
      (try dsimp only at hSw)
      go_simp
      (try with_reducible rfl)
    (try simp only [Act.put, List.setIfInBounds_toArray, List.set_cons_zero, List.set_cons_succ])
    refine rg_take (i := 4) (v := ?_) rfl (by kernel_rfl) (by kernel_rfl) (by kernel_rfl) (fun _ _ _ h => h) (by rfl) ?_ (by assumption) ?_
    rotate_left
    · intro w hSw
      (try dsimp only at hSw)
      go_simp
      (try with_reducible rfl)
    (try simp only [Act.put, List.setIfInBounds_toArray, List.set_cons_zero, List.set_cons_succ])
    refine wpAnyH_ready (rs := [5, 9, 10]) (by kernel_rfl) (by simp) ?_
    refine AllReadyH.cons rfl (fun K hK => ?_) ?_
    · go_simp
      go_at_call 128
      refine (CS.out _ M.out.1).mono ?_
      rintro e wz ⟨rfl, hk5⟩
      have M := Lib.hid (M.out.below hk5)
      clear hk5
      go_wp2_with fail
      refine hK.out _ _ M.out.on (fun hHeld => ?_)
      clear hK K
      (try simp only [Act.put, List.setIfInBounds_toArray, List.set_cons_zero, List.set_cons_succ])
      refine rg_take (i := 6) (v := ?_) rfl (by kernel_rfl) (by kernel_rfl) (by kernel_rfl) (fun _ _ _ h => h) (by rfl) ?_ (by assumption) ?_
      rotate_left
      · intro w hSw
        (try dsimp only at hSw)
        go_simp
        (try with_reducible rfl)
      (try simp only [Act.put, List.setIfInBounds_toArray, List.set_cons_zero, List.set_cons_succ])
      refine rg_take (i := 7) (v := ?_) rfl (by kernel_rfl) (by kernel_rfl) (by kernel_rfl) (fun _ _ _ h => h) (by rfl) ?_ (by assumption) ?_
      rotate_left
      · intro w hSw
        (try dsimp only at hSw)
        go_simp
        (try with_reducible rfl)
      (try simp only [Act.put, List.setIfInBounds_toArray, List.set_cons_zero, List.set_cons_succ])
      refine rg_take (i := 8) (v := ?_) rfl (by kernel_rfl) (by kernel_rfl) (by kernel_rfl) (fun _ _ _ h => h) (by rfl) ?_ (by assumption) ?_
      rotate_left
      · intro w hSw
        (try dsimp only at hSw)
        go_simp
        (try with_reducible rfl)
      (try simp only [Act.put, List.setIfInBounds_toArray, List.set_cons_zero, List.set_cons_succ])
      refine wpAnyH_ready (rs := [9, 10]) (by kernel_rfl) (by simp) ?_
      refine AllReadyH.cons rfl (fun K hK => ?_) ?_
      · go_simp
        have F4 := Lib.hid (hp_lt M.out.2.2)
        obtain ⟨g4, hg⟩ : ∃ x, x = (World.heap wz).size := ⟨_, rfl⟩
        generalize hwy : World.alloc _ _ = wy
        rw [← hg] at F4 ⊢
        have Z4 := Lib.hid (show Rb wy g4 0 0 0 0 by rw [← hwy, hg]; exact Rb.made _ 0 0 0 0)
        have M := Lib.hid (show MQ D oa ob ca cb wB xs ys k L w w.heap.size i j p q wy by rw [← hwy]; exact M.out.alloc _)
        clear hwy hg
        refine hK.out _ _ M.out.on (fun hHeld => ?_)
        clear hK K
        (try simp only [Act.put, List.setIfInBounds_toArray, List.set_cons_zero, List.set_cons_succ])
        refine wpAnyH_ready (rs := [10]) (by kernel_rfl) (by simp) ?_
        refine AllReadyH.cons rfl (fun K hK => ?_) ?_
        · go_simp
          have F5 := Lib.hid (hp_lt M.out.2.2)
          obtain ⟨g5, hg⟩ : ∃ x, x = (World.heap wy).size := ⟨_, rfl⟩
          generalize hwy : World.alloc _ _ = wy
          rw [← hg] at F5 ⊢
          have Z5 := Lib.hid (show Rb wy g5 0 0 0 0 by rw [← hwy, hg]; exact Rb.made _ 0 0 0 0)
          have DD := Lib.hid (show g4 < g5 by rw [hg]; exact hp_lt Z4.out)
          have Z4 := Lib.hid (show Rb wy g4 0 0 0 0 by rw [← hwy]; exact Z4.out.alloc _)
          have M := Lib.hid (show MQ D oa ob ca cb wB xs ys k L w w.heap.size i j p q wy by rw [← hwy]; exact M.out.alloc _)
          clear hwy hg
          refine hK.out _ _ M.out.on (fun hHeld => ?_)
          clear hK K
          (try simp only [Act.put, List.setIfInBounds_toArray, List.set_cons_zero, List.set_cons_succ])
          refine wpAnyH_ready (rs := [11]) (by kernel_rfl) (by simp) ?_
          refine AllReadyH.cons rfl (fun K hK => ?_) ?_
          · obtain ⟨y0, y1, y2, y3⟩ := Z4.out.cells
            obtain ⟨f0, f1, f2, f3⟩ := Z4.out.froz
            go_simp
            clear y0 y1 y2 y3 f0 f1 f2 f3
            generalize hwy : World.setCell _ _ _ = wy
            have M := Lib.hid (show MQ D oa ob ca cb wB xs ys k L w w.heap.size i j p q wy by rw [← hwy]; exact M.out.set4 (Zb.of Z4.out) (by have := SZ.out; have := F4.out; omega) (by have := F4.out; omega) (by have := F4.out; omega) _ _ _ _)
            have Z5 := Lib.hid (show Rb wy g5 _ _ _ _ by rw [← hwy]; exact Z5.out.over (by have := DD.out; omega) _ _ _ _)
            have Z4 := Lib.hid (show Rb wy g4 i P p Q by rw [← hwy]; exact Z4.out.set i P p Q)
            clear hwy
            refine hK.out _ _ M.out.on (fun hHeld => ?_)
            clear hK K
            (try simp only [Act.put, List.setIfInBounds_toArray, List.set_cons_zero, List.set_cons_succ])
            refine wpAnyH_ready (rs := [12]) (by kernel_rfl) (by simp) ?_
            refine AllReadyH.cons rfl (fun K hK => ?_) ?_
            · obtain ⟨y0, y1, y2, y3⟩ := Z5.out.cells
              obtain ⟨f0, f1, f2, f3⟩ := Z5.out.froz
              go_simp
              clear y0 y1 y2 y3 f0 f1 f2 f3
              generalize hwy : World.setCell _ _ _ = wy
              have M := Lib.hid (show MQ D oa ob ca cb wB xs ys k L w w.heap.size i j p q wy by rw [← hwy]; exact M.out.set4 (Zb.of Z5.out) (by have := SZ.out; have := F5.out; omega) (by have := F5.out; omega) (by have := F5.out; omega) _ _ _ _)
              have Z4 := Lib.hid (show Rb wy g4 _ _ _ _ by rw [← hwy]; exact Z4.out.over (by have := DD.out; omega) _ _ _ _)
              have Z5 := Lib.hid (show Rb wy g5 P j1 Q q1 by rw [← hwy]; exact Z5.out.set P j1 Q q1)
              clear hwy
              refine hK.out _ _ M.out.on (fun hHeld => ?_)
              clear hK K
              (try simp only [Act.put, List.setIfInBounds_toArray, List.set_cons_zero, List.set_cons_succ])
              refine wpAnyH_done (by kernel_rfl) ?_ _
              go_wp2_with fail
              go_meet
              exact ⟨g4, g5, rfl, rfl, M.out, Z4.out, Z5.out⟩
            exact AllReadyH.nil
          exact AllReadyH.nil
        exact AllReadyH.nil
      refine AllReadyH.cons rfl (fun K hK => ?_) ?_
      · go_simp
        have F5 := Lib.hid (hp_lt M.out.2.2)
        obtain ⟨g5, hg⟩ : ∃ x, x = (World.heap wz).size := ⟨_, rfl⟩
        generalize hwy : World.alloc _ _ = wy
        rw [← hg] at F5 ⊢
        have Z5 := Lib.hid (show Rb wy g5 0 0 0 0 by rw [← hwy, hg]; exact Rb.made _ 0 0 0 0)
        have M := Lib.hid (show MQ D oa ob ca cb wB xs ys k L w w.heap.size i j p q wy by rw [← hwy]; exact M.out.alloc _)
        clear hwy hg
        refine hK.out _ _ M.out.on (fun hHeld => ?_)
        clear hK K
        (try simp only [Act.put, List.setIfInBounds_toArray, List.set_cons_zero, List.set_cons_succ])
        refine wpAnyH_ready (rs := [9]) (by kernel_rfl) (by simp) ?_
        refine AllReadyH.cons rfl (fun K hK => ?_) ?_
        · go_simp
          have F4 := Lib.hid (hp_lt M.out.2.2)
          obtain ⟨g4, hg⟩ : ∃ x, x = (World.heap wy).size := ⟨_, rfl⟩
          generalize hwy : World.alloc _ _ = wy
          rw [← hg] at F4 ⊢
          have Z4 := Lib.hid (show Rb wy g4 0 0 0 0 by rw [← hwy, hg]; exact Rb.made _ 0 0 0 0)
          have DD := Lib.hid (show g5 < g4 by rw [hg]; exact hp_lt Z5.out)
          have Z5 := Lib.hid (show Rb wy g5 0 0 0 0 by rw [← hwy]; exact Z5.out.alloc _)
          have M := Lib.hid (show MQ D oa ob ca cb wB xs ys k L w w.heap.size i j p q wy by rw [← hwy]; exact M.out.alloc _)
          clear hwy hg
          refine hK.out _ _ M.out.on (fun hHeld => ?_)
          clear hK K
          (try simp only [Act.put, List.setIfInBounds_toArray, List.set_cons_zero, List.set_cons_succ])
          refine wpAnyH_ready (rs := [11]) (by kernel_rfl) (by simp) ?_
          refine AllReadyH.cons rfl (fun K hK => ?_) ?_
          · obtain ⟨y0, y1, y2, y3⟩ := Z4.out.cells
            obtain ⟨f0, f1, f2, f3⟩ := Z4.out.froz
            go_simp
            clear y0 y1 y2 y3 f0 f1 f2 f3
            generalize hwy : World.setCell _ _ _ = wy
            have M := Lib.hid (show MQ D oa ob ca cb wB xs ys k L w w.heap.size i j p q wy by rw [← hwy]; exact M.out.set4 (Zb.of Z4.out) (by have := SZ.out; have := F4.out; omega) (by have := F4.out; omega) (by have := F4.out; omega) _ _ _ _)
            have Z5 := Lib.hid (show Rb wy g5 _ _ _ _ by rw [← hwy]; exact Z5.out.over (by have := DD.out; omega) _ _ _ _)
            have Z4 := Lib.hid (show Rb wy g4 i P p Q by rw [← hwy]; exact Z4.out.set i P p Q)
            clear hwy
            refine hK.out _ _ M.out.on (fun hHeld => ?_)
            clear hK K
            (try simp only [Act.put, List.setIfInBounds_toArray, List.set_cons_zero, List.set_cons_succ])
            refine wpAnyH_ready (rs := [12]) (by kernel_rfl) (by simp) ?_
            refine AllReadyH.cons rfl (fun K hK => ?_) ?_
            · obtain ⟨y0, y1, y2, y3⟩ := Z5.out.cells
              obtain ⟨f0, f1, f2, f3⟩ := Z5.out.froz
              go_simp
              clear y0 y1 y2 y3 f0 f1 f2 f3
              generalize hwy : World.setCell _ _ _ = wy
              have M := Lib.hid (show MQ D oa ob ca cb wB xs ys k L w w.heap.size i j p q wy by rw [← hwy]; exact M.out.set4 (Zb.of Z5.out) (by have := SZ.out; have := F5.out; omega) (by have := F5.out; omega) (by have := F5.out; omega) _ _ _ _)
              have Z4 := Lib.hid (show Rb wy g4 _ _ _ _ by rw [← hwy]; exact Z4.out.over (by have := DD.out; omega) _ _ _ _)
              have Z5 := Lib.hid (show Rb wy g5 P j1 Q q1 by rw [← hwy]; exact Z5.out.set P j1 Q q1)
              clear hwy
              refine hK.out _ _ M.out.on (fun hHeld => ?_)
              clear hK K
              (try simp only [Act.put, List.setIfInBounds_toArray, List.set_cons_zero, List.set_cons_succ])
              refine wpAnyH_done (by kernel_rfl) ?_ _
              go_wp2_with fail
              go_meet
              exact ⟨g4, g5, rfl, rfl, M.out, Z4.out, Z5.out⟩
            exact AllReadyH.nil
          exact AllReadyH.nil
        exact AllReadyH.nil
      exact AllReadyH.nil
    refine AllReadyH.cons rfl (fun K hK => ?_) ?_
    · go_simp
      have F4 := Lib.hid (hp_lt M.out.2.2)
      obtain ⟨g4, hg⟩ : ∃ x, x = (World.heap wn).size := ⟨_, rfl⟩
      generalize hwy : World.alloc _ _ = wy
      rw [← hg] at F4 ⊢
      have Z4 := Lib.hid (show Rb wy g4 0 0 0 0 by rw [← hwy, hg]; exact Rb.made _ 0 0 0 0)
      have M := Lib.hid (show MQ D oa ob ca cb wB xs ys k L w w.heap.size i j p q wy by rw [← hwy]; exact M.out.alloc _)
      clear hwy hg
      refine hK.out _ _ M.out.on (fun hHeld => ?_)
      clear hK K
      (try simp only [Act.put, List.setIfInBounds_toArray, List.set_cons_zero, List.set_cons_succ])
      refine wpAnyH_ready (rs := [5, 10]) (by kernel_rfl) (by simp) ?_
      refine AllReadyH.cons rfl (fun K hK => ?_) ?_
      · go_simp
        go_at_call 128
        refine (CS.out _ M.out.1).mono ?_
        rintro e wz ⟨rfl, hk5⟩
        have M := Lib.hid (M.out.below hk5)
        have Z4 := Lib.hid (Rb.stay Z4.out (Stay.below hk5))
        clear hk5
        go_wp2_with fail
        refine hK.out _ _ M.out.on (fun hHeld => ?_)
        clear hK K
        (try simp only [Act.put, List.setIfInBounds_toArray, List.set_cons_zero, List.set_cons_succ])
        refine rg_take (i := 6) (v := ?_) rfl (by kernel_rfl) (by kernel_rfl) (by kernel_rfl) (fun _ _ _ h => h) (by rfl) ?_ (by assumption) ?_
        rotate_left
        · intro w hSw
          (try dsimp only at hSw)
          go_simp
          (try with_reducible rfl)
        (try simp only [Act.put, List.setIfInBounds_toArray, List.set_cons_zero, List.set_cons_succ])
        refine rg_take (i := 7) (v := ?_) rfl (by kernel_rfl) (by kernel_rfl) (by kernel_rfl) (fun _ _ _ h => h) (by rfl) ?_ (by assumption) ?_
        rotate_left
        · intro w hSw
          (try dsimp only at hSw)
          go_simp
          (try with_reducible rfl)
        (try simp only [Act.put, List.setIfInBounds_toArray, List.set_cons_zero, List.set_cons_succ])
        refine rg_take (i := 8) (v := ?_) rfl (by kernel_rfl) (by kernel_rfl) (by kernel_rfl) (fun _ _ _ h => h) (by rfl) ?_ (by assumption) ?_
        rotate_left
        · intro w hSw
          (try dsimp only at hSw)
          go_simp
          (try with_reducible rfl)
        (try simp only [Act.put, List.setIfInBounds_toArray, List.set_cons_zero, List.set_cons_succ])
        refine wpAnyH_ready (rs := [10]) (by kernel_rfl) (by simp) ?_
        refine AllReadyH.cons rfl (fun K hK => ?_) ?_
        · go_simp
          have F5 := Lib.hid (hp_lt M.out.2.2)
          obtain ⟨g5, hg⟩ : ∃ x, x = (World.heap wz).size := ⟨_, rfl⟩
          generalize hwy : World.alloc _ _ = wy
          rw [← hg] at F5 ⊢
          have Z5 := Lib.hid (show Rb wy g5 0 0 0 0 by rw [← hwy, hg]; exact Rb.made _ 0 0 0 0)
          have DD := Lib.hid (show g4 < g5 by rw [hg]; exact hp_lt Z4.out)
          have Z4 := Lib.hid (show Rb wy g4 0 0 0 0 by rw [← hwy]; exact Z4.out.alloc _)
          have M := Lib.hid (show MQ D oa ob ca cb wB xs ys k L w w.heap.size i j p q wy by rw [← hwy]; exact M.out.alloc _)
          clear hwy hg
          refine hK.out _ _ M.out.on (fun hHeld => ?_)
          clear hK K
          (try simp only [Act.put, List.setIfInBounds_toArray, List.set_cons_zero, List.set_cons_succ])
          refine wpAnyH_ready (rs := [11]) (by kernel_rfl) (by simp) ?_
          refine AllReadyH.cons rfl (fun K hK => ?_) ?_
          · obtain ⟨y0, y1, y2, y3⟩ := Z4.out.cells
            obtain ⟨f0, f1, f2, f3⟩ := Z4.out.froz
            go_simp
            clear y0 y1 y2 y3 f0 f1 f2 f3
            generalize hwy : World.setCell _ _ _ = wy
            have M := Lib.hid (show MQ D oa ob ca cb wB xs ys k L w w.heap.size i j p q wy by rw [← hwy]; exact M.out.set4 (Zb.of Z4.out) (by have := SZ.out; have := F4.out; omega) (by have := F4.out; omega) (by have := F4.out; omega) _ _ _ _)
            have Z5 := Lib.hid (show Rb wy g5 _ _ _ _ by rw [← hwy]; exact Z5.out.over (by have := DD.out; omega) _ _ _ _)
            have Z4 := Lib.hid (show Rb wy g4 i P p Q by rw [← hwy]; exact Z4.out.set i P p Q)
            clear hwy
            refine hK.out _ _ M.out.on (fun hHeld => ?_)
            clear hK K
            (try simp only [Act.put, List.setIfInBounds_toArray, List.set_cons_zero, List.set_cons_succ])
            refine wpAnyH_ready (rs := [12]) (by kernel_rfl) (by simp) ?_
            refine AllReadyH.cons rfl (fun K hK => ?_) ?_
            · obtain ⟨y0, y1, y2, y3⟩ := Z5.out.cells
              obtain ⟨f0, f1, f2, f3⟩ := Z5.out.froz
              go_simp
              clear y0 y1 y2 y3 f0 f1 f2 f3
              generalize hwy : World.setCell _ _ _ = wy
              have M := Lib.hid (show MQ D oa ob ca cb wB xs ys k L w w.heap.size i j p q wy by rw [← hwy]; exact M.out.set4 (Zb.of Z5.out) (by have := SZ.out; have := F5.out; omega) (by have := F5.out; omega) (by have := F5.out; omega) _ _ _ _)
              have Z4 := Lib.hid (show Rb wy g4 _ _ _ _ by rw [← hwy]; exact Z4.out.over (by have := DD.out; omega) _ _ _ _)
              have Z5 := Lib.hid (show Rb wy g5 P j1 Q q1 by rw [← hwy]; exact Z5.out.set P j1 Q q1)
              clear hwy
              refine hK.out _ _ M.out.on (fun hHeld => ?_)
              clear hK K
              (try simp only [Act.put, List.setIfInBounds_toArray, List.set_cons_zero, List.set_cons_succ])
              refine wpAnyH_done (by kernel_rfl) ?_ _
              go_wp2_with fail
              go_meet
              exact ⟨g4, g5, rfl, rfl, M.out, Z4.out, Z5.out⟩
            exact AllReadyH.nil
          exact AllReadyH.nil
        exact AllReadyH.nil
      refine AllReadyH.cons rfl (fun K hK => ?_) ?_
      · go_simp
        have F5 := Lib.hid (hp_lt M.out.2.2)
        obtain ⟨g5, hg⟩ : ∃ x, x = (World.heap wy).size := ⟨_, rfl⟩
        generalize hwy : World.alloc _ _ = wy
        rw [← hg] at F5 ⊢
        have Z5 := Lib.hid (show Rb wy g5 0 0 0 0 by rw [← hwy, hg]; exact Rb.made _ 0 0 0 0)
        have DD := Lib.hid (show g4 < g5 by rw [hg]; exact hp_lt Z4.out)
        have Z4 := Lib.hid (show Rb wy g4 0 0 0 0 by rw [← hwy]; exact Z4.out.alloc _)
        have M := Lib.hid (show MQ D oa ob ca cb wB xs ys k L w w.heap.size i j p q wy by rw [← hwy]; exact M.out.alloc _)
        clear hwy hg
        refine hK.out _ _ M.out.on (fun hHeld => ?_)
        clear hK K
        (try simp only [Act.put, List.setIfInBounds_toArray, List.set_cons_zero, List.set_cons_succ])
        refine wpAnyH_ready (rs := [5]) (by kernel_rfl) (by simp) ?_
        refine AllReadyH.cons rfl (fun K hK => ?_) ?_
        · go_simp
          go_at_call 128
          refine (CS.out _ M.out.1).mono ?_
          rintro e wz ⟨rfl, hk5⟩
          have M := Lib.hid (M.out.below hk5)
          have Z4 := Lib.hid (Rb.stay Z4.out (Stay.below hk5))
          have Z5 := Lib.hid (Rb.stay Z5.out (Stay.below hk5))
          clear hk5
          go_wp2_with fail
          refine hK.out _ _ M.out.on (fun hHeld => ?_)
          clear hK K
          (try simp only [Act.put, List.setIfInBounds_toArray, List.set_cons_zero, List.set_cons_succ])
          refine rg_take (i := 6) (v := ?_) rfl (by kernel_rfl) (by kernel_rfl) (by kernel_rfl) (fun _ _ _ h => h) (by rfl) ?_ (by assumption) ?_
          rotate_left
          · intro w hSw
            (try dsimp only at hSw)
            go_simp
            (try with_reducible rfl)
          (try simp only [Act.put, List.setIfInBounds_toArray, List.set_cons_zero, List.set_cons_succ])
          refine rg_take (i := 7) (v := ?_) rfl (by kernel_rfl) (by kernel_rfl) (by kernel_rfl) (fun _ _ _ h => h) (by rfl) ?_ (by assumption) ?_
          rotate_left
          · intro w hSw
            (try dsimp only at hSw)
            go_simp
            (try with_reducible rfl)
          (try simp only [Act.put, List.setIfInBounds_toArray, List.set_cons_zero, List.set_cons_succ])
          refine rg_take (i := 8) (v := ?_) rfl (by kernel_rfl) (by kernel_rfl) (by kernel_rfl) (fun _ _ _ h => h) (by rfl) ?_ (by assumption) ?_
          rotate_left
          · intro w hSw
            (try dsimp only at hSw)
            go_simp
            (try with_reducible rfl)
          (try simp only [Act.put, List.setIfInBounds_toArray, List.set_cons_zero, List.set_cons_succ])
          refine wpAnyH_ready (rs := [11]) (by kernel_rfl) (by simp) ?_
          refine AllReadyH.cons rfl (fun K hK => ?_) ?_
          · obtain ⟨y0, y1, y2, y3⟩ := Z4.out.cells
            obtain ⟨f0, f1, f2, f3⟩ := Z4.out.froz
            go_simp
            clear y0 y1 y2 y3 f0 f1 f2 f3
            generalize hwy : World.setCell _ _ _ = wy
            have M := Lib.hid (show MQ D oa ob ca cb wB xs ys k L w w.heap.size i j p q wy by rw [← hwy]; exact M.out.set4 (Zb.of Z4.out) (by have := SZ.out; have := F4.out; omega) (by have := F4.out; omega) (by have := F4.out; omega) _ _ _ _)
            have Z5 := Lib.hid (show Rb wy g5 _ _ _ _ by rw [← hwy]; exact Z5.out.over (by have := DD.out; omega) _ _ _ _)
            have Z4 := Lib.hid (show Rb wy g4 i P p Q by rw [← hwy]; exact Z4.out.set i P p Q)
            clear hwy
            refine hK.out _ _ M.out.on (fun hHeld => ?_)
            clear hK K
            (try simp only [Act.put, List.setIfInBounds_toArray, List.set_cons_zero, List.set_cons_succ])
            refine wpAnyH_ready (rs := [12]) (by kernel_rfl) (by simp) ?_
            refine AllReadyH.cons rfl (fun K hK => ?_) ?_
            · obtain ⟨y0, y1, y2, y3⟩ := Z5.out.cells
              obtain ⟨f0, f1, f2, f3⟩ := Z5.out.froz
              go_simp
              clear y0 y1 y2 y3 f0 f1 f2 f3
              generalize hwy : World.setCell _ _ _ = wy
              have M := Lib.hid (show MQ D oa ob ca cb wB xs ys k L w w.heap.size i j p q wy by rw [← hwy]; exact M.out.set4 (Zb.of Z5.out) (by have := SZ.out; have := F5.out; omega) (by have := F5.out; omega) (by have := F5.out; omega) _ _ _ _)
              have Z4 := Lib.hid (show Rb wy g4 _ _ _ _ by rw [← hwy]; exact Z4.out.over (by have := DD.out; omega) _ _ _ _)
              have Z5 := Lib.hid (show Rb wy g5 P j1 Q q1 by rw [← hwy]; exact Z5.out.set P j1 Q q1)
              clear hwy
              refine hK.out _ _ M.out.on (fun hHeld => ?_)
              clear hK K
              (try simp only [Act.put, List.setIfInBounds_toArray, List.set_cons_zero, List.set_cons_succ])
              refine wpAnyH_done (by kernel_rfl) ?_ _
              go_wp2_with fail
              go_meet
              exact ⟨g4, g5, rfl, rfl, M.out, Z4.out, Z5.out⟩
            exact AllReadyH.nil
          exact AllReadyH.nil
        exact AllReadyH.nil
      exact AllReadyH.nil
    refine AllReadyH.cons rfl (fun K hK => ?_) ?_
    · go_simp
      have F5 := Lib.hid (hp_lt M.out.2.2)
      obtain ⟨g5, hg⟩ : ∃ x, x = (World.heap wn).size := ⟨_, rfl⟩
      generalize hwy : World.alloc _ _ = wy
      rw [← hg] at F5 ⊢
      have Z5 := Lib.hid (show Rb wy g5 0 0 0 0 by rw [← hwy, hg]; exact Rb.made _ 0 0 0 0)
      have M := Lib.hid (show MQ D oa ob ca cb wB xs ys k L w w.heap.size i j p q wy by rw [← hwy]; exact M.out.alloc _)
      clear hwy hg
      refine hK.out _ _ M.out.on (fun hHeld => ?_)
      clear hK K
      (try simp only [Act.put, List.setIfInBounds_toArray, List.set_cons_zero, List.set_cons_succ])
      refine wpAnyH_ready (rs := [5, 9]) (by kernel_rfl) (by simp) ?_
      refine AllReadyH.cons rfl (fun K hK => ?_) ?_
      · go_simp
        go_at_call 128
        refine (CS.out _ M.out.1).mono ?_
        rintro e wz ⟨rfl, hk5⟩
        have M := Lib.hid (M.out.below hk5)
        have Z5 := Lib.hid (Rb.stay Z5.out (Stay.below hk5))
        clear hk5
        go_wp2_with fail
        refine hK.out _ _ M.out.on (fun hHeld => ?_)
        clear hK K
        (try simp only [Act.put, List.setIfInBounds_toArray, List.set_cons_zero, List.set_cons_succ])
        refine rg_take (i := 6) (v := ?_) rfl (by kernel_rfl) (by kernel_rfl) (by kernel_rfl) (fun _ _ _ h => h) (by rfl) ?_ (by assumption) ?_
        rotate_left
        · intro w hSw
          (try dsimp only at hSw)
          go_simp
          (try with_reducible rfl)
        (try simp only [Act.put, List.setIfInBounds_toArray, List.set_cons_zero, List.set_cons_succ])
        refine rg_take (i := 7) (v := ?_) rfl (by kernel_rfl) (by kernel_rfl) (by kernel_rfl) (fun _ _ _ h => h) (by rfl) ?_ (by assumption) ?_
        rotate_left
        · intro w hSw
          (try dsimp only at hSw)
          go_simp
          (try with_reducible rfl)
        (try simp only [Act.put, List.setIfInBounds_toArray, List.set_cons_zero, List.set_cons_succ])
        refine rg_take (i := 8) (v := ?_) rfl (by kernel_rfl) (by kernel_rfl) (by kernel_rfl) (fun _ _ _ h => h) (by rfl) ?_ (by assumption) ?_
        rotate_left
        · intro w hSw
          (try dsimp only at hSw)
          go_simp
          (try with_reducible rfl)
        (try simp only [Act.put, List.setIfInBounds_toArray, List.set_cons_zero, List.set_cons_succ])
        refine wpAnyH_ready (rs := [9]) (by kernel_rfl) (by simp) ?_
        refine AllReadyH.cons rfl (fun K hK => ?_) ?_
        · go_simp
          have F4 := Lib.hid (hp_lt M.out.2.2)
          obtain ⟨g4, hg⟩ : ∃ x, x = (World.heap wz).size := ⟨_, rfl⟩
          generalize hwy : World.alloc _ _ = wy
          rw [← hg] at F4 ⊢
          have Z4 := Lib.hid (show Rb wy g4 0 0 0 0 by rw [← hwy, hg]; exact Rb.made _ 0 0 0 0)
          have DD := Lib.hid (show g5 < g4 by rw [hg]; exact hp_lt Z5.out)
          have Z5 := Lib.hid (show Rb wy g5 0 0 0 0 by rw [← hwy]; exact Z5.out.alloc _)
          have M := Lib.hid (show MQ D oa ob ca cb wB xs ys k L w w.heap.size i j p q wy by rw [← hwy]; exact M.out.alloc _)
          clear hwy hg
          refine hK.out _ _ M.out.on (fun hHeld => ?_)
          clear hK K
          (try simp only [Act.put, List.setIfInBounds_toArray, List.set_cons_zero, List.set_cons_succ])
          refine wpAnyH_ready (rs := [11]) (by kernel_rfl) (by simp) ?_
          refine AllReadyH.cons rfl (fun K hK => ?_) ?_
          · obtain ⟨y0, y1, y2, y3⟩ := Z4.out.cells
            obtain ⟨f0, f1, f2, f3⟩ := Z4.out.froz
            go_simp
            clear y0 y1 y2 y3 f0 f1 f2 f3
            generalize hwy : World.setCell _ _ _ = wy
            have M := Lib.hid (show MQ D oa ob ca cb wB xs ys k L w w.heap.size i j p q wy by rw [← hwy]; exact M.out.set4 (Zb.of Z4.out) (by have := SZ.out; have := F4.out; omega) (by have := F4.out; omega) (by have := F4.out; omega) _ _ _ _)
            have Z5 := Lib.hid (show Rb wy g5 _ _ _ _ by rw [← hwy]; exact Z5.out.over (by have := DD.out; omega) _ _ _ _)
            have Z4 := Lib.hid (show Rb wy g4 i P p Q by rw [← hwy]; exact Z4.out.set i P p Q)
            clear hwy
            refine hK.out _ _ M.out.on (fun hHeld => ?_)
            clear hK K
            (try simp only [Act.put, List.setIfInBounds_toArray, List.set_cons_zero, List.set_cons_succ])
            refine wpAnyH_ready (rs := [12]) (by kernel_rfl) (by simp) ?_
            refine AllReadyH.cons rfl (fun K hK => ?_) ?_
            · obtain ⟨y0, y1, y2, y3⟩ := Z5.out.cells
              obtain ⟨f0, f1, f2, f3⟩ := Z5.out.froz
              go_simp
              clear y0 y1 y2 y3 f0 f1 f2 f3
              generalize hwy : World.setCell _ _ _ = wy
              have M := Lib.hid (show MQ D oa ob ca cb wB xs ys k L w w.heap.size i j p q wy by rw [← hwy]; exact M.out.set4 (Zb.of Z5.out) (by have := SZ.out; have := F5.out; omega) (by have := F5.out; omega) (by have := F5.out; omega) _ _ _ _)
              have Z4 := Lib.hid (show Rb wy g4 _ _ _ _ by rw [← hwy]; exact Z4.out.over (by have := DD.out; omega) _ _ _ _)
              have Z5 := Lib.hid (show Rb wy g5 P j1 Q q1 by rw [← hwy]; exact Z5.out.set P j1 Q q1)
              clear hwy
              refine hK.out _ _ M.out.on (fun hHeld => ?_)
              clear hK K
              (try simp only [Act.put, List.setIfInBounds_toArray, List.set_cons_zero, List.set_cons_succ])
              refine wpAnyH_done (by kernel_rfl) ?_ _
              go_wp2_with fail
              go_meet
              exact ⟨g4, g5, rfl, rfl, M.out, Z4.out, Z5.out⟩
            exact AllReadyH.nil
          exact AllReadyH.nil
        exact AllReadyH.nil
      refine AllReadyH.cons rfl (fun K hK => ?_) ?_
      · go_simp
        have F4 := Lib.hid (hp_lt M.out.2.2)
        obtain ⟨g4, hg⟩ : ∃ x, x = (World.heap wy).size := ⟨_, rfl⟩
        generalize hwy : World.alloc _ _ = wy
        rw [← hg] at F4 ⊢
        have Z4 := Lib.hid (show Rb wy g4 0 0 0 0 by rw [← hwy, hg]; exact Rb.made _ 0 0 0 0)
        have DD := Lib.hid (show g5 < g4 by rw [hg]; exact hp_lt Z5.out)
        have Z5 := Lib.hid (show Rb wy g5 0 0 0 0 by rw [← hwy]; exact Z5.out.alloc _)
        have M := Lib.hid (show MQ D oa ob ca cb wB xs ys k L w w.heap.size i j p q wy by rw [← hwy]; exact M.out.alloc _)
        clear hwy hg
        refine hK.out _ _ M.out.on (fun hHeld => ?_)
        clear hK K
        (try simp only [Act.put, List.setIfInBounds_toArray, List.set_cons_zero, List.set_cons_succ])
        refine wpAnyH_ready (rs := [5]) (by kernel_rfl) (by simp) ?_
        refine AllReadyH.cons rfl (fun K hK => ?_) ?_
        · go_simp
          go_at_call 128
          refine (CS.out _ M.out.1).mono ?_
          rintro e wz ⟨rfl, hk5⟩
          have M := Lib.hid (M.out.below hk5)
          have Z4 := Lib.hid (Rb.stay Z4.out (Stay.below hk5))
          have Z5 := Lib.hid (Rb.stay Z5.out (Stay.below hk5))
          clear hk5
          go_wp2_with fail
          refine hK.out _ _ M.out.on (fun hHeld => ?_)
          clear hK K
          (try simp only [Act.put, List.setIfInBounds_toArray, List.set_cons_zero, List.set_cons_succ])
          refine rg_take (i := 6) (v := ?_) rfl (by kernel_rfl) (by kernel_rfl) (by kernel_rfl) (fun _ _ _ h => h) (by rfl) ?_ (by assumption) ?_
          rotate_left
          · intro w hSw
            (try dsimp only at hSw)
            go_simp
            (try with_reducible rfl)
          (try simp only [Act.put, List.setIfInBounds_toArray, List.set_cons_zero, List.set_cons_succ])
          refine rg_take (i := 7) (v := ?_) rfl (by kernel_rfl) (by kernel_rfl) (by kernel_rfl) (fun _ _ _ h => h) (by rfl) ?_ (by assumption) ?_
          rotate_left
          · intro w hSw
            (try dsimp only at hSw)
            go_simp
            (try with_reducible rfl)
          (try simp only [Act.put, List.setIfInBounds_toArray, List.set_cons_zero, List.set_cons_succ])
          refine rg_take (i := 8) (v := ?_) rfl (by kernel_rfl) (by kernel_rfl) (by kernel_rfl) (fun _ _ _ h => h) (by rfl) ?_ (by assumption) ?_
          rotate_left
          · intro w hSw
            (try dsimp only at hSw)
            go_simp
            (try with_reducible rfl)
          (try simp only [Act.put, List.setIfInBounds_toArray, List.set_cons_zero, List.set_cons_succ])
          refine wpAnyH_ready (rs := [11]) (by kernel_rfl) (by simp) ?_
          refine AllReadyH.cons rfl (fun K hK => ?_) ?_
          · obtain ⟨y0, y1, y2, y3⟩ := Z4.out.cells
            obtain ⟨f0, f1, f2, f3⟩ := Z4.out.froz
            go_simp
            clear y0 y1 y2 y3 f0 f1 f2 f3
            generalize hwy : World.setCell _ _ _ = wy
            have M := Lib.hid (show MQ D oa ob ca cb wB xs ys k L w w.heap.size i j p q wy by rw [← hwy]; exact M.out.set4 (Zb.of Z4.out) (by have := SZ.out; have := F4.out; omega) (by have := F4.out; omega) (by have := F4.out; omega) _ _ _ _)
            have Z5 := Lib.hid (show Rb wy g5 _ _ _ _ by rw [← hwy]; exact Z5.out.over (by have := DD.out; omega) _ _ _ _)
            have Z4 := Lib.hid (show Rb wy g4 i P p Q by rw [← hwy]; exact Z4.out.set i P p Q)
            clear hwy
            refine hK.out _ _ M.out.on (fun hHeld => ?_)
            clear hK K
            (try simp only [Act.put, List.setIfInBounds_toArray, List.set_cons_zero, List.set_cons_succ])
            refine wpAnyH_ready (rs := [12]) (by kernel_rfl) (by simp) ?_
            refine AllReadyH.cons rfl (fun K hK => ?_) ?_
            · obtain ⟨y0, y1, y2, y3⟩ := Z5.out.cells
              obtain ⟨f0, f1, f2, f3⟩ := Z5.out.froz
              go_simp
              clear y0 y1 y2 y3 f0 f1 f2 f3
              generalize hwy : World.setCell _ _ _ = wy
              have M := Lib.hid (show MQ D oa ob ca cb wB xs ys k L w w.heap.size i j p q wy by rw [← hwy]; exact M.out.set4 (Zb.of Z5.out) (by have := SZ.out; have := F5.out; omega) (by have := F5.out; omega) (by have := F5.out; omega) _ _ _ _)
              have Z4 := Lib.hid (show Rb wy g4 _ _ _ _ by rw [← hwy]; exact Z4.out.over (by have := DD.out; omega) _ _ _ _)
              have Z5 := Lib.hid (show Rb wy g5 P j1 Q q1 by rw [← hwy]; exact Z5.out.set P j1 Q q1)
              clear hwy
              refine hK.out _ _ M.out.on (fun hHeld => ?_)
              clear hK K
              (try simp only [Act.put, List.setIfInBounds_toArray, List.set_cons_zero, List.set_cons_succ])
              refine wpAnyH_done (by kernel_rfl) ?_ _
              go_wp2_with fail
              go_meet
              exact ⟨g4, g5, rfl, rfl, M.out, Z4.out, Z5.out⟩
            exact AllReadyH.nil
          exact AllReadyH.nil
        exact AllReadyH.nil
      exact AllReadyH.nil
    exact AllReadyH.nil
  case rest =>
    obtain ⟨g4, g5, rfl, rfl, hM, hb4, hb5⟩ := hcut
    have M := Lib.hid hM
    have Z5 := Lib.hid hb5
    obtain ⟨y0, y1, y2, y3⟩ := hb4.cells
    clear hM hb4 hb5
    go_wp2_with fail
    clear y0 y1 y2 y3
    refine (CA.out _ M.out.1).mono ?_
    rintro e w6 ⟨rfl, hT6, hS6⟩
    have G6 := Lib.hid hT6
    have R6 := Lib.hid (M.out.2.2.stay hS6)
    have Z5 := Lib.hid (Z5.out.stay hS6)
    have S6 := Lib.hid (M.out.2.1.trans hS6)
    clear hT6 hS6
    go_wp2_with fail
    obtain ⟨wn, hwn⟩ : ∃ x, x = w6.drew := ⟨_, rfl⟩
    have GN := Lib.hid (show TG D oa ob ca cb wB xs ys k (L ++ Bm.go (Bm.cP xs ys) xs ys k i P p Q) wn by rw [hwn]; exact G6.out.drawn (Drawn.refl _).drew)
    have RN := Lib.hid (show Rb wn w.heap.size i j p q by rw [hwn]; exact R6.out.drawn (Drawn.refl _).drew)
    have Z5 := Lib.hid (show Rb wn g5 P j1 Q q1 by rw [hwn]; exact Z5.out.drawn (Drawn.refl _).drew)
    have SN := Lib.hid (show Stay w wn by rw [hwn]; exact S6.out.trans (Stay.below (Drawn.refl _).drew.toBelow))
    have X6 := Lib.hid (tr_six0 GN.out RN.out (j1 := j1) (q1 := q1) BJ.out.1 BJ.out.2)
    obtain ⟨pv, hpv, hown⟩ := GN.out.ht
    have HP := Lib.hid hpv
    have HO := Lib.hid hown
    obtain ⟨L1, hL1⟩ : ∃ x, x = L ++ Bm.go (Bm.cP xs ys) xs ys k i P p Q := ⟨_, rfl⟩
    rw [← hL1] at GN HO
    have HL1 := Lib.hid hL1
    have HLN := Lib.hid (show L1.length + 1 + (q1 - Q) ≤ 1000 by rw [hL1, List.length_append]; have := LA.out; have := LL.out; have := BD.out; have := EQ.out; omega)
    have a1 : IntKind.i64.wrap ((j : Int) - 1) = (j1 : Int) := by have := EJ.out; have := I24.out; rw [Kit.w64 (by omega) (by omega)]; omega
    have a2 : IntKind.i64.wrap ((q : Int) - 1) = (q1 : Int) := by have := EQ.out; have := I24.out; rw [Kit.w64 (by omega) (by omega)]; omega
    have k1 : (0 : Int) ≤ (j1 : Int) := by omega
    have k2 : (j1 : Int) < (xs.length : Int) := by have := BJ.out; omega
    have k3 : (0 : Int) ≤ (q1 : Int) := by omega
    have k4 : (q1 : Int) < (ys.length : Int) := by have := BJ.out; omega
    clear hpv hown hL1
    refine wp_region_held_drew (S := (fun wq => wq.cell? ⟨wB.heap.size, 1, none⟩ = some (.slice (some oa) xs.length ca) ∧ wq.cell? ⟨wB.heap.size, 2, none⟩ = some (.slice (some ob) ys.length cb) ∧ wq.cell? ⟨w.heap.size, 1, none⟩ = some (.int .i64 (j : Int)) ∧ wq.cell? ⟨w.heap.size, 3, none⟩ = some (.int .i64 (q : Int)) ∧ wq.cell? (oa.add j1) = some (.int .i64 (Tr.nd xs j1 : Int)) ∧ wq.cell? (ob.add q1) = some (.int .i64 (Tr.nd ys q1 : Int)))) (by kernel_rfl) (by rw [← hwn]; exact X6.out) (fun hHeld => ?_)
    rw [← hwn] at hHeld ⊢
    clear hwn
    refine rg_take (i := 0) (v := ?_) rfl (by kernel_rfl) (by kernel_rfl) (by kernel_rfl) (fun _ _ _ h => h) (by rfl) ?_ (by assumption) ?_
    rotate_left
    · intro w hSw
      (try dsimp only at hSw)
      go_simp
      (try with_reducible rfl)
    (try simp only [Act.put, List.setIfInBounds_toArray, List.set_cons_zero, List.set_cons_succ])
    refine rg_take (i := 1) (v := ?_) rfl (by kernel_rfl) (by kernel_rfl) (by kernel_rfl) (fun _ _ _ h => h) (by rfl) ?_ (by assumption) ?_
    rotate_left
    · intro w hSw
      (try dsimp only at hSw)
      go_simp
      (try with_reducible rfl)
    (try simp only [Act.put, List.setIfInBounds_toArray, List.set_cons_zero, List.set_cons_succ])
    refine rg_take (i := 2) (v := ?_) rfl (by kernel_rfl) (by kernel_rfl) (by kernel_rfl) (fun _ _ _ h => h) (by rfl) ?_ (by assumption) ?_
    rotate_left
    · intro w hSw
      (try dsimp only at hSw)
      go_simp
      (try with_reducible rfl)
    (try simp only [Act.put, List.setIfInBounds_toArray, List.set_cons_zero, List.set_cons_succ])
    refine rg_take (i := 3) (v := ?_) rfl (by kernel_rfl) (by kernel_rfl) (by kernel_rfl) (fun _ _ _ h => h) (by rfl) ?_ (by assumption) ?_
    rotate_left
    · intro w hSw
      (try dsimp only at hSw)
      go_simp
      (try with_reducible rfl)
    (try simp only [Act.put, List.setIfInBounds_toArray, List.set_cons_zero, List.set_cons_succ])
    refine rg_take (i := 5) (v := ?_) rfl (by kernel_rfl) (by kernel_rfl) (by kernel_rfl) (fun _ _ _ h => h) (by rfl) ?_ (by assumption) ?_
    rotate_left
    · intro w hSw
      (try dsimp only at hSw)
      go_simp
      (try with_reducible rfl)
    (try simp only [Act.put, List.setIfInBounds_toArray, List.set_cons_zero, List.set_cons_succ])
    refine rg_take (i := 6) (v := ?_) rfl (by kernel_rfl) (by kernel_rfl) (by kernel_rfl) (fun _ _ _ h => h) (by rfl) ?_ (by assumption) ?_
    rotate_left
    · intro w hSw
      (try dsimp only at hSw)
      go_simp
      (try with_reducible rfl)
    (try simp only [Act.put, List.setIfInBounds_toArray, List.set_cons_zero, List.set_cons_succ])
    refine rg_take (i := 7) (v := ?_) rfl (by kernel_rfl) (by kernel_rfl) (by kernel_rfl) (fun _ _ _ h => h) (by rfl) ?_ (by assumption) ?_
    rotate_left
    · intro w hSw
      (try dsimp only at hSw)
      go_simp
      (try with_reducible rfl)
    (try simp only [Act.put, List.setIfInBounds_toArray, List.set_cons_zero, List.set_cons_succ])
    refine rg_take (i := 8) (v := ?_) rfl (by kernel_rfl) (by kernel_rfl) (by kernel_rfl) (fun _ _ _ h => h) (by rfl) ?_ (by assumption) ?_
    rotate_left
    · intro w hSw
      (try dsimp only at hSw)
      go_simp
      (try with_reducible rfl)
    (try simp only [Act.put, List.setIfInBounds_toArray, List.set_cons_zero, List.set_cons_succ])
    refine rg_take (i := 9) (v := ?_) rfl (by kernel_rfl) (by kernel_rfl) (by kernel_rfl) (fun _ _ _ h => h) (by rfl) ?_ (by assumption) ?_
    rotate_left
    · intro w hSw
      (try dsimp only at hSw)
      go_simp
      (try with_reducible rfl)
    (try simp only [Act.put, List.setIfInBounds_toArray, List.set_cons_zero, List.set_cons_succ])
    refine rg_take (i := 10) (v := ?_) rfl (by kernel_rfl) (by kernel_rfl) (by kernel_rfl) (fun _ _ _ h => h) (by rfl) ?_ (by assumption) ?_
    rotate_left
    · intro w hSw
      (try dsimp only at hSw)
      go_simp
      (try with_reducible rfl)
    (try simp only [Act.put, List.setIfInBounds_toArray, List.set_cons_zero, List.set_cons_succ])
    refine rg_take (i := 11) (v := ?_) rfl (by kernel_rfl) (by kernel_rfl) (by kernel_rfl) (fun _ _ _ h => h) (by rfl) ?_ (by assumption) ?_
    rotate_left
    · intro w hSw
      (try dsimp only at hSw)
      go_simp
      (try with_reducible rfl)
    (try simp only [Act.put, List.setIfInBounds_toArray, List.set_cons_zero, List.set_cons_succ])
    refine rg_take (i := 12) (v := ?_) rfl (by kernel_rfl) (by kernel_rfl) (by kernel_rfl) (fun _ _ _ h => h) (by rfl) ?_ (by assumption) ?_
    rotate_left
    · intro w hSw
      (try dsimp only at hSw)
      go_simp
      (try with_reducible rfl)
    (try simp only [Act.put, List.setIfInBounds_toArray, List.set_cons_zero, List.set_cons_succ])
    refine rg_take (i := 13) (v := ?_) rfl (by kernel_rfl) (by kernel_rfl) (by kernel_rfl) (fun _ _ _ h => h) (by rfl) ?_ (by assumption) ?_
    rotate_left
    · intro w hSw
      (try dsimp only at hSw)
      go_simp
      (try with_reducible rfl)
    (try simp only [Act.put, List.setIfInBounds_toArray, List.set_cons_zero, List.set_cons_succ])
    refine rg_take (i := 14) (v := ?_) rfl (by kernel_rfl) (by kernel_rfl) (by kernel_rfl) (fun _ _ _ h => h) (by rfl) ?_ (by assumption) ?_
    rotate_left
    · intro w hSw
      (try dsimp only at hSw)
      go_simp
      (try with_reducible rfl)
    (try simp only [Act.put, List.setIfInBounds_toArray, List.set_cons_zero, List.set_cons_succ])
    refine rg_take (i := 15) (v := ?_) rfl (by kernel_rfl) (by kernel_rfl) (by kernel_rfl) (fun _ _ _ h => h) (by rfl) ?_ (by assumption) ?_
    rotate_left
    · intro w hSw
      (try dsimp only at hSw)
      go_simp
      (try with_reducible rfl)
    (try simp only [Act.put, List.setIfInBounds_toArray, List.set_cons_zero, List.set_cons_succ])
    refine rg_take (i := 16) (v := ?_) rfl (by kernel_rfl) (by kernel_rfl) (by kernel_rfl) (fun _ _ _ h => h) (by rfl) ?_ (by assumption) ?_
    rotate_left
    · intro w hSw
      (try dsimp only at hSw)
      go_simp
      (try with_reducible rfl)
    (try simp only [Act.put, List.setIfInBounds_toArray, List.set_cons_zero, List.set_cons_succ])
    refine rg_take (i := 17) (v := ?_) rfl (by kernel_rfl) (by kernel_rfl) (by kernel_rfl) (fun _ _ _ h => h) (by rfl) ?_ (by assumption) ?_
    rotate_left
    · intro w hSw
      (try dsimp only at hSw)
      go_simp
      (try with_reducible rfl)
    (try simp only [Act.put, List.setIfInBounds_toArray, List.set_cons_zero, List.set_cons_succ])
    refine rg_take (i := 18) (v := ?_) rfl (by kernel_rfl) (by kernel_rfl) (by kernel_rfl) (fun _ _ _ h => h) (by rfl) ?_ (by assumption) ?_
    rotate_left
    · intro w hSw
      (try dsimp only at hSw)
      go_simp
      (try with_reducible rfl)
    (try simp only [Act.put, List.setIfInBounds_toArray, List.set_cons_zero, List.set_cons_succ])
    refine rg_take (i := 19) (v := ?_) rfl (by kernel_rfl) (by kernel_rfl) (by kernel_rfl) (fun _ _ _ h => h) (by rfl) ?_ (by assumption) ?_
    rotate_left
    · intro w hSw
      (try dsimp only at hSw)
      go_simp
      (try with_reducible rfl)
    (try simp only [Act.put, List.setIfInBounds_toArray, List.set_cons_zero, List.set_cons_succ])
    refine rg_take (i := 20) (v := ?_) rfl (by kernel_rfl) (by kernel_rfl) (by kernel_rfl) (fun _ _ _ h => h) (by rfl) ?_ (by assumption) ?_
    rotate_left
    · intro w hSw
      (try dsimp only at hSw)
      go_simp
      (try with_reducible rfl)
    (try simp only [Act.put, List.setIfInBounds_toArray, List.set_cons_zero, List.set_cons_succ])
    refine rg_take (i := 21) (v := ?_) rfl (by kernel_rfl) (by kernel_rfl) (by kernel_rfl) (fun _ _ _ h => h) (by rfl) ?_ (by assumption) ?_
    rotate_left
    · intro w hSw
      (try dsimp only at hSw)
      go_simp
      (try with_reducible rfl)
    (try simp only [Act.put, List.setIfInBounds_toArray, List.set_cons_zero, List.set_cons_succ])
    refine rg_take (i := 22) (v := ?_) rfl (by kernel_rfl) (by kernel_rfl) (by kernel_rfl) (fun _ _ _ h => h) (by rfl) ?_ (by assumption) ?_
    rotate_left
    · intro w hSw
      (try dsimp only at hSw)
      go_simp
      (try with_reducible rfl)
    (try simp only [Act.put, List.setIfInBounds_toArray, List.set_cons_zero, List.set_cons_succ])
    refine rg_take (i := 23) (v := ?_) rfl (by kernel_rfl) (by kernel_rfl) (by kernel_rfl) (fun _ _ _ h => h) (by rfl) ?_ (by assumption) ?_
    rotate_left
    · intro w hSw
      (try dsimp only at hSw)
      go_simp
      (try with_reducible rfl)
    (try simp only [Act.put, List.setIfInBounds_toArray, List.set_cons_zero, List.set_cons_succ])
    refine wpAnyH_ready (rs := [4, 24]) (by kernel_rfl) (by simp) ?_
    refine AllReadyH.cons rfl (fun K hK => ?_) ?_
    · have x3 := hp_cell (o := 3) (v := pv) HP.out rfl
      go_simp
      clear x3
      refine hK.out _ _ hHeld (fun hHeld => ?_)
      clear hK K
      (try simp only [Act.put, List.setIfInBounds_toArray, List.set_cons_zero, List.set_cons_succ])
      refine wpAnyH_ready (rs := [24]) (by kernel_rfl) (by simp) ?_
      refine AllReadyH.cons rfl (fun K hK => ?_) ?_
      · go_simp
        refine hK.out _ _ (tr_six0 (GN.out.below ((Below.refl _ _).alloc (Nat.le_refl _) _)) (RN.out.alloc _) BJ.out.1 BJ.out.2) (fun hHeld => ?_)
        clear hK K
        (try simp only [Act.put, List.setIfInBounds_toArray, List.set_cons_zero, List.set_cons_succ])
        refine wpAnyH_ready (rs := [25]) (by kernel_rfl) (by simp) ?_
        refine AllReadyH.cons rfl (fun K hK => ?_) ?_
        · refine step_append_pair wn rfl _ _ 36 rfl (wB.heap.size + 1) 124 i0 Try.underlying36 hi hz0 hz1 hz2 pv L1.length L1 rfl HO.out rfl (Tr.nd xs j1 : Int) (Tr.nd ys q1 : Int) rfl (by have := HLN.out; omega) (by have := GN.out.len; omega) ?_
          intro v' w8 hown8 hgrow8
          obtain ⟨L2, hL2⟩ : ∃ x, x = L1 ++ [((Tr.nd xs j1 : Int), (Tr.nd ys q1 : Int))] := ⟨_, rfl⟩
          rw [← hL2] at hown8
          have HL2 := Lib.hid hL2
          clear hL2
          obtain ⟨A8, c8, rfl⟩ := own_slice hown8
          have HG8 := Lib.hid ((World.grownBy_alloc wn (.cells #[.int .i64 (Tr.nd xs j1 : Int), .int .i64 (Tr.nd ys q1 : Int)] 124) pv.ownBlock).trans hgrow8)
          have HO8 := Lib.hid hown8
          clear hown8 hgrow8
          refine hK.out _ _ (tr_six GN.out RN.out HO.out HG8.out BJ.out.1 BJ.out.2) (fun hHeld => ?_)
          clear hK K
          refine rg_take (i := 26) (v := ?_) rfl (by kernel_rfl) (by kernel_rfl) (by kernel_rfl) (fun _ _ _ h => h) (by rfl) ?_ (by assumption) ?_
          rotate_left
          · intro w hSw
            (try dsimp only at hSw)
            go_simp
            (try with_reducible rfl)
          (try simp only [Act.put, List.setIfInBounds_toArray])
          refine rg_take (i := 27) (v := ?_) rfl (by kernel_rfl) (by kernel_rfl) (by kernel_rfl) (fun _ _ _ h => h) (by rfl) ?_ (by assumption) ?_
          rotate_left
          · intro w hSw
            (try dsimp only at hSw)
            go_simp
            (try with_reducible rfl)
          (try simp only [Act.put])
          refine wpAnyH_ready (rs := [28]) (by kernel_rfl) (by simp) ?_
          refine AllReadyH.cons rfl (fun K hK => ?_) ?_
          · have HP8 := Lib.hid ((HG8.out.block _ (hp_lt HP.out) (fun e => by have := (HO.out.lt _ e.symm).1; omega)).trans HP.out)
            have x3 := hp_cell (o := 3) (v := pv) HP8.out rfl
            have f3 := hp_frozen (o := 3) HP8.out
            go_simp
            clear x3 f3
            obtain ⟨hG9, hS9⟩ := GN.out.app HP.out HO.out HG8.out HO8.out
            have G9 := Lib.hid hG9
            have S9 := Lib.hid hS9
            clear hG9 hS9
            refine hK.out _ _ (tr_six0 G9.out (RN.out.stay S9.out) BJ.out.1 BJ.out.2) (fun hHeld => ?_)
            clear hK K
            (try simp only [Act.put, List.setIfInBounds_toArray, List.set_cons_zero, List.set_cons_succ])
            refine wpAnyH_done (by kernel_rfl) ?_ _
            generalize hwx : World.setCell w8 _ _ = wx at G9 S9 ⊢
            clear hwx
            obtain ⟨y0, y1, y2, y3⟩ := (Z5.out.stay S9.out).cells
            go_wp2_with fail
            clear y0 y1 y2 y3
            refine (CB.out _ _ (by have := HLN.out; rw [HL2.out, List.length_append, List.length_singleton]; exact this) G9.out).mono ?_
            rintro e w9 ⟨rfl, hT9, hS8⟩
            have FT := Lib.hid (show TG D oa ob ca cb wB xs ys k (L ++ Bm.mt (Bm.cP xs ys) xs ys k i j p q) w9 by rw [← EM.out, ← HL1.out, ← HL2.out]; exact hT9)
            have FS := Lib.hid ((SN.out.trans S9.out).trans hS8)
            clear hT9 hS8
            go_wp2
            refine bodyPost_end (results_none rfl _ _ _) rfl ?_
            exact ⟨rfl, FT.out, FS.out⟩
          exact AllReadyH.nil
        exact AllReadyH.nil
      exact AllReadyH.nil
    refine AllReadyH.cons rfl (fun K hK => ?_) ?_
    · go_simp
      refine hK.out _ _ (tr_six0 (GN.out.below ((Below.refl _ _).alloc (Nat.le_refl _) _)) (RN.out.alloc _) BJ.out.1 BJ.out.2) (fun hHeld => ?_)
      clear hK K
      (try simp only [Act.put, List.setIfInBounds_toArray, List.set_cons_zero, List.set_cons_succ])
      refine wpAnyH_ready (rs := [4]) (by kernel_rfl) (by simp) ?_
      refine AllReadyH.cons rfl (fun K hK => ?_) ?_
      · have x3 := hp_cell (o := 3) (v := pv) (show (World.alloc wn (.cells #[.int .i64 (Tr.nd xs j1 : Int), .int .i64 (Tr.nd ys q1 : Int)] 124)).heap[wB.heap.size]? = _ from (Below.heap_alloc wn _ _ (hp_lt HP.out)).trans HP.out) rfl
        go_simp
        clear x3
        refine hK.out _ _ hHeld (fun hHeld => ?_)
        clear hK K
        (try simp only [Act.put, List.setIfInBounds_toArray, List.set_cons_zero, List.set_cons_succ])
        refine wpAnyH_ready (rs := [25]) (by kernel_rfl) (by simp) ?_
        refine AllReadyH.cons rfl (fun K hK => ?_) ?_
        · refine step_append_pair wn rfl _ _ 36 rfl (wB.heap.size + 1) 124 i0 Try.underlying36 hi hz0 hz1 hz2 pv L1.length L1 rfl HO.out rfl (Tr.nd xs j1 : Int) (Tr.nd ys q1 : Int) rfl (by have := HLN.out; omega) (by have := GN.out.len; omega) ?_
          intro v' w8 hown8 hgrow8
          obtain ⟨L2, hL2⟩ : ∃ x, x = L1 ++ [((Tr.nd xs j1 : Int), (Tr.nd ys q1 : Int))] := ⟨_, rfl⟩
          rw [← hL2] at hown8
          have HL2 := Lib.hid hL2
          clear hL2
          obtain ⟨A8, c8, rfl⟩ := own_slice hown8
          have HG8 := Lib.hid ((World.grownBy_alloc wn (.cells #[.int .i64 (Tr.nd xs j1 : Int), .int .i64 (Tr.nd ys q1 : Int)] 124) pv.ownBlock).trans hgrow8)
          have HO8 := Lib.hid hown8
          clear hown8 hgrow8
          refine hK.out _ _ (tr_six GN.out RN.out HO.out HG8.out BJ.out.1 BJ.out.2) (fun hHeld => ?_)
          clear hK K
          refine rg_take (i := 26) (v := ?_) rfl (by kernel_rfl) (by kernel_rfl) (by kernel_rfl) (fun _ _ _ h => h) (by rfl) ?_ (by assumption) ?_
          rotate_left
          · intro w hSw
            (try dsimp only at hSw)
            go_simp
            (try with_reducible rfl)
          (try simp only [Act.put, List.setIfInBounds_toArray])
          refine rg_take (i := 27) (v := ?_) rfl (by kernel_rfl) (by kernel_rfl) (by kernel_rfl) (fun _ _ _ h => h) (by rfl) ?_ (by assumption) ?_
          rotate_left
          · intro w hSw
            (try dsimp only at hSw)
            go_simp
            (try with_reducible rfl)
          (try simp only [Act.put])
          refine wpAnyH_ready (rs := [28]) (by kernel_rfl) (by simp) ?_
          refine AllReadyH.cons rfl (fun K hK => ?_) ?_
          · have HP8 := Lib.hid ((HG8.out.block _ (hp_lt HP.out) (fun e => by have := (HO.out.lt _ e.symm).1; omega)).trans HP.out)
            have x3 := hp_cell (o := 3) (v := pv) HP8.out rfl
            have f3 := hp_frozen (o := 3) HP8.out
            go_simp
            clear x3 f3
            obtain ⟨hG9, hS9⟩ := GN.out.app HP.out HO.out HG8.out HO8.out
            have G9 := Lib.hid hG9
            have S9 := Lib.hid hS9
            clear hG9 hS9
            refine hK.out _ _ (tr_six0 G9.out (RN.out.stay S9.out) BJ.out.1 BJ.out.2) (fun hHeld => ?_)
            clear hK K
            (try simp only [Act.put, List.setIfInBounds_toArray, List.set_cons_zero, List.set_cons_succ])
            refine wpAnyH_done (by kernel_rfl) ?_ _
            generalize hwx : World.setCell w8 _ _ = wx at G9 S9 ⊢
            clear hwx
            obtain ⟨y0, y1, y2, y3⟩ := (Z5.out.stay S9.out).cells
            go_wp2_with fail
            clear y0 y1 y2 y3
            refine (CB.out _ _ (by have := HLN.out; rw [HL2.out, List.length_append, List.length_singleton]; exact this) G9.out).mono ?_
            rintro e w9 ⟨rfl, hT9, hS8⟩
            have FT := Lib.hid (show TG D oa ob ca cb wB xs ys k (L ++ Bm.mt (Bm.cP xs ys) xs ys k i j p q) w9 by rw [← EM.out, ← HL1.out, ← HL2.out]; exact hT9)
            have FS := Lib.hid ((SN.out.trans S9.out).trans hS8)
            clear hT9 hS8
            go_wp2
            refine bodyPost_end (results_none rfl _ _ _) rfl ?_
            exact ⟨rfl, FT.out, FS.out⟩
          exact AllReadyH.nil
        exact AllReadyH.nil
      exact AllReadyH.nil
    exact AllReadyH.nil

end Go.Proofs.Ytgkkeejhfofcaaa
