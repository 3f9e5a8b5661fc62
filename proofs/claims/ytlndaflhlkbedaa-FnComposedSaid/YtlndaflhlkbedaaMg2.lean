/- Texts of one claim laid into one file, in build order: F8, Fce, Part. -/
import Derived.Test.YtlndaflhlkbedaaMg1
import Derived.Outline
import Derived.Test.YtlndaflhlkbedaaRows
/- Contracts (F8). -/
namespace Go.Proofs.Ytlndaflhlkbedaa
open Go.RowKit
set_option linter.unusedVariables false

/-! The model's table of forests: one row from the key roots' first leaves on. -/
def ix (p q W a b : Nat) : Nat := (a - p) * W + (b - q)
theorem ix_inj {p q W a b x y : Nat} (ha : p ≤ a) (hx : p ≤ x) (hb : q ≤ b) (hy : q ≤ y) (hbW : b - q < W) (hyW : y - q < W) (h : ix p q W a b = ix p q W x y) : a = x ∧ b = y := by
  obtain ⟨h1, h2⟩ := idx_inj hbW hyW h
  omega
theorem ix_lt {p q i j a b : Nat} (ha : a ≤ i + 1) (hb : b ≤ j + 1) (hp : p ≤ i) (hq : q ≤ j) : ix p q (j - q + 2) a b < (i - p + 2) * (j - q + 2) := idx_lt (by omega) (by omega)
/-- the row f and the trees, beside what stood ahead of f -/
structure F8 (B gt hf nf nm : Nat) (w0 w1 : World) (f T : List Int) (wr : World) : Prop where
  kb : ∀ p : Addr, p.block < hf → p.block ≠ gt → wr.cell? p = w1.cell? p
  rf : wr.ownsRow hf 3 1 (.slice (some ⟨hf, 0, none⟩) nf nf) nf (ints f)
  rt : wr.ownsRow B 3 1 (.slice (some ⟨gt, 0, none⟩) nm nm) nm (ints T)
  bl : Below B w0 wr
section
variable {B gt hf nf nm : Nat} {w0 w1 wr w' : World} {f T : List Int}
theorem F8.drawn (h : F8 B gt hf nf nm w0 w1 f T wr) (hd : Drawn wr w') : F8 B gt hf nf nm w0 w1 f T w' :=
  ⟨fun p h1 h2 => (hd.cell p).trans (h.kb p h1 h2), own_drawn h.rf hd, own_drawn h.rt hd, Drawn.below h.bl hd⟩
theorem F8.flen (h : F8 B gt hf nf nm w0 w1 f T wr) : f.length = nf := by have := h.rf.1; rw [ints_length] at this; omega
theorem F8.tlen (h : F8 B gt hf nf nm w0 w1 f T wr) : T.length = nm := by have := h.rt.1; rw [ints_length] at this; omega
theorem F8.setf (h : F8 B gt hf nf nm w0 w1 f T wr) (hg : gt < hf) (hB : B ≤ hf) (u : Nat) (v : Int) : F8 B gt hf nf nm w0 w1 (f.set u v) T (wr.setCell ⟨hf, u, none⟩ (.int .i64 v)) := by
  refine ⟨fun p h1 h2 => ?_, ?_, h.rt.kept (Kit.grown_set wr hf _ _) (.inr fun e => ?_), h.bl.setCell hB _⟩
  · rw [World.cell?_setCell_other _ _ _ _ (fun e => by rw [← e] at h1; exact absurd h1 (Nat.lt_irrefl _))]
    exact h.kb p h1 h2
  · have := (h.rf.stored u (.int .i64 v)).1
    rw [ints_set] at this
    exact this
  · have e' : gt = hf := by injection e
    omega
theorem F8.sett (h : F8 B gt hf nf nm w0 w1 f T wr) (hg : gt < hf) (hB : B ≤ gt) (u : Nat) (v : Int) : F8 B gt hf nf nm w0 w1 f (T.set u v) (wr.setCell ⟨gt, u, none⟩ (.int .i64 v)) := by
  refine ⟨fun p h1 h2 => ?_, h.rf.kept (Kit.grown_set wr gt _ _) (.inr fun e => ?_), ?_, h.bl.setCell hB _⟩
  · rw [World.cell?_setCell_other _ _ _ _ (fun e => by rw [← e] at h2; exact h2 rfl)]
    exact h.kb p h1 h2
  · have e' : hf = gt := by injection e
    omega
  · have := (h.rt.stored u (.int .i64 v)).1
    rw [ints_set] at this
    exact this
theorem F8.row {ad : Addr} {n : Nat} {zs : List Int} (h : F8 B gt hf nf nm w0 w1 f T wr) (hr : RowOff w1 gt gt ad n zs) (hl : ad.block < hf) {k : Nat} (hk : k < n) : wr.cell? (ad.add k) = some (.int .i64 (Zs.at zs k)) := by
  rw [h.kb _ (by rw [block_of_add]; exact hl) (by rw [block_of_add]; exact hr.ng)]
  exact hr.at_ k hk
end

end Go.Proofs.Ytlndaflhlkbedaa

/- The facts of one cell of the model's table of forests. -/
namespace Go.Proofs.Ytlndaflhlkbedaa
open Go.RowKit
set_option linter.unusedVariables false

theorem RowOff.made {w : World} {gt n : Nat} {ad : Addr} {zs : List Int} {o : Obj} (h : RowOff w gt gt ad n zs) : RowOff (w.alloc o) gt gt ad n zs :=
  ⟨h.len, by have := h.lt; simp; omega, h.ng, h.nt, fun k hk => by rw [World.cell?_alloc_lt w o _ (by rw [block_of_add]; exact h.lt)]; exact h.at_ k hk⟩
theorem ix_set {p q W i j x y nf : Nat} {f : List Int} {v : Int} (hlt : ix p q W (x + 1) (y + 1) < f.length) (px : p ≤ x) (qy : q ≤ y) (yj : y ≤ j) (hW : j - q + 2 ≤ W) (hqj : q ≤ j) :
    ∀ a b, p ≤ a → a ≤ i + 1 → q ≤ b → b ≤ j + 1 → (fun a b => Zs.at (f.set (ix p q W (x + 1) (y + 1)) v) (ix p q W a b)) a b = if a = x + 1 ∧ b = y + 1 then v else (fun a b => Zs.at f (ix p q W a b)) a b := by
  intro a b a1 a2 b1 b2
  show Zs.at (f.set (ix p q W (x + 1) (y + 1)) v) (ix p q W a b) = _
  rw [Zs.at_set hlt]
  by_cases e : a = x + 1 ∧ b = y + 1
  · rw [if_pos e, if_pos (by rw [e.1, e.2])]
  · rw [if_neg e, if_neg (fun c => e (ix_inj a1 (by omega) b1 (by omega) (by omega) (by omega) c))]
theorem l8_nums {p q W V i j x y n m nf nm : Nat} (hpi : p ≤ i) (hqj : q ≤ j) (hpx : p ≤ x) (hxi : x ≤ i) (hqy : q ≤ y) (hyj : y ≤ j) (hi : i < n) (hj : j < m) (hn : n ≤ 24) (hm : m ≤ 24) (hW : W = j - q + 2) (hV : V = i - p + 2) (hnf : nf = V * W) (hnm : nm = n * m) :
    ∃ r1 r s u1 u2 v1 v2 v3 v4 z0 z1 : Nat, (ix p q W x (y + 1) = v1 ∧ ix p q W (x + 1) (y + 1) = v2 ∧ ix p q W (x + 1) y = v3 ∧ ix p q W x y = v4 ∧ z1 = x * m + y) ∧ (v1 < nf ∧ v2 < nf ∧ v3 < nf ∧ v4 < nf ∧ z1 < nm) ∧
      (IntKind.i64.wrap ((x : Int) * (m : Int)) = (z0 : Int) ∧ (z0 : Int) + (y : Int) = (z1 : Int) ∧ IntKind.i64.wrap (z1 : Int) = (z1 : Int) ∧ IntKind.i64.wrap ((r1 : Int) * (W : Int)) = (u1 : Int) ∧ IntKind.i64.wrap ((r : Int) * (W : Int)) = (u2 : Int)) ∧
      ((r : Int) - 1 = (r1 : Int) ∧ (u1 : Int) + (s : Int) = (v1 : Int) ∧ (u2 : Int) + (s : Int) = (v2 : Int) ∧ (v2 : Int) - 1 = (v3 : Int) ∧ (v1 : Int) - 1 = (v4 : Int)) ∧
      (IntKind.i64.wrap (r1 : Int) = (r1 : Int) ∧ IntKind.i64.wrap (v1 : Int) = (v1 : Int) ∧ IntKind.i64.wrap (v2 : Int) = (v2 : Int) ∧ IntKind.i64.wrap (v3 : Int) = (v3 : Int) ∧ IntKind.i64.wrap (v4 : Int) = (v4 : Int)) ∧ ((x : Int) - (p : Int) + 1 = (r : Int) ∧ (y : Int) - (q : Int) + 1 = (s : Int)) ∧
      ((0 : Int) ≤ (x : Int) ∧ (x : Int) < (n : Int) ∧ (0 : Int) ≤ (y : Int) ∧ (y : Int) < (m : Int)) ∧ ((0 : Int) ≤ (v1 : Int) ∧ (v1 : Int) < (nf : Int) ∧ (0 : Int) ≤ (v2 : Int) ∧ (v2 : Int) < (nf : Int) ∧ (0 : Int) ≤ (v3 : Int) ∧ (v3 : Int) < (nf : Int) ∧ (0 : Int) ≤ (v4 : Int) ∧ (v4 : Int) < (nf : Int) ∧ (0 : Int) ≤ (z1 : Int) ∧ (z1 : Int) < (nm : Int)) := by
  have k1 : (x - p) * W ≤ 24 * 26 := Nat.mul_le_mul (by omega) (by omega)
  have k2 : (x - p + 1) * W ≤ 25 * 26 := Nat.mul_le_mul (by omega) (by omega)
  have k3 : x * m ≤ 24 * 24 := Nat.mul_le_mul (by omega) (by omega)
  have j1 : ix p q W x (y + 1) = (x - p) * W + (y - q + 1) := by unfold ix; rw [show y + 1 - q = y - q + 1 by omega]
  have j2 : ix p q W (x + 1) (y + 1) = (x - p + 1) * W + (y - q + 1) := by unfold ix; rw [show y + 1 - q = y - q + 1 by omega, show x + 1 - p = x - p + 1 by omega]
  have j3 : ix p q W (x + 1) y = (x - p + 1) * W + (y - q) := by unfold ix; rw [show x + 1 - p = x - p + 1 by omega]
  have j4 : ix p q W x y = (x - p) * W + (y - q) := rfl
  have l1 : ix p q W x (y + 1) < nf := by rw [hnf, hV, hW]; exact ix_lt (by omega) (by omega) hpi hqj
  have l2 : ix p q W (x + 1) (y + 1) < nf := by rw [hnf, hV, hW]; exact ix_lt (by omega) (by omega) hpi hqj
  have l3 : ix p q W (x + 1) y < nf := by rw [hnf, hV, hW]; exact ix_lt (by omega) (by omega) hpi hqj
  have l4 : ix p q W x y < nf := by rw [hnf, hV, hW]; exact ix_lt (by omega) (by omega) hpi hqj
  have lz : x * m + y < nm := by rw [hnm]; exact idx_lt (by omega) (by omega)
  have m1 : ((x - p : Nat) : Int) * (W : Int) = (((x - p) * W : Nat) : Int) := (Int.natCast_mul _ _).symm
  have m2 : ((x - p + 1 : Nat) : Int) * (W : Int) = (((x - p + 1) * W : Nat) : Int) := (Int.natCast_mul _ _).symm
  have m3 : (x : Int) * (m : Int) = ((x * m : Nat) : Int) := (Int.natCast_mul _ _).symm
  rw [j1] at l1
  rw [j2] at l2
  rw [j3] at l3
  rw [j4] at l4
  obtain ⟨a, ha⟩ : ∃ a, a = (x - p) * W := ⟨_, rfl⟩
  obtain ⟨b, hb⟩ : ∃ b, b = (x - p + 1) * W := ⟨_, rfl⟩
  obtain ⟨c, hc⟩ : ∃ c, c = x * m := ⟨_, rfl⟩
  rw [← ha] at k1 j1 j4 l1 l4 m1
  rw [← hb] at k2 j2 j3 l2 l3 m2
  rw [← hc] at k3 lz m3
  refine ⟨x - p, x - p + 1, y - q + 1, a, b, a + (y - q + 1), b + (y - q + 1), b + (y - q), a + (y - q), c, c + y, ⟨j1, j2, j3, j4, by rw [hc]⟩, ⟨l1, l2, l3, l4, lz⟩, ⟨?_, ?_, ?_, ?_, ?_⟩, ⟨?_, ?_, ?_, ?_, ?_⟩, ⟨?_, ?_, ?_, ?_, ?_⟩, ⟨?_, ?_⟩, ⟨?_, ?_, ?_, ?_⟩, ⟨?_, ?_, ?_, ?_, ?_, ?_, ?_, ?_, ?_, ?_⟩⟩
  · rw [m3]; exact Kit.w64 (by omega) (by omega)
  · omega
  · exact Kit.w64 (by omega) (by omega)
  · rw [m1]; exact Kit.w64 (by omega) (by omega)
  · rw [m2]; exact Kit.w64 (by omega) (by omega)
  all_goals first | omega | exact Kit.w64 (by omega) (by omega)
theorem l8_nums2 {p q W V i j lx ly n m nf : Nat} (hpi : p ≤ i) (hqj : q ≤ j) (hpx : p ≤ lx) (hxi : lx ≤ i) (hqy : q ≤ ly) (hyj : ly ≤ j) (hi : i < n) (hj : j < m) (hn : n ≤ 24) (hm : m ≤ 24) (hW : W = j - q + 2) (hV : V = i - p + 2) (hnf : nf = V * W) :
    ∃ h1 h2 h3 h4 : Nat, ix p q W lx ly = h4 ∧ h4 < nf ∧ (lx : Int) - (p : Int) = (h1 : Int) ∧ IntKind.i64.wrap (h1 : Int) = (h1 : Int) ∧ IntKind.i64.wrap ((h1 : Int) * (W : Int)) = (h2 : Int) ∧ (h2 : Int) + (ly : Int) = (h3 : Int) ∧ IntKind.i64.wrap (h3 : Int) = (h3 : Int) ∧ (h3 : Int) - (q : Int) = (h4 : Int) ∧ IntKind.i64.wrap (h4 : Int) = (h4 : Int) ∧ (0 : Int) ≤ (h4 : Int) ∧ (h4 : Int) < (nf : Int) ∧ (0 : Int) ≤ (ly : Int) ∧ (ly : Int) ≤ 24 := by
  have k1 : (lx - p) * W ≤ 24 * 26 := Nat.mul_le_mul (by omega) (by omega)
  have j1 : ix p q W lx ly = (lx - p) * W + (ly - q) := rfl
  have l1 : ix p q W lx ly < nf := by rw [hnf, hV, hW]; exact ix_lt (by omega) (by omega) hpi hqj
  have m1 : ((lx - p : Nat) : Int) * (W : Int) = (((lx - p) * W : Nat) : Int) := (Int.natCast_mul _ _).symm
  rw [j1] at l1
  obtain ⟨a, ha⟩ : ∃ a, a = (lx - p) * W := ⟨_, rfl⟩
  rw [← ha] at k1 j1 l1 m1
  refine ⟨lx - p, a, a + ly, a + (ly - q), j1, l1, ?_, ?_, ?_, ?_, ?_, ?_, ?_, ?_, ?_, ?_, ?_⟩
  · omega
  · exact Kit.w64 (by omega) (by omega)
  · rw [m1]; exact Kit.w64 (by omega) (by omega)
  all_goals first | omega | exact Kit.w64 (by omega) (by omega)
/-- what stands ahead of the loops -/
structure L8 (B gt hf nf nm : Nat) (ax ay ala alb k0 k1 k2 : Addr) (cx cy e0 e1 e2 : Nat) (xs ys : Tr) (k : Co) (i j p q W V : Nat) (T : List Int) (w wb : World) : Prop where
  hx : Tr.ok xs = true
  hy : Tr.ok ys = true
  hk : Co.ok k = true
  hi : i < xs.length
  hj : j < ys.length
  hA : Ahead xs ys k i j T
  hp : p = Tr.la xs i
  hq : q = Tr.la ys j
  hW : W = j - q + 2
  hV : V = i - p + 2
  hnf : nf = V * W
  hnm : nm = xs.length * ys.length
  lx : xs.length ≤ 24
  ly : ys.length ≤ 24
  hpi : p ≤ i
  hqj : q ≤ j
  hfl : w.heap.size < hf
  hgw : gt < w.heap.size
  hBg : B ≤ gt
  hZ : wb.heap.size ≤ hf
  rX : RowOff wb gt gt ax xs.length (Tr.lab xs)
  rY : RowOff wb gt gt ay ys.length (Tr.lab ys)
  rA : RowOff wb gt gt ala xs.length (Zs.up (Tr.lfs xs))
  rB : RowOff wb gt gt alb ys.length (Zs.up (Tr.lfs ys))
  r0 : RowOff wb gt gt k0 6 k.d
  r1 : RowOff wb gt gt k1 6 k.i
  r2 : RowOff wb gt gt k2 36 k.r
  c0 : wb.cell? ⟨w.heap.size, 0, none⟩ = some (.slice (some ax) xs.length cx)
  c1 : wb.cell? ⟨w.heap.size, 1, none⟩ = some (.slice (some ay) ys.length cy)
  c4 : wb.cell? ⟨w.heap.size, 4, none⟩ = some (.slice (some k0) 6 e0)
  c5 : wb.cell? ⟨w.heap.size, 5, none⟩ = some (.slice (some k1) 6 e1)
  c6 : wb.cell? ⟨w.heap.size, 6, none⟩ = some (.slice (some k2) 36 e2)
section
variable {B gt hf nf nm : Nat} {ax ay ala alb k0 k1 k2 : Addr} {cx cy e0 e1 e2 : Nat} {xs ys : Tr} {k : Co} {T T1 f : List Int} {i j x y p q W V : Nat} {w wb wr : World}
set_option maxHeartbeats 1600000 in
set_option maxRecDepth 100000 in
theorem l8_cellA (FR : L8 B gt hf nf nm ax ay ala alb k0 k1 k2 cx cy e0 e1 e2 xs ys k i j p q W V T w wb) (HF : F8 B gt hf nf nm w wb f T1 wr) (HS : Fill xs ys k i j x y (fun a b => Zs.at f (ix p q W a b)) T T1) (hpx : p ≤ x) (hlt : x ≤ i) (hqy : q ≤ y) (hlt2 : y ≤ j) (ef : Tr.la xs x = Tr.la xs i ∧ Tr.la ys y = Tr.la ys j) :
    ∃ (ua ub r1 r s u1 u2 v1 v2 v3 v4 z0 z1 a6 t6 : Nat) (dv iv A1 A2 A3 A5 rv m0 v : Int), RowKit.Hid (((x : Int) - (p : Int) + 1 = (r : Int)) ∧ ((y : Int) - (q : Int) + 1 = (s : Int))) ∧
    RowKit.Hid ((wr.cell? (ala.add i) = some (.int .i64 (p : Int))) ∧ (wr.cell? (alb.add j) = some (.int .i64 (q : Int))) ∧ (wr.cell? ⟨w.heap.size, 0, none⟩ = some (.slice (some ax) xs.length cx)) ∧ (wr.cell? ⟨w.heap.size, 1, none⟩ = some (.slice (some ay) ys.length cy)) ∧ (wr.cell? ⟨w.heap.size, 4, none⟩ = some (.slice (some k0) 6 e0)) ∧ (wr.cell? ⟨w.heap.size, 5, none⟩ = some (.slice (some k1) 6 e1)) ∧ (wr.cell? (ax.add x) = some (.int .i64 (ua : Int))) ∧ (wr.cell? (ay.add y) = some (.int .i64 (ub : Int))) ∧ (wr.cell? (k0.add ua) = some (.int .i64 dv)) ∧ (wr.cell? (k1.add ub) = some (.int .i64 iv)) ∧ (wr.cell? ⟨hf, v1, none⟩ = some (.int .i64 A1)) ∧ (wr.cell? ⟨hf, v3, none⟩ = some (.int .i64 A2)) ∧ ((r : Int) - 1 = (r1 : Int)) ∧ ((u1 : Int) + (s : Int) = (v1 : Int)) ∧ ((u2 : Int) + (s : Int) = (v2 : Int)) ∧ ((v2 : Int) - 1 = (v3 : Int)) ∧ (IntKind.i64.wrap ((r1 : Int)) = (r1 : Int)) ∧ (IntKind.i64.wrap ((v1 : Int)) = (v1 : Int)) ∧ (IntKind.i64.wrap ((v2 : Int)) = (v2 : Int)) ∧ (IntKind.i64.wrap ((v3 : Int)) = (v3 : Int)) ∧ (IntKind.i64.wrap (A1 + dv) = A1 + dv) ∧ (IntKind.i64.wrap (A2 + iv) = A2 + iv) ∧ (IntKind.i64.wrap ((r1 : Int) * (W : Int)) = (u1 : Int)) ∧ (IntKind.i64.wrap ((r : Int) * (W : Int)) = (u2 : Int)) ∧ ((0 : Int) ≤ (x : Int)) ∧ ((x : Int) < (xs.length : Int)) ∧ ((0 : Int) ≤ (y : Int)) ∧ ((y : Int) < (ys.length : Int)) ∧ ((0 : Int) ≤ (ua : Int)) ∧ ((ua : Int) < 6) ∧ ((0 : Int) ≤ (ub : Int)) ∧ ((ub : Int) < 6) ∧ ((0 : Int) ≤ (v1 : Int)) ∧ ((v1 : Int) < (nf : Int)) ∧ ((0 : Int) ≤ (v3 : Int)) ∧ ((v3 : Int) < (nf : Int))) ∧
    RowKit.Hid ((m0 = min (A1 + dv) (A2 + iv))) ∧
    RowKit.Hid ((wr.cell? (ala.add i) = some (.int .i64 (p : Int))) ∧ (wr.cell? (alb.add j) = some (.int .i64 (q : Int))) ∧ (wr.cell? (ala.add x) = some (.int .i64 (p : Int))) ∧ (wr.cell? (alb.add y) = some (.int .i64 (q : Int))) ∧ (((p : Int) == (p : Int)) = true) ∧ (((q : Int) == (q : Int)) = true) ∧ ((0 : Int) ≤ (x : Int)) ∧ ((x : Int) < (xs.length : Int)) ∧ ((0 : Int) ≤ (y : Int)) ∧ ((y : Int) < (ys.length : Int)) ∧ ((0 : Int) ≤ (i : Int)) ∧ ((i : Int) < (xs.length : Int)) ∧ ((0 : Int) ≤ (j : Int)) ∧ ((j : Int) < (ys.length : Int))) ∧
    RowKit.Hid ((wr.cell? ⟨w.heap.size, 0, none⟩ = some (.slice (some ax) xs.length cx)) ∧ (wr.cell? ⟨w.heap.size, 1, none⟩ = some (.slice (some ay) ys.length cy)) ∧ (wr.cell? ⟨w.heap.size, 6, none⟩ = some (.slice (some k2) 36 e2)) ∧ (wr.cell? (ax.add x) = some (.int .i64 (ua : Int))) ∧ (wr.cell? (ay.add y) = some (.int .i64 (ub : Int))) ∧ (wr.cell? (k2.add t6) = some (.int .i64 rv)) ∧ (wr.cell? ⟨hf, v4, none⟩ = some (.int .i64 A3)) ∧ ((ua : Int) * 6 = (a6 : Int)) ∧ ((a6 : Int) + (ub : Int) = (t6 : Int)) ∧ (IntKind.i64.wrap ((a6 : Int)) = (a6 : Int)) ∧ (IntKind.i64.wrap ((t6 : Int)) = (t6 : Int)) ∧ (IntKind.i64.wrap (A3 + rv) = A3 + rv) ∧ ((r : Int) - 1 = (r1 : Int)) ∧ ((u1 : Int) + (s : Int) = (v1 : Int)) ∧ ((v1 : Int) - 1 = (v4 : Int)) ∧ (IntKind.i64.wrap ((r1 : Int)) = (r1 : Int)) ∧ (IntKind.i64.wrap ((v1 : Int)) = (v1 : Int)) ∧ (IntKind.i64.wrap ((v4 : Int)) = (v4 : Int)) ∧ (IntKind.i64.wrap ((r1 : Int) * (W : Int)) = (u1 : Int)) ∧ ((0 : Int) ≤ (t6 : Int)) ∧ ((t6 : Int) < 36) ∧ ((0 : Int) ≤ (v4 : Int)) ∧ ((v4 : Int) < (nf : Int)) ∧ ((0 : Int) ≤ (x : Int)) ∧ ((x : Int) < (xs.length : Int)) ∧ ((0 : Int) ≤ (y : Int)) ∧ ((y : Int) < (ys.length : Int)) ∧ ((0 : Int) ≤ (ua : Int)) ∧ ((ua : Int) < 6) ∧ ((0 : Int) ≤ (ub : Int)) ∧ ((ub : Int) < 6)) ∧
    RowKit.Hid ((v = min m0 (A3 + rv))) ∧
    RowKit.Hid ((IntKind.i64.wrap ((x : Int) * (ys.length : Int)) = (z0 : Int)) ∧ ((z0 : Int) + (y : Int) = (z1 : Int)) ∧ (IntKind.i64.wrap ((z1 : Int)) = (z1 : Int)) ∧ (wr.cell? ⟨gt, z1, none⟩ = some (.int .i64 A5)) ∧ (wr.frozen? ⟨gt, z1, none⟩ = false) ∧ ((0 : Int) ≤ (x : Int)) ∧ ((x : Int) < (xs.length : Int)) ∧ ((0 : Int) ≤ (y : Int)) ∧ ((y : Int) < (ys.length : Int)) ∧ ((0 : Int) ≤ (z1 : Int)) ∧ ((z1 : Int) < (nm : Int)) ∧ ((u2 : Int) + (s : Int) = (v2 : Int)) ∧ (IntKind.i64.wrap ((v2 : Int)) = (v2 : Int)) ∧ (IntKind.i64.wrap ((r : Int) * (W : Int)) = (u2 : Int)) ∧ (wr.cell? ⟨hf, v2, none⟩ = some (.int .i64 (Zs.at f v2))) ∧ (wr.frozen? ⟨hf, v2, none⟩ = false) ∧ (gt ≠ hf) ∧ (hf ≠ gt) ∧ ((0 : Int) ≤ (v2 : Int)) ∧ ((v2 : Int) < (nf : Int))) ∧
    RowKit.Hid ((Fill xs ys k i j x (y + 1) (fun a b => Zs.at (f.set v2 v) (ix p q W a b)) T (T1.set z1 v))) := by
  obtain ⟨hx, hy, hk, hi, hj, hA, hp, hq, hW, hV, hnf, hnm, lx', ly', hpi, hqj, hfl, hgw, hBg, hZ, rX, rY, rA, rB, r0, r1', r2, c0, c1, c4, c5, c6⟩ := FR
  have hWa : j - q + 2 ≤ W := by omega
  obtain ⟨ua, hua, eua⟩ := Tr.xa_lab hx (p := x) (by omega)
  obtain ⟨ub, hub, eub⟩ := Tr.xa_lab hy (p := y) (by omega)
  have kb0 := fun o => HF.kb ⟨w.heap.size, o, none⟩ (by show w.heap.size < hf; omega) (by show w.heap.size ≠ gt; omega)
  have gx := (kb0 0).trans c0
  have gy := (kb0 1).trans c1
  have gd := (kb0 4).trans c4
  have gi := (kb0 5).trans c5
  have gr := (kb0 6).trans c6
  have pa : wr.cell? (ala.add i) = some (.int .i64 (p : Int)) := by rw [HF.row rA (Nat.lt_of_lt_of_le rA.lt hZ) (k := i) hi, Tr.la_up hx hi, ← hp]
  have pb : wr.cell? (alb.add j) = some (.int .i64 (q : Int)) := by rw [HF.row rB (Nat.lt_of_lt_of_le rB.lt hZ) (k := j) hj, Tr.la_up hy hj, ← hq]
  have xl : wr.cell? (ax.add x) = some (.int .i64 (ua : Int)) := by rw [HF.row rX (Nat.lt_of_lt_of_le rX.lt hZ) (k := x) (by omega), ← eua]; rfl
  have yl : wr.cell? (ay.add y) = some (.int .i64 (ub : Int)) := by rw [HF.row rY (Nat.lt_of_lt_of_le rY.lt hZ) (k := y) (by omega), ← eub]; rfl
  obtain ⟨dv, hdv⟩ : ∃ z, z = Zs.at k.d ua := ⟨_, rfl⟩
  obtain ⟨iv, hiv⟩ : ∃ z, z = Zs.at k.i ub := ⟨_, rfl⟩
  have cd : wr.cell? (k0.add ua) = some (.int .i64 (Zs.at k.d ua)) := HF.row r0 (Nat.lt_of_lt_of_le r0.lt hZ) (k := ua) hua
  have ci : wr.cell? (k1.add ub) = some (.int .i64 (Zs.at k.i ub)) := HF.row r1' (Nat.lt_of_lt_of_le r1'.lt hZ) (k := ub) hub
  rw [← hdv] at cd
  rw [← hiv] at ci
  have Edv : Co.del k (Tr.xa xs x) = dv := by rw [eua, Co.del_at hk hua, hdv]
  have Eiv : Co.ins k (Tr.xa ys y) = iv := by rw [eub, Co.ins_at hk hub, hiv]
  have n1 := (Co.nonneg' k).1 (Tr.xa xs x)
  have n2 := (Co.nonneg' k).2.1 (Tr.xa ys y)
  rw [Edv] at n1
  rw [Eiv] at n2
  obtain ⟨lxx, hlxx⟩ : ∃ l, l = Tr.la xs x := ⟨_, rfl⟩
  obtain ⟨lyy, hlyy⟩ : ∃ l, l = Tr.la ys y := ⟨_, rfl⟩
  have geo := Fill.geo hx hy hi hj (by rw [← hp]; exact hpx) hlt (by rw [← hq]; exact hqy) hlt2
  rw [← hp, ← hq, ← hlxx, ← hlyy] at geo
  obtain ⟨g1, g2, g3, g4⟩ := geo
  have pl : wr.cell? (ala.add x) = some (.int .i64 (lxx : Int)) := by rw [HF.row rA (Nat.lt_of_lt_of_le rA.lt hZ) (k := x) (by omega), Tr.la_up hx (by omega), ← hlxx]
  have ql : wr.cell? (alb.add y) = some (.int .i64 (lyy : Int)) := by rw [HF.row rB (Nat.lt_of_lt_of_le rB.lt hZ) (k := y) (by omega), Tr.la_up hy (by omega), ← hlyy]
  obtain ⟨r1, r, s, u1, u2, v1, v2, v3, v4, z0, z1, ⟨j1, j2, j3, j4, j5⟩, ⟨lt1, lt2, lt3, lt4, ltz⟩, ⟨wz, dz, wz1, wu1, wu2⟩, ⟨d1, d2, d3, d4, d5⟩, ⟨x1, x2, x3, x4, x7⟩, ⟨er, es⟩, ⟨bx0, bx1, by0, by1⟩, ⟨bv10, bv11, bv20, bv21, bv30, bv31, bv40, bv41, bz10, bz11⟩⟩ := l8_nums (nm := nm) hpi hqj hpx hlt hqy hlt2 hi hj lx' ly' hW hV hnf hnm
  have rd := Fill.reads hx hy hi hj HS (by rw [← hp]; exact hpx) hlt (by rw [← hq]; exact hqy) hlt2
  rw [← hp, ← hq, ← hlxx, ← hlyy] at rd
  obtain ⟨q1, q2, q3, q4⟩ := rd
  obtain ⟨A1, hA1⟩ : ∃ A, A = Zs.at f v1 := ⟨_, rfl⟩
  obtain ⟨A2, hA2⟩ : ∃ A, A = Zs.at f v3 := ⟨_, rfl⟩
  obtain ⟨A3, hA3⟩ : ∃ A, A = Zs.at f v4 := ⟨_, rfl⟩
  obtain ⟨A5, hA5⟩ : ∃ A, A = Zs.at T1 z1 := ⟨_, rfl⟩
  rw [j1] at q1
  rw [j3] at q2
  rw [j4] at q3
  have ba := RR_bound (k := k) hx hy (p := p) (a := x) (q := q) (b := y) (by omega) (by omega) (by omega) (by omega)
  have bb := RR_bound (k := k) hx hy (p := p) (a := x) (q := q) (b := y + 1) (by omega) (by omega) (by omega) (by omega)
  have bc := RR_bound (k := k) hx hy (p := p) (a := x + 1) (q := q) (b := y) (by omega) (by omega) (by omega) (by omega)
  rw [← q3, ← hA3] at ba
  rw [← q1, ← hA1] at bb
  rw [← q2, ← hA2] at bc
  have gf1 := own_int HF.rf (k := v1) (by rw [HF.flen]; exact lt1)
  have gf2 := own_int HF.rf (k := v2) (by rw [HF.flen]; exact lt2)
  have gf3 := own_int HF.rf (k := v3) (by rw [HF.flen]; exact lt3)
  have gf4 := own_int HF.rf (k := v4) (by rw [HF.flen]; exact lt4)
  have gz := own_int HF.rt (k := z1) (by rw [HF.tlen]; exact ltz)
  have ff2 := HF.rf.frozenAt v2
  have fz := HF.rt.frozenAt z1
  rw [← hA1] at gf1
  rw [← hA2] at gf3
  rw [← hA3] at gf4
  rw [← hA5] at gz
  have x5 : IntKind.i64.wrap (A1 + dv) = A1 + dv := Kit.w64 (by omega) (by omega)
  have x6 : IntKind.i64.wrap (A2 + iv) = A2 + iv := Kit.w64 (by omega) (by omega)
  have bua0 : (0 : Int) ≤ (ua : Int) := by omega
  have bua1 : (ua : Int) < 6 := by omega
  have bub0 : (0 : Int) ≤ (ub : Int) := by omega
  have bub1 : (ub : Int) < 6 := by omega
  have bi0 : (0 : Int) ≤ (i : Int) := by omega
  have bi1 : (i : Int) < (xs.length : Int) := by omega
  have bj0 : (0 : Int) ≤ (j : Int) := by omega
  have bj1 : (j : Int) < (ys.length : Int) := by omega
  have ne1 : gt ≠ hf := by omega
  have ne2 : hf ≠ gt := by omega
  obtain ⟨m0, hm⟩ : ∃ m, m = min (A1 + dv) (A2 + iv) := ⟨_, rfl⟩
  have QA1 : A1 = Zs.at f (ix p q W x (y + 1)) := by rw [hA1, j1]
  have QA2 : A2 = Zs.at f (ix p q W (x + 1) y) := by rw [hA2, j3]
  have QA3 : A3 = Zs.at f (ix p q W x y) := by rw [hA3, j4]
  have fs : ∀ v, ∀ a b, Tr.la xs i ≤ a → a ≤ i + 1 → Tr.la ys j ≤ b → b ≤ j + 1 → (fun a b => Zs.at (f.set (ix p q W (x + 1) (y + 1)) v) (ix p q W a b)) a b = if a = x + 1 ∧ b = y + 1 then v else (fun a b => Zs.at f (ix p q W a b)) a b := by
    intro v
    rw [← hp, ← hq]
    exact ix_set (nf := nf) (by rw [j2, HF.flen]; exact lt2) hpx hqy hlt2 hWa hqj
  have e3 : lxx = p := by rw [hlxx, ef.1, ← hp]
  have e4 : lyy = q := by rw [hlyy, ef.2, ← hq]
  rw [e3] at pl
  rw [e4] at ql
  obtain ⟨a6, ha6⟩ : ∃ a, a = ua * 6 := ⟨_, rfl⟩
  obtain ⟨t6, ht6⟩ : ∃ a, a = a6 + ub := ⟨_, rfl⟩
  obtain ⟨rv, hrv⟩ : ∃ z, z = Zs.at k.r t6 := ⟨_, rfl⟩
  have ht36 : t6 < 36 := by omega
  have cr : wr.cell? (k2.add t6) = some (.int .i64 (Zs.at k.r t6)) := HF.row r2 (Nat.lt_of_lt_of_le r2.lt hZ) (k := t6) ht36
  rw [← hrv] at cr
  have Erv : Co.rel k (Tr.xa xs x) (Tr.xa ys y) = rv := by rw [eua, eub, Co.rel_at hk hua hub, ← ha6, ← ht6, hrv]
  have n3 := (Co.nonneg' k).2.2 (Tr.xa xs x) (Tr.xa ys y)
  rw [Erv] at n3
  have y1 : (ua : Int) * 6 = (a6 : Int) := by omega
  have y2 : (a6 : Int) + (ub : Int) = (t6 : Int) := by omega
  have y3 : IntKind.i64.wrap (a6 : Int) = (a6 : Int) := Kit.w64 (by omega) (by omega)
  have y4 : IntKind.i64.wrap (t6 : Int) = (t6 : Int) := Kit.w64 (by omega) (by omega)
  have y5 : IntKind.i64.wrap (A3 + rv) = A3 + rv := Kit.w64 (by omega) (by omega)
  have bt60 : (0 : Int) ≤ (t6 : Int) := by omega
  have bt61 : (t6 : Int) < 36 := by omega
  have e1 : ((p : Int) == (p : Int)) = true := by simp
  have e2 : ((q : Int) == (q : Int)) = true := by simp
  obtain ⟨v, hv⟩ : ∃ v, v = min m0 (A3 + rv) := ⟨_, rfl⟩
  have st := (Fill.first (v := v) (F' := fun a b => Zs.at (f.set (ix p q W (x + 1) (y + 1)) v) (ix p q W a b)) hx hy hi hj hA HS (by rw [← hp]; exact hpx) hlt (by rw [← hq]; exact hqy) hlt2 ef (by rw [hv, hm, QA1, QA2, QA3, Edv, Eiv, Erv]) (fs v)).2
  rw [j2, ← j5] at st
  exact ⟨ua, ub, r1, r, s, u1, u2, v1, v2, v3, v4, z0, z1, a6, t6, dv, iv, A1, A2, A3, A5, rv, m0, v, Lib.hid ⟨er, es⟩, Lib.hid ⟨pa, pb, gx, gy, gd, gi, xl, yl, cd, ci, gf1, gf3, d1, d2, d3, d4, x1, x2, x3, x4, x5, x6, wu1, wu2, bx0, bx1, by0, by1, bua0, bua1, bub0, bub1, bv10, bv11, bv30, bv31⟩, Lib.hid hm, Lib.hid ⟨pa, pb, pl, ql, e1, e2, bx0, bx1, by0, by1, bi0, bi1, bj0, bj1⟩, Lib.hid ⟨gx, gy, gr, xl, yl, cr, gf4, y1, y2, y3, y4, y5, d1, d2, d5, x1, x2, x7, wu1, bt60, bt61, bv40, bv41, bx0, bx1, by0, by1, bua0, bua1, bub0, bub1⟩, Lib.hid hv, Lib.hid ⟨wz, dz, wz1, gz, fz, bx0, bx1, by0, by1, bz10, bz11, d3, x3, wu2, gf2, ff2, ne1, ne2, bv20, bv21⟩, Lib.hid st⟩
set_option maxHeartbeats 1600000 in
set_option maxRecDepth 100000 in
theorem l8_cellB (FR : L8 B gt hf nf nm ax ay ala alb k0 k1 k2 cx cy e0 e1 e2 xs ys k i j p q W V T w wb) (HF : F8 B gt hf nf nm w wb f T1 wr) (HS : Fill xs ys k i j x y (fun a b => Zs.at f (ix p q W a b)) T T1) (hpx : p ≤ x) (hlt : x ≤ i) (hqy : q ≤ y) (hlt2 : y ≤ j) (ef : ¬ (Tr.la xs x = Tr.la xs i ∧ Tr.la ys y = Tr.la ys j)) :
    ∃ (ua ub r1 r s u1 u2 v1 v2 v3 v4 z0 z1 lxx lyy h1 h2 h3 h4 : Nat) (dv iv A1 A2 A4 A5 m0 v : Int), RowKit.Hid (((x : Int) - (p : Int) + 1 = (r : Int)) ∧ ((y : Int) - (q : Int) + 1 = (s : Int))) ∧
    RowKit.Hid ((wr.cell? (ala.add i) = some (.int .i64 (p : Int))) ∧ (wr.cell? (alb.add j) = some (.int .i64 (q : Int))) ∧ (wr.cell? ⟨w.heap.size, 0, none⟩ = some (.slice (some ax) xs.length cx)) ∧ (wr.cell? ⟨w.heap.size, 1, none⟩ = some (.slice (some ay) ys.length cy)) ∧ (wr.cell? ⟨w.heap.size, 4, none⟩ = some (.slice (some k0) 6 e0)) ∧ (wr.cell? ⟨w.heap.size, 5, none⟩ = some (.slice (some k1) 6 e1)) ∧ (wr.cell? (ax.add x) = some (.int .i64 (ua : Int))) ∧ (wr.cell? (ay.add y) = some (.int .i64 (ub : Int))) ∧ (wr.cell? (k0.add ua) = some (.int .i64 dv)) ∧ (wr.cell? (k1.add ub) = some (.int .i64 iv)) ∧ (wr.cell? ⟨hf, v1, none⟩ = some (.int .i64 A1)) ∧ (wr.cell? ⟨hf, v3, none⟩ = some (.int .i64 A2)) ∧ ((r : Int) - 1 = (r1 : Int)) ∧ ((u1 : Int) + (s : Int) = (v1 : Int)) ∧ ((u2 : Int) + (s : Int) = (v2 : Int)) ∧ ((v2 : Int) - 1 = (v3 : Int)) ∧ (IntKind.i64.wrap ((r1 : Int)) = (r1 : Int)) ∧ (IntKind.i64.wrap ((v1 : Int)) = (v1 : Int)) ∧ (IntKind.i64.wrap ((v2 : Int)) = (v2 : Int)) ∧ (IntKind.i64.wrap ((v3 : Int)) = (v3 : Int)) ∧ (IntKind.i64.wrap (A1 + dv) = A1 + dv) ∧ (IntKind.i64.wrap (A2 + iv) = A2 + iv) ∧ (IntKind.i64.wrap ((r1 : Int) * (W : Int)) = (u1 : Int)) ∧ (IntKind.i64.wrap ((r : Int) * (W : Int)) = (u2 : Int)) ∧ ((0 : Int) ≤ (x : Int)) ∧ ((x : Int) < (xs.length : Int)) ∧ ((0 : Int) ≤ (y : Int)) ∧ ((y : Int) < (ys.length : Int)) ∧ ((0 : Int) ≤ (ua : Int)) ∧ ((ua : Int) < 6) ∧ ((0 : Int) ≤ (ub : Int)) ∧ ((ub : Int) < 6) ∧ ((0 : Int) ≤ (v1 : Int)) ∧ ((v1 : Int) < (nf : Int)) ∧ ((0 : Int) ≤ (v3 : Int)) ∧ ((v3 : Int) < (nf : Int))) ∧
    RowKit.Hid ((m0 = min (A1 + dv) (A2 + iv))) ∧
    RowKit.Hid ((wr.cell? (ala.add i) = some (.int .i64 (p : Int))) ∧ (wr.cell? (alb.add j) = some (.int .i64 (q : Int))) ∧ (wr.cell? (ala.add x) = some (.int .i64 (lxx : Int))) ∧ (wr.cell? (alb.add y) = some (.int .i64 (lyy : Int))) ∧ ((0 : Int) ≤ (x : Int)) ∧ ((x : Int) < (xs.length : Int)) ∧ ((0 : Int) ≤ (y : Int)) ∧ ((y : Int) < (ys.length : Int)) ∧ ((0 : Int) ≤ (i : Int)) ∧ ((i : Int) < (xs.length : Int)) ∧ ((0 : Int) ≤ (j : Int)) ∧ ((j : Int) < (ys.length : Int))) ∧
    RowKit.Hid ((((lxx : Int) == (p : Int)) = false ∨ (((lxx : Int) == (p : Int)) = true ∧ ((lyy : Int) == (q : Int)) = false))) ∧
    RowKit.Hid ((wr.cell? (alb.add j) = some (.int .i64 (q : Int))) ∧ (wr.cell? (ala.add i) = some (.int .i64 (p : Int))) ∧ (wr.cell? (ala.add x) = some (.int .i64 (lxx : Int))) ∧ (wr.cell? (alb.add y) = some (.int .i64 (lyy : Int))) ∧ (wr.cell? ⟨hf, h4, none⟩ = some (.int .i64 A4)) ∧ (wr.cell? ⟨gt, z1, none⟩ = some (.int .i64 A5)) ∧ ((lxx : Int) - (p : Int) = (h1 : Int)) ∧ (IntKind.i64.wrap ((h1 : Int)) = (h1 : Int)) ∧ (IntKind.i64.wrap ((h1 : Int) * (W : Int)) = (h2 : Int)) ∧ ((h2 : Int) + (lyy : Int) = (h3 : Int)) ∧ (IntKind.i64.wrap ((h3 : Int)) = (h3 : Int)) ∧ ((h3 : Int) - (q : Int) = (h4 : Int)) ∧ (IntKind.i64.wrap ((h4 : Int)) = (h4 : Int)) ∧ (IntKind.i64.wrap (A4 + A5) = A4 + A5) ∧ (IntKind.i64.wrap ((x : Int) * (ys.length : Int)) = (z0 : Int)) ∧ ((z0 : Int) + (y : Int) = (z1 : Int)) ∧ (IntKind.i64.wrap ((z1 : Int)) = (z1 : Int)) ∧ ((0 : Int) ≤ (x : Int)) ∧ ((x : Int) < (xs.length : Int)) ∧ ((0 : Int) ≤ (y : Int)) ∧ ((y : Int) < (ys.length : Int)) ∧ ((0 : Int) ≤ (z1 : Int)) ∧ ((z1 : Int) < (nm : Int)) ∧ ((0 : Int) ≤ (h4 : Int)) ∧ ((h4 : Int) < (nf : Int)) ∧ ((0 : Int) ≤ (i : Int)) ∧ ((i : Int) < (xs.length : Int)) ∧ ((0 : Int) ≤ (j : Int)) ∧ ((j : Int) < (ys.length : Int))) ∧
    RowKit.Hid ((v = min m0 (A4 + A5))) ∧
    RowKit.Hid (((u2 : Int) + (s : Int) = (v2 : Int)) ∧ (IntKind.i64.wrap ((v2 : Int)) = (v2 : Int)) ∧ (IntKind.i64.wrap ((r : Int) * (W : Int)) = (u2 : Int)) ∧ (wr.cell? ⟨hf, v2, none⟩ = some (.int .i64 (Zs.at f v2))) ∧ (wr.frozen? ⟨hf, v2, none⟩ = false) ∧ (gt ≠ hf) ∧ (hf ≠ gt) ∧ ((0 : Int) ≤ (v2 : Int)) ∧ ((v2 : Int) < (nf : Int)) ∧ ((0 : Int) ≤ (x : Int)) ∧ ((x : Int) < (xs.length : Int)) ∧ ((0 : Int) ≤ (y : Int)) ∧ ((y : Int) < (ys.length : Int))) ∧
    RowKit.Hid ((Fill xs ys k i j x (y + 1) (fun a b => Zs.at (f.set v2 v) (ix p q W a b)) T T1)) := by
  obtain ⟨hx, hy, hk, hi, hj, hA, hp, hq, hW, hV, hnf, hnm, lx', ly', hpi, hqj, hfl, hgw, hBg, hZ, rX, rY, rA, rB, r0, r1', r2, c0, c1, c4, c5, c6⟩ := FR
  have hWa : j - q + 2 ≤ W := by omega
  obtain ⟨ua, hua, eua⟩ := Tr.xa_lab hx (p := x) (by omega)
  obtain ⟨ub, hub, eub⟩ := Tr.xa_lab hy (p := y) (by omega)
  have kb0 := fun o => HF.kb ⟨w.heap.size, o, none⟩ (by show w.heap.size < hf; omega) (by show w.heap.size ≠ gt; omega)
  have gx := (kb0 0).trans c0
  have gy := (kb0 1).trans c1
  have gd := (kb0 4).trans c4
  have gi := (kb0 5).trans c5
  have gr := (kb0 6).trans c6
  have pa : wr.cell? (ala.add i) = some (.int .i64 (p : Int)) := by rw [HF.row rA (Nat.lt_of_lt_of_le rA.lt hZ) (k := i) hi, Tr.la_up hx hi, ← hp]
  have pb : wr.cell? (alb.add j) = some (.int .i64 (q : Int)) := by rw [HF.row rB (Nat.lt_of_lt_of_le rB.lt hZ) (k := j) hj, Tr.la_up hy hj, ← hq]
  have xl : wr.cell? (ax.add x) = some (.int .i64 (ua : Int)) := by rw [HF.row rX (Nat.lt_of_lt_of_le rX.lt hZ) (k := x) (by omega), ← eua]; rfl
  have yl : wr.cell? (ay.add y) = some (.int .i64 (ub : Int)) := by rw [HF.row rY (Nat.lt_of_lt_of_le rY.lt hZ) (k := y) (by omega), ← eub]; rfl
  obtain ⟨dv, hdv⟩ : ∃ z, z = Zs.at k.d ua := ⟨_, rfl⟩
  obtain ⟨iv, hiv⟩ : ∃ z, z = Zs.at k.i ub := ⟨_, rfl⟩
  have cd : wr.cell? (k0.add ua) = some (.int .i64 (Zs.at k.d ua)) := HF.row r0 (Nat.lt_of_lt_of_le r0.lt hZ) (k := ua) hua
  have ci : wr.cell? (k1.add ub) = some (.int .i64 (Zs.at k.i ub)) := HF.row r1' (Nat.lt_of_lt_of_le r1'.lt hZ) (k := ub) hub
  rw [← hdv] at cd
  rw [← hiv] at ci
  have Edv : Co.del k (Tr.xa xs x) = dv := by rw [eua, Co.del_at hk hua, hdv]
  have Eiv : Co.ins k (Tr.xa ys y) = iv := by rw [eub, Co.ins_at hk hub, hiv]
  have n1 := (Co.nonneg' k).1 (Tr.xa xs x)
  have n2 := (Co.nonneg' k).2.1 (Tr.xa ys y)
  rw [Edv] at n1
  rw [Eiv] at n2
  obtain ⟨lxx, hlxx⟩ : ∃ l, l = Tr.la xs x := ⟨_, rfl⟩
  obtain ⟨lyy, hlyy⟩ : ∃ l, l = Tr.la ys y := ⟨_, rfl⟩
  have geo := Fill.geo hx hy hi hj (by rw [← hp]; exact hpx) hlt (by rw [← hq]; exact hqy) hlt2
  rw [← hp, ← hq, ← hlxx, ← hlyy] at geo
  obtain ⟨g1, g2, g3, g4⟩ := geo
  have pl : wr.cell? (ala.add x) = some (.int .i64 (lxx : Int)) := by rw [HF.row rA (Nat.lt_of_lt_of_le rA.lt hZ) (k := x) (by omega), Tr.la_up hx (by omega), ← hlxx]
  have ql : wr.cell? (alb.add y) = some (.int .i64 (lyy : Int)) := by rw [HF.row rB (Nat.lt_of_lt_of_le rB.lt hZ) (k := y) (by omega), Tr.la_up hy (by omega), ← hlyy]
  obtain ⟨r1, r, s, u1, u2, v1, v2, v3, v4, z0, z1, ⟨j1, j2, j3, j4, j5⟩, ⟨lt1, lt2, lt3, lt4, ltz⟩, ⟨wz, dz, wz1, wu1, wu2⟩, ⟨d1, d2, d3, d4, d5⟩, ⟨x1, x2, x3, x4, x7⟩, ⟨er, es⟩, ⟨bx0, bx1, by0, by1⟩, ⟨bv10, bv11, bv20, bv21, bv30, bv31, bv40, bv41, bz10, bz11⟩⟩ := l8_nums (nm := nm) hpi hqj hpx hlt hqy hlt2 hi hj lx' ly' hW hV hnf hnm
  have rd := Fill.reads hx hy hi hj HS (by rw [← hp]; exact hpx) hlt (by rw [← hq]; exact hqy) hlt2
  rw [← hp, ← hq, ← hlxx, ← hlyy] at rd
  obtain ⟨q1, q2, q3, q4⟩ := rd
  obtain ⟨A1, hA1⟩ : ∃ A, A = Zs.at f v1 := ⟨_, rfl⟩
  obtain ⟨A2, hA2⟩ : ∃ A, A = Zs.at f v3 := ⟨_, rfl⟩
  obtain ⟨A3, hA3⟩ : ∃ A, A = Zs.at f v4 := ⟨_, rfl⟩
  obtain ⟨A5, hA5⟩ : ∃ A, A = Zs.at T1 z1 := ⟨_, rfl⟩
  rw [j1] at q1
  rw [j3] at q2
  rw [j4] at q3
  have ba := RR_bound (k := k) hx hy (p := p) (a := x) (q := q) (b := y) (by omega) (by omega) (by omega) (by omega)
  have bb := RR_bound (k := k) hx hy (p := p) (a := x) (q := q) (b := y + 1) (by omega) (by omega) (by omega) (by omega)
  have bc := RR_bound (k := k) hx hy (p := p) (a := x + 1) (q := q) (b := y) (by omega) (by omega) (by omega) (by omega)
  rw [← q3, ← hA3] at ba
  rw [← q1, ← hA1] at bb
  rw [← q2, ← hA2] at bc
  have gf1 := own_int HF.rf (k := v1) (by rw [HF.flen]; exact lt1)
  have gf2 := own_int HF.rf (k := v2) (by rw [HF.flen]; exact lt2)
  have gf3 := own_int HF.rf (k := v3) (by rw [HF.flen]; exact lt3)
  have gf4 := own_int HF.rf (k := v4) (by rw [HF.flen]; exact lt4)
  have gz := own_int HF.rt (k := z1) (by rw [HF.tlen]; exact ltz)
  have ff2 := HF.rf.frozenAt v2
  have fz := HF.rt.frozenAt z1
  rw [← hA1] at gf1
  rw [← hA2] at gf3
  rw [← hA3] at gf4
  rw [← hA5] at gz
  have x5 : IntKind.i64.wrap (A1 + dv) = A1 + dv := Kit.w64 (by omega) (by omega)
  have x6 : IntKind.i64.wrap (A2 + iv) = A2 + iv := Kit.w64 (by omega) (by omega)
  have bua0 : (0 : Int) ≤ (ua : Int) := by omega
  have bua1 : (ua : Int) < 6 := by omega
  have bub0 : (0 : Int) ≤ (ub : Int) := by omega
  have bub1 : (ub : Int) < 6 := by omega
  have bi0 : (0 : Int) ≤ (i : Int) := by omega
  have bi1 : (i : Int) < (xs.length : Int) := by omega
  have bj0 : (0 : Int) ≤ (j : Int) := by omega
  have bj1 : (j : Int) < (ys.length : Int) := by omega
  have ne1 : gt ≠ hf := by omega
  have ne2 : hf ≠ gt := by omega
  obtain ⟨m0, hm⟩ : ∃ m, m = min (A1 + dv) (A2 + iv) := ⟨_, rfl⟩
  have QA1 : A1 = Zs.at f (ix p q W x (y + 1)) := by rw [hA1, j1]
  have QA2 : A2 = Zs.at f (ix p q W (x + 1) y) := by rw [hA2, j3]
  have QA3 : A3 = Zs.at f (ix p q W x y) := by rw [hA3, j4]
  have fs : ∀ v, ∀ a b, Tr.la xs i ≤ a → a ≤ i + 1 → Tr.la ys j ≤ b → b ≤ j + 1 → (fun a b => Zs.at (f.set (ix p q W (x + 1) (y + 1)) v) (ix p q W a b)) a b = if a = x + 1 ∧ b = y + 1 then v else (fun a b => Zs.at f (ix p q W a b)) a b := by
    intro v
    rw [← hp, ← hq]
    exact ix_set (nf := nf) (by rw [j2, HF.flen]; exact lt2) hpx hqy hlt2 hWa hqj
  obtain ⟨h1, h2, h3, h4, i1, i2, i3, i4, i5, i6, i7, i8, i9, bh40, bh41, i12, i13⟩ := l8_nums2 (lx := lxx) (ly := lyy) hpi hqj g1 (by omega) g3 (by omega) hi hj lx' ly' hW hV hnf
  rw [i1] at q4
  have tr := Fill.tree hi hj hA HS (by rw [← hp]; exact hpx) hlt (by rw [← hq]; exact hqy) hlt2 ef
  rw [← j5, ← hA5] at tr
  obtain ⟨A4, hA4⟩ : ∃ A, A = Zs.at f h4 := ⟨_, rfl⟩
  have b4' := RR_bound (k := k) hx hy (p := p) (a := lxx) (q := q) (b := lyy) (by omega) (by omega) (by omega) (by omega)
  have b5' := TT_bound (k := k) hx hy (a := x) (b := y) (by omega) (by omega)
  rw [← q4, ← hA4] at b4'
  rw [← tr] at b5'
  have gf5 := own_int HF.rf (k := h4) (by rw [HF.flen]; exact i2)
  rw [← hA4] at gf5
  have y5 : IntKind.i64.wrap (A4 + A5) = A4 + A5 := Kit.w64 (by omega) (by omega)
  obtain ⟨v, hv⟩ : ∃ v, v = min m0 (A4 + A5) := ⟨_, rfl⟩
  have st := Fill.other (v := v) (F' := fun a b => Zs.at (f.set (ix p q W (x + 1) (y + 1)) v) (ix p q W a b)) hx hy hi hj hA HS (by rw [← hp]; exact hpx) hlt (by rw [← hq]; exact hqy) hlt2 ef (by rw [hv, hm, QA1, QA2, hA4, hA5, Edv, Eiv, ← hlxx, ← hlyy, ← j5]; show _ = min (min _ _) (Zs.at f (ix p q W lxx lyy) + _); rw [i1]) (fs v)
  rw [j2] at st
  have ne : ((lxx : Int) == (p : Int)) = false ∨ (((lxx : Int) == (p : Int)) = true ∧ ((lyy : Int) == (q : Int)) = false) := by
    by_cases h : lxx = p
    · by_cases h' : lyy = q
      · exact absurd ⟨by rw [← hlxx, h, hp], by rw [← hlyy, h', hq]⟩ ef
      · exact .inr ⟨by simp [h], by simp; omega⟩
    · exact .inl (by simp; omega)
  exact ⟨ua, ub, r1, r, s, u1, u2, v1, v2, v3, v4, z0, z1, lxx, lyy, h1, h2, h3, h4, dv, iv, A1, A2, A4, A5, m0, v, Lib.hid ⟨er, es⟩, Lib.hid ⟨pa, pb, gx, gy, gd, gi, xl, yl, cd, ci, gf1, gf3, d1, d2, d3, d4, x1, x2, x3, x4, x5, x6, wu1, wu2, bx0, bx1, by0, by1, bua0, bua1, bub0, bub1, bv10, bv11, bv30, bv31⟩, Lib.hid hm, Lib.hid ⟨pa, pb, pl, ql, bx0, bx1, by0, by1, bi0, bi1, bj0, bj1⟩, Lib.hid ne, Lib.hid ⟨pb, pa, pl, ql, gf5, gz, i3, i4, i5, i6, i7, i8, i9, y5, wz, dz, wz1, bx0, bx1, by0, by1, bz10, bz11, bh40, bh41, bi0, bi1, bj0, bj1⟩, Lib.hid hv, Lib.hid ⟨d3, x3, wu2, gf2, ff2, ne1, ne2, bv20, bv21, bx0, bx1, by0, by1⟩, Lib.hid st⟩
end

end Go.Proofs.Ytlndaflhlkbedaa

/- Contracts (Part). -/
namespace Go.Proofs.Ytlndaflhlkbedaa
open Go.RowKit
set_option linter.unusedVariables false

/-- of a row the first k values, then zeroes -/
def Zs.part (F : List Int) (k : Nat) : List Int := F.take k ++ List.replicate (F.length - k) 0
theorem Zs.part_length (F : List Int) (k : Nat) (h : k ≤ F.length) : (Zs.part F k).length = F.length := by simp [Zs.part]; omega
theorem Zs.part_zero (F : List Int) : Zs.part F 0 = List.replicate F.length 0 := by simp [Zs.part]
theorem Zs.part_all (F : List Int) : Zs.part F F.length = F := by simp [Zs.part]
theorem Zs.part_set (F : List Int) (k : Nat) (h : k < F.length) : (Zs.part F k).set k (Zs.at F k) = Zs.part F (k + 1) := by
  unfold Zs.part
  have hl : (F.take k).length = k := by simp; omega
  rw [List.set_append_right _ _ (by omega), hl, Nat.sub_self, show F.length - k = (F.length - (k + 1)) + 1 by omega, List.replicate_succ, List.set_cons_zero, List.take_succ_eq_append_getElem h, List.append_assoc]
  simp [Zs.at, List.getD_eq_getElem?_getD, h]
theorem made_zeros (z n : Nat) : (madeCells (Value.int .i64 0).cells (n * 1)).toList = ints (List.replicate n 0) := by
  unfold madeCells ints
  refine List.ext_getElem (by simp) fun k h1 h2 => ?_
  simp at h1 h2 ⊢
  show (#[Value.int .i64 0] : Array Value)[k % 1]! = _
  rw [Nat.mod_one]
  rfl
theorem info_intZ : (Try.prog.info? 3).map (fun i => (i.zero, i.size, i.bytes)) = some (some (.int .i64 0), 1, 8) := by kernel_rfl

end Go.Proofs.Ytlndaflhlkbedaa
