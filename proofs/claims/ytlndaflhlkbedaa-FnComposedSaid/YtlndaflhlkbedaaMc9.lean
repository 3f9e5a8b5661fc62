/- Texts of one claim laid into one file, in build order: Bxc, Swp. -/
import Derived.Test.YtlndaflhlkbedaaMc1
import Derived.Test.YtlndaflhlkbedaaMc3
import Derived.Test.YtlndaflhlkbedaaMc6
import Derived.Test.YtlndaflhlkbedaaMc7
import Derived.Test.YtlndaflhlkbedaaMg12
import Derived.Deep.RegionHeld3
import Derived.Laws.ResultCell
import Derived.Outline
import Derived.StillTailTactics
import Derived.Test.YtlndaflhlkbedaaRows
/- Contracts (Bxc). -/
namespace Go.Proofs.Ytlndaflhlkbedaa
open Go.RowKit
set_option linter.unusedVariables false

/-- below a world's blocks nothing has turned -/
def BelA (w wq : World) : Prop := Below w.heap.size w wq
section
variable {wa wx wy : World} {b : Nat} {v0 v1 v2 : Value}
theorem bx_below (h : wx.cell? ⟨b, 0, none⟩ = some v0 ∧ wx.cell? ⟨b, 1, none⟩ = some v1 ∧ wx.cell? ⟨b, 2, none⟩ = some v2 ∧ BelA wa wx) : Below wa.heap.size wa wx := h.2.2.2
theorem bx_keep (h : wx.cell? ⟨b, 0, none⟩ = some v0 ∧ wx.cell? ⟨b, 1, none⟩ = some v1 ∧ wx.cell? ⟨b, 2, none⟩ = some v2 ∧ BelA wa wx) (hb : Below wx.heap.size wx wy) : wy.cell? ⟨b, 0, none⟩ = some v0 ∧ wy.cell? ⟨b, 1, none⟩ = some v1 ∧ wy.cell? ⟨b, 2, none⟩ = some v2 ∧ BelA wa wy :=
  have c : ∀ {p : Addr} {v : Value}, wx.cell? p = some v → wy.cell? p = some v := fun hc => (hb.cell (World.block_lt_of_cell? _ _ hc)).trans hc
  ⟨c h.1, c h.2.1, c h.2.2.1, h.2.2.2.trans (hb.mono h.2.2.2.size)⟩
theorem bx_drawn (h : wx.cell? ⟨b, 0, none⟩ = some v0 ∧ wx.cell? ⟨b, 1, none⟩ = some v1 ∧ wx.cell? ⟨b, 2, none⟩ = some v2 ∧ BelA wa wx) (hd : Drawn wx wy) : wy.cell? ⟨b, 0, none⟩ = some v0 ∧ wy.cell? ⟨b, 1, none⟩ = some v1 ∧ wy.cell? ⟨b, 2, none⟩ = some v2 ∧ BelA wa wy := bx_keep h hd.toBelow
end

end Go.Proofs.Ytlndaflhlkbedaa

/- Contracts (Swp). -/
namespace Go.Proofs.Ytlndaflhlkbedaa
open Go.RowKit
set_option linter.unusedVariables false

/-- two rows of the call's own and the variable that holds them -/
def DoneT (w0 wq : World) (n1 : Nat) (K : Co) (g10 G0 G1 e0 e1 : Nat) : Prop :=
  (Box3 wq g10 (.slice (some ⟨G0, 0, none⟩) n1 e0) (.slice (some ⟨G1, 0, none⟩) 6 e1) (.slice none 0 0) ∧ ∀ off, wq.frozen? ⟨g10, off, none⟩ = false) ∧ wq.ownsRow w0.heap.size 3 1 (.slice (some ⟨G0, 0, none⟩) n1 e0) n1 (ints K.i) ∧ wq.ownsRow w0.heap.size 3 1 (.slice (some ⟨G1, 0, none⟩) 6 e1) 6 (ints K.d) ∧
  (G0 ≠ G1 ∧ g10 ≠ G0 ∧ g10 ≠ G1) ∧ Below w0.heap.size w0 wq ∧ w0.heap.size ≤ g10 ∧ g10 < wq.heap.size
theorem DoneT.made {w0 w7 : World} {n1 : Nat} {K : Co} {G0 G1 e0 e1 : Nat} (o0 : w7.ownsRow G0 3 1 (.slice (some ⟨G0, 0, none⟩) n1 e0) n1 (ints K.i)) (o1 : w7.ownsRow G1 3 1 (.slice (some ⟨G1, 0, none⟩) 6 e1) 6 (ints K.d))
    (h : w0.heap.size ≤ G0 ∧ G0 < G1 ∧ G1 < w7.heap.size) (hB : Below w0.heap.size w0 w7) : DoneT w0 (w7.alloc (.cells #[.slice (some ⟨G0, 0, none⟩) n1 e0, .slice (some ⟨G1, 0, none⟩) 6 e1, .slice none 0 0] 27)) n1 K w7.heap.size G0 G1 e0 e1 :=
  ⟨⟨Box3.made _ _ _ _ _, fun off => by simp⟩, own_base (o0.alloc _) (by omega), own_base (o1.alloc _) (by omega), ⟨by omega, by omega, by omega⟩, hB.alloc hB.size _, hB.size, by simp⟩
theorem DoneT.stored {w0 w7 : World} {n1 : Nat} {K : Co} {g10 G0 G1 e0 e1 : Nat} (o0 : w7.ownsRow G0 3 1 (.slice (some ⟨G0, 0, none⟩) n1 e0) n1 (ints K.i)) (o1 : w7.ownsRow G1 3 1 (.slice (some ⟨G1, 0, none⟩) 6 e1) 6 (ints K.d))
    (h : w0.heap.size ≤ G0 ∧ G0 < G1) (hB : Below w0.heap.size w0 w7) (hz : Zero3 w7 g10) (hg : w0.heap.size ≤ g10) (hne : g10 ≠ G0 ∧ g10 ≠ G1) :
    DoneT w0 (((w7.setCell ⟨g10, 0, none⟩ (.slice (some ⟨G0, 0, none⟩) n1 e0)).setCell ⟨g10, 1, none⟩ (.slice (some ⟨G1, 0, none⟩) 6 e1)).setCell ⟨g10, 2, none⟩ (.slice none 0 0)) n1 K g10 G0 G1 e0 e1 := by
  have hs : ∀ u0 u1 u2, w7.grownBy (((w7.setCell ⟨g10, 0, none⟩ u0).setCell ⟨g10, 1, none⟩ u1).setCell ⟨g10, 2, none⟩ u2) (some g10) := fun _ _ _ => Kit.grown_then_set (Kit.grown_then_set (Kit.grown_set _ _ _ _) _ _) _ _
  have hl := hz.lt
  refine ⟨⟨?_, fun off => ?_⟩, own_base (World.ownsRow.kept o0 (hs _ _ _) (.inr (by simp [Value.ownBlock]; omega))) (by omega), own_base (World.ownsRow.kept o1 (hs _ _ _) (.inr (by simp [Value.ownBlock]; omega))) (by omega), ⟨by omega, hne.1, hne.2⟩, ((hB.setCell hg _).setCell hg _).setCell hg _, hg, by simpa using hl⟩
  · unfold Zero3 at hz
    refine ⟨?_, ?_, ?_⟩ <;> simp [World.cell?, World.setCell, Array.getElem?_modify, hz]
  · rw [World.frozen?_setCell, World.frozen?_setCell, World.frozen?_setCell]
    unfold Zero3 at hz
    simp [World.frozen?, hz]
section
variable {wa wx : World} {b : Nat} {v0 v1 v2 : Value}
theorem bx_alloc (h : (wx.cell? ⟨b, 0, none⟩ = some (v0) ∧ wx.cell? ⟨b, 1, none⟩ = some (v1) ∧ wx.cell? ⟨b, 2, none⟩ = some (v2)) ∧ BelA wa wx) (o : Obj) : ((wx.alloc o).cell? ⟨b, 0, none⟩ = some (v0) ∧ (wx.alloc o).cell? ⟨b, 1, none⟩ = some (v1) ∧ (wx.alloc o).cell? ⟨b, 2, none⟩ = some (v2)) ∧ BelA wa (wx.alloc o) := by
  obtain ⟨⟨h0, h1, h2⟩, hb⟩ := h
  have := bx_keep (wa := wa) ⟨h0, h1, h2, hb⟩ ((Below.refl _ _).alloc (Nat.le_refl _) o)
  exact ⟨⟨this.1, this.2.1, this.2.2.1⟩, this.2.2.2⟩
theorem bx_alloc_drew (h : (wx.drew.cell? ⟨b, 0, none⟩ = some (v0) ∧ wx.drew.cell? ⟨b, 1, none⟩ = some (v1) ∧ wx.drew.cell? ⟨b, 2, none⟩ = some (v2)) ∧ BelA wa wx.drew) (o : Obj) : ((wx.alloc o).drew.cell? ⟨b, 0, none⟩ = some (v0) ∧ (wx.alloc o).drew.cell? ⟨b, 1, none⟩ = some (v1) ∧ (wx.alloc o).drew.cell? ⟨b, 2, none⟩ = some (v2)) ∧ BelA wa (wx.alloc o).drew := bx_alloc h o
theorem bx_on {wy : World} (h : (wx.cell? ⟨b, 0, none⟩ = some (v0) ∧ wx.cell? ⟨b, 1, none⟩ = some (v1) ∧ wx.cell? ⟨b, 2, none⟩ = some (v2)) ∧ BelA wa wx) (hb : Below wx.heap.size wx wy) : (wy.cell? ⟨b, 0, none⟩ = some (v0) ∧ wy.cell? ⟨b, 1, none⟩ = some (v1) ∧ wy.cell? ⟨b, 2, none⟩ = some (v2)) ∧ BelA wa wy := by
  obtain ⟨⟨h0, h1, h2⟩, hb'⟩ := h
  have := bx_keep (wa := wa) ⟨h0, h1, h2, hb'⟩ hb
  exact ⟨⟨this.1, this.2.1, this.2.2.1⟩, this.2.2.2⟩
theorem bx_set3 {g : Nat} (h : (wx.cell? ⟨b, 0, none⟩ = some (v0) ∧ wx.cell? ⟨b, 1, none⟩ = some (v1) ∧ wx.cell? ⟨b, 2, none⟩ = some (v2)) ∧ BelA wa wx) (hg : wa.heap.size ≤ g) (hb : b < wa.heap.size) (u0 u1 u2 : Value) : ((((wx.setCell ⟨g, 0, none⟩ u0).setCell ⟨g, 1, none⟩ u1).setCell ⟨g, 2, none⟩ u2).cell? ⟨b, 0, none⟩ = some (v0) ∧ (((wx.setCell ⟨g, 0, none⟩ u0).setCell ⟨g, 1, none⟩ u1).setCell ⟨g, 2, none⟩ u2).cell? ⟨b, 1, none⟩ = some (v1) ∧ (((wx.setCell ⟨g, 0, none⟩ u0).setCell ⟨g, 1, none⟩ u1).setCell ⟨g, 2, none⟩ u2).cell? ⟨b, 2, none⟩ = some (v2)) ∧ BelA wa (((wx.setCell ⟨g, 0, none⟩ u0).setCell ⟨g, 1, none⟩ u1).setCell ⟨g, 2, none⟩ u2) := by
  have c : ∀ o, (((wx.setCell ⟨g, 0, none⟩ u0).setCell ⟨g, 1, none⟩ u1).setCell ⟨g, 2, none⟩ u2).cell? ⟨b, o, none⟩ = wx.cell? ⟨b, o, none⟩ := fun o => by
    have ne : ∀ q, (⟨g, q, none⟩ : Addr) ≠ ⟨b, o, none⟩ := fun q e => by injection e with e _; omega
    rw [World.cell?_setCell_other _ _ _ _ (ne 2), World.cell?_setCell_other _ _ _ _ (ne 1), World.cell?_setCell_other _ _ _ _ (ne 0)]
  exact ⟨⟨(c 0).trans h.1.1, (c 1).trans h.1.2.1, (c 2).trans h.1.2.2⟩, ((Below.setCell h.2 hg u0).setCell hg u1).setCell hg u2⟩
theorem bxa_below (h : (wx.cell? ⟨b, 0, none⟩ = some (v0) ∧ wx.cell? ⟨b, 1, none⟩ = some (v1) ∧ wx.cell? ⟨b, 2, none⟩ = some (v2)) ∧ BelA wa wx) : Below wa.heap.size wa wx := h.2
end
theorem sw_keep {wd w6 : World} {g : Nat} {v0 v1 v2 u : Value} {e : TypeId} {r : Option Nat} (h : Box3 wd g v0 v1 v2) (hf : ∀ off, wd.frozen? ⟨g, off, none⟩ = false) (hg : (wd.alloc (.cells #[u] e)).grownBy w6 r) (hr : ∀ b, r = some b → g < b) :
    w6.cell? ⟨g, 0, none⟩ = some v0 ∧ w6.cell? ⟨g, 1, none⟩ = some v1 ∧ w6.cell? ⟨g, 2, none⟩ = some v2 ∧ ∀ off, w6.frozen? ⟨g, off, none⟩ = false := by
  have hl : g < wd.heap.size := World.block_lt_of_cell? _ _ h.1
  have hl' : g < (wd.alloc (.cells #[u] e)).heap.size := by simp; omega
  have ha := World.grownBy_alloc wd (.cells #[u] e) none
  have c : ∀ {p : Addr} {v : Value}, p.block = g → wd.cell? p = some v → w6.cell? p = some v := fun hp hc => hg.cell (ha.cell hc (fun e => by cases e)) (fun e => by have := hr _ e.symm; omega)
  exact ⟨c rfl h.1, c rfl h.2.1, c rfl h.2.2, free_kept hg hl' (fun b e => by have := hr b e; omega) (free_kept ha hl (fun b e => by cases e) hf)⟩
theorem grown_and {a b c : World} {g : Nat} {r : Option Nat} (h : a.grownBy b (some g)) (k : b.grownBy c r) (hr : ∀ j, r = some j → a.heap.size ≤ j) : a.grownBy c (some g) :=
  ⟨k.os.trans h.os, k.tape.trans h.tape, k.output.trans h.output, Nat.le_trans h.size k.size, fun i hi hn => (k.block i (Nat.lt_of_lt_of_le hi h.size) (fun e => by have := hr i e.symm; omega)).trans (h.block i hi hn)⟩
theorem info_intSW : (Try.prog.info? 3).map (fun i => (i.zero, i.size, i.bytes)) = some (some (.int .i64 0), 1, 8) := by kernel_rfl
/-- the exchanged costs, as rows -/
def SwAt (w : World) (n1 : Nat) (K : Co) (e : Ending) (w' : World) : Prop :=
  ∃ G0 G1 G2 e0 e1 e2 : Nat, e = .returned (.agg #[.slice (some ⟨G0, 0, none⟩) n1 e0, .slice (some ⟨G1, 0, none⟩) 6 e1, .slice (some ⟨G2, 0, none⟩) 36 e2]) ∧ CoIn w' w'.heap.size (some ⟨G0, 0, none⟩) (some ⟨G1, 0, none⟩) (some ⟨G2, 0, none⟩) n1 6 36 (Co.turn K) ∧ Below w.heap.size w w'
set_option maxHeartbeats 12800000 in
set_option maxRecDepth 100000 in
theorem swapped_any (k0 k1 k2 : Addr) (n1 c0 c1 c2 : Nat) (K : Co) (w : World) (hk : CoIn w w.heap.size (some k0) (some k1) (some k2) 6 n1 36 K) (hn1 : n1 = 6 ∨ n1 = 5) :
    Calls Try.prog 47 #[.agg #[.slice (some k0) 6 c0, .slice (some k1) n1 c1, .slice (some k2) 36 c2]] w (SwAt w n1 K) := by
  obtain ⟨i0, hi, hz0, hz1, hz2⟩ := info_parts info_intSW
  have Hi := Lib.hid hi
  clear hi
  have p1 : 0 < n1 := by omega
  have p2 : n1 ≤ 6 := by omega
  obtain ⟨wc, hwc⟩ : ∃ wc, wc = w.alloc (.cells #[.slice (some k0) 6 c0, .slice (some k1) n1 c1, .slice (some k2) 36 c2] 27) := ⟨_, rfl⟩
  obtain ⟨w2, hw2⟩ : ∃ w2, w2 = wc.alloc (.cells #[.slice none 0 0, .slice none 0 0, .slice none 0 0] 27) := ⟨_, rfl⟩
  have hc1 : wc.heap.size = w.heap.size + 1 := by rw [hwc]; simp
  have hc2 : w2.heap.size = w.heap.size + 1 + 1 := by rw [hw2, ← hc1]; simp
  have hbc : Below w.heap.size w wc := by rw [hwc]; exact (Below.refl _ _).alloc (Nat.le_refl _) _
  have hb2 : Below wc.heap.size wc w2 := by rw [hw2]; exact (Below.refl _ _).alloc (Nat.le_refl _) _
  have HBX := Lib.hid ((show Box3 wc w.heap.size (.slice (some k0) 6 c0) (.slice (some k1) n1 c1) (.slice (some k2) 36 c2) by rw [hwc]; exact Box3.made _ _ _ _ _).below hb2 (by omega))
  have HV := Lib.hid (show Box3 w2 (w.heap.size + 1) (.slice none 0 0) (.slice none 0 0) (.slice none 0 0) by rw [hw2, ← hc1]; exact Box3.made _ _ _ _ _)
  have HF := Lib.hid (show ∀ off, w2.frozen? ⟨w.heap.size + 1, off, none⟩ = false by rw [hw2, ← hc1]; exact fun off => by simp)
  have HB2 := Lib.hid (hbc.trans (hb2.mono (by omega)))
  have HK := Lib.hid (hk.below HB2.out)
  have HS := Lib.hid hc2
  have HWL := Lib.hid (show w.heap.size < w2.heap.size by omega)
  have HP0 := Lib.hid (fun (wq : World) (hq : Below w2.heap.size w2 wq) => (HK.out.2.1.below (hq.mono (by omega)) : IntIn wq w.heap.size (some k1) n1 K.i))
  have HP1 := Lib.hid (fun (wq : World) (hq : Below w2.heap.size w2 wq) => (HK.out.1.below (hq.mono (by omega)) : IntIn wq w.heap.size (some k0) 6 K.d))
  have S0 := Lib.hid (show (w2.drew.cell? ⟨w.heap.size, 0, none⟩ = some (.slice (some k0) 6 c0) ∧ w2.drew.cell? ⟨w.heap.size, 1, none⟩ = some (.slice (some k1) n1 c1) ∧ w2.drew.cell? ⟨w.heap.size, 2, none⟩ = some (.slice (some k2) 36 c2)) ∧ BelA w2 w2.drew from ⟨⟨HBX.out.1, HBX.out.2.1, HBX.out.2.2⟩, (Drawn.refl _).drew.toBelow⟩)
  obtain ⟨R, hR⟩ : ∃ R : Act → World → Prop, R = fun a wq => ∃ (j6 j10 : Value) (G0 G1 g10 e0 e1 : Nat), a = ⟨#[.agg #[.slice (some k0) 6 c0, .slice (some k1) n1 c1, .slice (some k2) 36 c2], .pointer (some ⟨w.heap.size, 0, none⟩), .pointer (some ⟨w.heap.size + 1, 0, none⟩), .pointer (some ⟨g10, 0, none⟩), undef, undef, j6, .pointer (some ⟨w.heap.size, 1, none⟩), .slice (some k1) n1 c1, .slice (some ⟨G0, 0, none⟩) n1 e0, j10, .pointer (some ⟨w.heap.size, 0, none⟩), .slice (some k0) 6 c0, .slice (some ⟨G1, 0, none⟩) 6 e1, .agg #[.slice (some ⟨G0, 0, none⟩) n1 e0, .slice (some ⟨G1, 0, none⟩) 6 e1, .slice none 0 0], undef, undef, undef, undef, undef, undef, undef, undef, undef, undef, undef, undef, undef, undef, undef, undef, undef, undef, undef, undef, undef, undef, undef, undef, undef, undef, undef, undef, undef, undef, undef, undef, undef, undef, undef], []⟩ ∧ DoneT w2 wq n1 K g10 G0 G1 e0 e1 := ⟨_, rfl⟩
  have HRI := Lib.hid (show ∀ (j6 j10 : Value) (G0 G1 g10 e0 e1 : Nat) (wq : World), DoneT w2 wq n1 K g10 G0 G1 e0 e1 → R ⟨#[.agg #[.slice (some k0) 6 c0, .slice (some k1) n1 c1, .slice (some k2) 36 c2], .pointer (some ⟨w.heap.size, 0, none⟩), .pointer (some ⟨w.heap.size + 1, 0, none⟩), .pointer (some ⟨g10, 0, none⟩), undef, undef, j6, .pointer (some ⟨w.heap.size, 1, none⟩), .slice (some k1) n1 c1, .slice (some ⟨G0, 0, none⟩) n1 e0, j10, .pointer (some ⟨w.heap.size, 0, none⟩), .slice (some k0) 6 c0, .slice (some ⟨G1, 0, none⟩) 6 e1, .agg #[.slice (some ⟨G0, 0, none⟩) n1 e0, .slice (some ⟨G1, 0, none⟩) 6 e1, .slice none 0 0], undef, undef, undef, undef, undef, undef, undef, undef, undef, undef, undef, undef, undef, undef, undef, undef, undef, undef, undef, undef, undef, undef, undef, undef, undef, undef, undef, undef, undef, undef, undef, undef, undef, undef, undef], []⟩ wq by rw [hR]; exact fun j6 j10 G0 G1 g10 e0 e1 wq h => ⟨j6, j10, G0, G1, g10, e0, e1, rfl, h⟩)
  have HRE := Lib.hid (show ∀ a wq, R a wq → ∃ (j6 j10 : Value) (G0 G1 g10 e0 e1 : Nat), a = ⟨#[.agg #[.slice (some k0) 6 c0, .slice (some k1) n1 c1, .slice (some k2) 36 c2], .pointer (some ⟨w.heap.size, 0, none⟩), .pointer (some ⟨w.heap.size + 1, 0, none⟩), .pointer (some ⟨g10, 0, none⟩), undef, undef, j6, .pointer (some ⟨w.heap.size, 1, none⟩), .slice (some k1) n1 c1, .slice (some ⟨G0, 0, none⟩) n1 e0, j10, .pointer (some ⟨w.heap.size, 0, none⟩), .slice (some k0) 6 c0, .slice (some ⟨G1, 0, none⟩) 6 e1, .agg #[.slice (some ⟨G0, 0, none⟩) n1 e0, .slice (some ⟨G1, 0, none⟩) 6 e1, .slice none 0 0], undef, undef, undef, undef, undef, undef, undef, undef, undef, undef, undef, undef, undef, undef, undef, undef, undef, undef, undef, undef, undef, undef, undef, undef, undef, undef, undef, undef, undef, undef, undef, undef, undef, undef, undef], []⟩ ∧ DoneT w2 wq n1 K g10 G0 G1 e0 e1 by rw [hR]; exact fun a wq h => h)
  have HW1 := Lib.hid hwc
  have HW2 := Lib.hid hw2
  clear hR hwc hw2 hbc hb2 hc1 hc2 hk
  go_enter Try.func47, Try.ntmps47
  go_wp2_with fail
  rw [← HW1.out, ← HW2.out]
  refine region_cut R ?_ ?_
  rotate_left
  · clear HBX HV HF HB2 HK HS HRE HW1 HW2 hn1
    as_aux_lemma =>
      go_region_held3 (fun wq => (wq.cell? ⟨w.heap.size, 0, none⟩ = some (.slice (some k0) 6 c0) ∧ wq.cell? ⟨w.heap.size, 1, none⟩ = some (.slice (some k1) n1 c1) ∧ wq.cell? ⟨w.heap.size, 2, none⟩ = some (.slice (some k2) 36 c2)) ∧ BelA w2 wq) (first | (with_reducible exact S0.out) | (with_reducible assumption) | (with_reducible refine bx_alloc ?_ _; with_reducible assumption) | (with_reducible refine bx_alloc_drew ?_ _; with_reducible assumption) | (with_reducible refine bx_set3 s1 ?_ HWL.out _ _ _; have := (bxa_below s0).size; have := (bxa_below s1).size; omega)) (first | ((fail_if_success (have := o0)); refine step_append_fresh _ rfl _ _ 25 rfl 3 i0 Try.underlying25 Hi.out hz0 hz1 hz2 _ n1 _ rfl (some k1) _ rfl (HP0.out _ (bxa_below (by with_reducible assumption))) (by omega) (by omega) ?_; intro G0 e0 w5 hG0 o0 hg; have hb := (Below.refl _ _).grown hg (Nat.le_refl _) (fun _ hk => by cases hk); have s0 := bx_on (by with_reducible assumption) hb; (try simp at hG0); have HG0 := Lib.hid hG0; clear hG0; have y0 := (o0.lt G0 rfl).2; (try ((first | (with_reducible have zz0 := Zero3.on (Zero3.drew (Zero3.new rfl)) hg) | (with_reducible have zz0 := Zero3.on (Zero3.drew (Zero3.alloc (Zero3.new rfl) _)) hg) | (with_reducible have zz0 := Zero3.on (Zero3.drew (Zero3.alloc (Zero3.alloc (Zero3.new rfl) _) _)) hg) | (with_reducible have zz0 := Zero3.on (Zero3.drew (Zero3.alloc (Zero3.alloc (Zero3.alloc (Zero3.new rfl) _) _) _)) hg) | (with_reducible have zz0 := Zero3.on (Zero3.drew (Zero3.alloc (Zero3.alloc (Zero3.alloc (Zero3.alloc (Zero3.new rfl) _) _) _) _)) hg)); (try simp only [World.size_alloc] at zz0); (try rw [World.size_drew] at zz0); obtain ⟨zc00, zc01, zc02, zf00, zf01, zf02⟩ := Zero3.cells zz0)); clear hg) | ((fail_if_success (have := o1)); refine step_append_fresh _ rfl _ _ 25 rfl 3 i0 Try.underlying25 Hi.out hz0 hz1 hz2 _ 6 _ rfl (some k0) _ rfl (HP1.out _ (bxa_below (by with_reducible assumption))) (by decide) (by decide) ?_; intro G1 e1 w6 hG1 o1 hg; have hb := (Below.refl _ _).grown hg (Nat.le_refl _) (fun _ hk => by cases hk); have s1 := bx_on (by with_reducible assumption) hb; (try simp at hG1); have HG1 := Lib.hid hG1; clear hG1; have y1 := (o1.lt G1 rfl).2; (first | (with_reducible have o0 := own_below (o0) hb) | (with_reducible have o0 := own_below (World.ownsRow.alloc (o0) _) hb) | (with_reducible have o0 := own_below (World.ownsRow.alloc (World.ownsRow.alloc (o0) _) _) hb) | (with_reducible have o0 := own_below (World.ownsRow.alloc (World.ownsRow.alloc (World.ownsRow.alloc (o0) _) _) _) hb) | (with_reducible have o0 := own_below (World.ownsRow.alloc (World.ownsRow.alloc (World.ownsRow.alloc (World.ownsRow.alloc (o0) _) _) _) _) hb)); (try ((first | (with_reducible have zz1 := Zero3.on (Zero3.new rfl) hg) | (with_reducible have zz1 := Zero3.on (Zero3.alloc (Zero3.new rfl) _) hg) | (with_reducible have zz1 := Zero3.on (Zero3.alloc (Zero3.alloc (Zero3.new rfl) _) _) hg) | (with_reducible have zz1 := Zero3.on (Zero3.alloc (Zero3.alloc (Zero3.alloc (Zero3.new rfl) _) _) _) hg) | (with_reducible have zz1 := Zero3.on (Zero3.alloc (Zero3.alloc (Zero3.alloc (Zero3.alloc (Zero3.new rfl) _) _) _) _) hg) | (with_reducible have zz1 := Zero3.on (zz0) hg) | (with_reducible have zz1 := Zero3.on (Zero3.alloc (zz0) _) hg) | (with_reducible have zz1 := Zero3.on (Zero3.alloc (Zero3.alloc (zz0) _) _) hg) | (with_reducible have zz1 := Zero3.on (Zero3.alloc (Zero3.alloc (Zero3.alloc (zz0) _) _) _) hg)); (try simp only [World.size_alloc] at zz1); (try rw [World.size_drew] at zz1); obtain ⟨zc10, zc11, zc12, zf10, zf11, zf12⟩ := Zero3.cells zz1)); clear hg))
      all_goals
        with_reducible refine ⟨rfl, ?_⟩
        have l0 := (bxa_below s0).size
        have l1 := (bxa_below s1).size
        have x0 := HG0.out
        have x1 := HG1.out
        first
        | (have hz := DoneT.stored o0 o1 (by omega) (bxa_below s1) zz1 (by omega) (by omega)
           with_reducible exact HRI.out _ _ _ _ _ _ _ _ hz)
        | (have hz := DoneT.made o0 o1 (by omega) (bxa_below s1)
           with_reducible exact HRI.out _ _ _ _ _ _ _ _ hz)
  · intro a wq hRa
    obtain ⟨j6, j10, G0, G1, g10, e0, e1, rfl, ⟨hbox, hfz⟩, o0, o1, ⟨hne, hn0, hn1'⟩, hbel, hg10, hgl⟩ := HRE.out a wq hRa
    have HBQ := Lib.hid hbel
    have HR0 := Lib.hid o0
    have HR1 := Lib.hid o1
    have HBX0 := Lib.hid hbox
    have HFZ0 := Lib.hid hfz
    have HGB := Lib.hid hg10
    have HNE := Lib.hid (And.intro hn0 hn1')
    obtain ⟨b3, hb3⟩ : ∃ b, b = wq.heap.size := ⟨_, rfl⟩
    have HB3 := Lib.hid hb3
    have HGL := Lib.hid (show g10 < b3 by omega)
    have K2 := Lib.hid (show IntIn w2 w.heap.size (some k2) 36 K.r from HK.out.2.2)
    clear hRa HRE HRI HP0 HP1 S0 hbox hfz o0 o1 hne hn0 hn1' hbel hg10 hgl hb3
    have x36 : IntKind.i64.wrap (6 * 6) = 36 := by decide
    go_wp2
    go_loopw [5] (fun iv wr => ∃ i : Nat, i ≤ 36 ∧ iv = .int .i64 i ∧ ∃ RV, Box3 wr g10 (.slice (some ⟨G0, 0, none⟩) n1 e0) (.slice (some ⟨G1, 0, none⟩) 6 e1) RV ∧ (∀ off, wr.frozen? ⟨g10, off, none⟩ = false) ∧ wr.ownsRow b3 3 1 RV i (ints (Co.turnTo K i)) ∧ wq.grownBy wr (some g10)) (fun iv _ => 36 - (intOf iv).toNat)
    case atStart => exact ⟨0, by omega, rfl, _, HBX0.out, HFZ0.out, World.ownsRow_nil _ _ _ _, World.grownBy.refl _ _⟩
    case round =>
      obtain ⟨i, hi, rfl, RV, hbx, hfz, hown, hg⟩ := hrel
      have BR := Lib.hid (HBQ.out.trans (Kit.below_of_grown hg (fun b e => by injection e with e; have := HGB.out; omega) HBQ.out.size))
      have bc2 : wr.cell? ⟨w.heap.size, 2, none⟩ = some (.slice (some k2) 36 c2) := (BR.out.cell (by exact HWL.out)).trans HBX.out.2.2
      have HOW := Lib.hid hown
      have HGG := Lib.hid hg
      have HBXR := Lib.hid hbx
      have HFZR := Lib.hid hfz
      clear hbx hfz hown hg
      by_cases hlt : i < 36
      · obtain ⟨t, ht⟩ : ∃ t, t = i % 6 * 6 + i / 6 := ⟨_, rfl⟩
        have ht36 : t < 36 := by omega
        obtain ⟨v, hv⟩ : ∃ v, v = Zs.at K.r t := ⟨_, rfl⟩
        obtain ⟨a6, ha6⟩ : ∃ z, z = i % 6 * 6 := ⟨_, rfl⟩
        obtain ⟨b6, hb6⟩ : ∃ z, z = i / 6 := ⟨_, rfl⟩
        obtain ⟨c6, hc6⟩ : ∃ z, z = i % 6 := ⟨_, rfl⟩
        have m1 : (i : Int).tmod 6 = (c6 : Int) := by rw [Int.tmod_eq_emod_of_nonneg (by omega)]; omega
        have m2 : (i : Int).tdiv 6 = (b6 : Int) := by rw [Int.tdiv_eq_ediv_of_nonneg (by omega)]; omega
        have m3 : IntKind.i64.wrap ((c6 : Int) * 6) = (a6 : Int) := by rw [Kit.w64 (by omega) (by omega)]; omega
        have m5 : IntKind.i64.wrap (b6 : Int) = (b6 : Int) := Kit.w64 (by omega) (by omega)
        have m6 : IntKind.i64.wrap (c6 : Int) = (c6 : Int) := Kit.w64 (by omega) (by omega)
        have m4 : IntKind.i64.wrap ((a6 : Int) + (b6 : Int)) = (t : Int) := by rw [Kit.w64 (by omega) (by omega)]; omega
        have t0 : (0 : Int) ≤ (t : Int) := by omega
        have t1 : (t : Int) < 36 := by omega
        have kc : w2.cell? (k2.add t) = some (.int .i64 v) := by rw [hv]; exact K2.out.here ht36
        have HSS := Lib.hid (fun (wx : World) (hx : Below w2.heap.size w2 wx) => (⟨(hx.cell (by exact HWL.out)).trans HBX.out.2.2, (hx.cell (World.block_lt_of_cell? _ _ kc)).trans kc⟩ : wx.cell? ⟨w.heap.size, 2, none⟩ = some (.slice (some k2) 36 c2) ∧ wx.cell? (k2.add t) = some (.int .i64 v)))
        have HVV := Lib.hid (show v = Zs.at K.r (i % 6 * 6 + i / 6) by rw [hv, ht])
        have HLN := Lib.hid (Co.turnTo_length K i)
        clear hv ht ha6 hb6 hc6
        have bg2 : wr.cell? ⟨g10, 2, none⟩ = some RV := HBXR.out.2.2
        have kv : wr.cell? (k2.add t) = some (.int .i64 v) := (HSS.out _ BR.out).2
        clear kc
        clear bg2 kv
        go_wp2_with fail
        have S0 := HSS.out _ (Drawn.below BR.out (Drawn.refl wr).drew)
        refine wp_region_held_drew (S := (fun wq => wq.cell? ⟨w.heap.size, 2, none⟩ = some (.slice (some k2) 36 c2) ∧ wq.cell? (k2.add t) = some (.int .i64 v))) (by kernel_rfl) S0 (fun hHeld => ?_)
        have HBD := Lib.hid (Drawn.below BR.out (Drawn.refl wr).drew)
        have HG := Lib.hid (show wq.grownBy wr.drew (some g10) from grown_and HGG.out (⟨rfl, rfl, rfl, Nat.le_refl _, fun _ _ _ => rfl⟩ : wr.grownBy wr.drew none) (fun _ h => by cases h))
        have HO := Lib.hid (own_drawn HOW.out (Drawn.refl wr).drew)
        have HBX3 := Lib.hid (show Box3 wr.drew g10 (.slice (some ⟨G0, 0, none⟩) n1 e0) (.slice (some ⟨G1, 0, none⟩) 6 e1) RV from HBXR.out)
        have HFZ := Lib.hid (show ∀ off, wr.drew.frozen? ⟨g10, off, none⟩ = false from HFZR.out)
        have HBZ := Lib.hid (show b3 ≤ wr.drew.heap.size by rw [HB3.out]; exact HGG.out.size)
        clear bc2 S0 HOW HGG HBXR HFZR BR
        generalize wr.drew = wd at HBD HG HO HBX3 HFZ HBZ hHeld ⊢
        refine rg_take (i := 0) (v := ?_) rfl (by kernel_rfl) (by kernel_rfl) (by kernel_rfl) (fun _ _ _ h => h) (by rfl) ?_ (by assumption) ?_
        rotate_left
        · intro w hSw
          (try dsimp only at hSw)
          go_simp
          (try with_reducible rfl)
        (try simp only [Act.put, List.setIfInBounds_toArray, List.set_cons_zero, List.set_cons_succ])
        refine rg_take (i := 2) (v := ?_) rfl (by kernel_rfl) (by kernel_rfl) (by kernel_rfl) (fun _ _ _ h => h) (by rfl) ?_ (by assumption) ?_
        rotate_left
        · intro w hSw
          (try dsimp only at hSw)
          go_simp
          (try with_reducible rfl)
        (try simp only [Act.put, List.setIfInBounds_toArray, List.set_cons_zero, List.set_cons_succ])
        refine rg_take (i := 3) (v := ?_) rfl (by kernel_rfl) (by kernel_rfl) (by kernel_rfl) (fun _ _ _ h => h) (by rfl) ?_ (by assumption) ?_
        rotate_left
        · intro w hSw
          (try dsimp only at hSw)
          go_simp
          (try with_reducible rfl)
        (try simp only [Act.put, List.setIfInBounds_toArray, List.set_cons_zero, List.set_cons_succ])
        refine rg_take (i := 4) (v := ?_) rfl (by kernel_rfl) (by kernel_rfl) (by kernel_rfl) (fun _ _ _ h => h) (by rfl) ?_ (by assumption) ?_
        rotate_left
        · intro w hSw
          (try dsimp only at hSw)
          go_simp
          (try with_reducible rfl)
        (try simp only [Act.put, List.setIfInBounds_toArray, List.set_cons_zero, List.set_cons_succ])
        refine rg_take (i := 5) (v := ?_) rfl (by kernel_rfl) (by kernel_rfl) (by kernel_rfl) (fun _ _ _ h => h) (by rfl) ?_ (by assumption) ?_
        rotate_left
        · intro w hSw
          (try dsimp only at hSw)
          go_simp
          (try with_reducible rfl)
        (try simp only [Act.put, List.setIfInBounds_toArray, List.set_cons_zero, List.set_cons_succ])
        refine rg_take (i := 6) (v := ?_) rfl (by kernel_rfl) (by kernel_rfl) (by kernel_rfl) (fun _ _ _ h => h) (by rfl) ?_ (by assumption) ?_
        rotate_left
        · intro w hSw
          (try dsimp only at hSw)
          go_simp
          (try with_reducible rfl)
        (try simp only [Act.put, List.setIfInBounds_toArray, List.set_cons_zero, List.set_cons_succ])
        refine rg_take (i := 7) (v := ?_) rfl (by kernel_rfl) (by kernel_rfl) (by kernel_rfl) (fun _ _ _ h => h) (by rfl) ?_ (by assumption) ?_
        rotate_left
        · intro w hSw
          (try dsimp only at hSw)
          go_simp
          (try with_reducible rfl)
        (try simp only [Act.put, List.setIfInBounds_toArray, List.set_cons_zero, List.set_cons_succ])
        refine rg_take (i := 8) (v := ?_) rfl (by kernel_rfl) (by kernel_rfl) (by kernel_rfl) (fun _ _ _ h => h) (by rfl) ?_ (by assumption) ?_
        rotate_left
        · intro w hSw
          (try dsimp only at hSw)
          go_simp
          (try with_reducible rfl)
        (try simp only [Act.put, List.setIfInBounds_toArray, List.set_cons_zero, List.set_cons_succ])
        refine rg_take (i := 9) (v := ?_) rfl (by kernel_rfl) (by kernel_rfl) (by kernel_rfl) (fun _ _ _ h => h) (by rfl) ?_ (by assumption) ?_
        rotate_left
        · intro w hSw
          (try dsimp only at hSw)
          go_simp
          (try with_reducible rfl)
        (try simp only [Act.put, List.setIfInBounds_toArray, List.set_cons_zero, List.set_cons_succ])
        refine rg_take (i := 10) (v := ?_) rfl (by kernel_rfl) (by kernel_rfl) (by kernel_rfl) (fun _ _ _ h => h) (by rfl) ?_ (by assumption) ?_
        rotate_left
        · intro w hSw
          (try dsimp only at hSw)
          go_simp
          (try with_reducible rfl)
        (try simp only [Act.put, List.setIfInBounds_toArray, List.set_cons_zero, List.set_cons_succ])
        refine rg_take (i := 11) (v := ?_) rfl (by kernel_rfl) (by kernel_rfl) (by kernel_rfl) (fun _ _ _ h => h) (by rfl) ?_ (by assumption) ?_
        rotate_left
        · intro w hSw
          (try dsimp only at hSw)
          go_simp
          (try with_reducible rfl)
        (try simp only [Act.put, List.setIfInBounds_toArray, List.set_cons_zero, List.set_cons_succ])
        refine rg_take (i := 12) (v := ?_) rfl (by kernel_rfl) (by kernel_rfl) (by kernel_rfl) (fun _ _ _ h => h) (by rfl) ?_ (by assumption) ?_
        rotate_left
        · intro w hSw
          (try dsimp only at hSw)
          go_simp
          (try with_reducible rfl)
        (try simp only [Act.put, List.setIfInBounds_toArray, List.set_cons_zero, List.set_cons_succ])
        refine rg_take (i := 13) (v := ?_) rfl (by kernel_rfl) (by kernel_rfl) (by kernel_rfl) (fun _ _ _ h => h) (by rfl) ?_ (by assumption) ?_
        rotate_left
        · intro w hSw
          (try dsimp only at hSw)
          go_simp
          (try with_reducible rfl)
        (try simp only [Act.put, List.setIfInBounds_toArray, List.set_cons_zero, List.set_cons_succ])
        refine rg_take (i := 14) (v := ?_) rfl (by kernel_rfl) (by kernel_rfl) (by kernel_rfl) (fun _ _ _ h => h) (by rfl) ?_ (by assumption) ?_
        rotate_left
        · intro w hSw
          (try dsimp only at hSw)
          go_simp
          (try with_reducible rfl)
        (try simp only [Act.put, List.setIfInBounds_toArray, List.set_cons_zero, List.set_cons_succ])
        clear m1 m2 m3 m4 m5 m6
        have gl : wd.cell? ⟨g10, 2, none⟩ = some RV := HBX3.out.2.2
        refine wpAnyH_ready (rs := [1, 15]) (by kernel_rfl) (by simp) ?_
        refine AllReadyH.cons (rg_at rfl) (fun KK hK => ?_) (AllReadyH.cons (rg_at rfl) (fun KK hK => ?_) AllReadyH.nil)
        · as_aux_lemma =>
            go_simp
            refine hK.out _ _ (HSS.out _ HBD.out) (fun hHeld => ?_)
            clear hK KK
            (try simp only [Act.put, List.setIfInBounds_toArray, List.set_cons_zero, List.set_cons_succ])
            clear gl
            refine rg_one (i := 15) rfl (by kernel_rfl) (fun KK hK => ?_)
            go_simp
            refine hK.out _ _ (HSS.out _ (HBD.out.alloc HBD.out.size _)) (fun hHeld => ?_)
            clear hK KK
            (try simp only [Act.put, List.setIfInBounds_toArray, List.set_cons_zero, List.set_cons_succ])
            refine rg_one (i := 16) rfl (by kernel_rfl) (fun KK hK => ?_)
            refine step_append_int wd rfl _ _ 25 rfl b3 3 i0 Try.underlying25 Hi.out hz0 hz1 hz2 RV i (Co.turnTo K i) rfl HO.out HLN.out.symm v rfl (i + 1) (by rw [HLN.out]) (by rw [HLN.out]; omega) HBZ.out ?_
            intro v' w6 hown hgrow
            obtain ⟨A9, c9, rfl⟩ := own_slice hown
            have G6 := Lib.hid (grown_and (grown_and HG.out (World.grownBy_alloc wd (.cells #[.int .i64 v] 3) none) (fun _ h => by cases h)) hgrow (fun j hj => by have := (HO.out.lt j hj).1; have := HB3.out; omega))
            have O6 := Lib.hid hown
            have HFX := Lib.hid (sw_keep HBX3.out HFZ.out hgrow (fun b e => by have := (HO.out.lt b e).1; have := HGL.out; omega))
            have Bel6 := Lib.hid (HBQ.out.trans (Kit.below_of_grown G6.out (fun b e => by injection e with e; have := HGB.out; omega) HBQ.out.size))
            clear hown hgrow
            refine hK.out _ _ (HSS.out _ Bel6.out) (fun hHeld => ?_)
            clear hK KK
            (try simp only [Act.put, List.setIfInBounds_toArray, List.set_cons_zero, List.set_cons_succ])
            refine rg_take (i := 17) (v := ?_) rfl (by kernel_rfl) (by kernel_rfl) (by kernel_rfl) (fun _ _ _ h => h) (by rfl) ?_ (by assumption) ?_
            rotate_left
            · intro w hSw
              (try dsimp only at hSw)
              go_simp
              (try with_reducible rfl)
            (try simp only [Act.put, List.setIfInBounds_toArray, List.set_cons_zero, List.set_cons_succ])
            obtain ⟨_, _, gc, gz⟩ := HFX.out
            have gf := gz 2
            clear gz
            refine rg_one (i := 18) rfl (by kernel_rfl) (fun KK hK => ?_)
            go_simp
            clear gc gf
            refine hK.out _ _ (HSS.out _ (Bel6.out.setCell HGB.out _)) (fun hHeld => ?_)
            clear hK KK
            (try simp only [Act.put, List.setIfInBounds_toArray, List.set_cons_zero, List.set_cons_succ])
            refine wpAnyH_done (by kernel_rfl) ?_ _
            go_wp2
            go_roundw
            case rel =>
              refine ⟨i + 1, by omega, by go_num, .slice A9 (i + 1) c9, ⟨?_, ?_, ?_⟩, ?_, ?_, ?_⟩
              · exact (World.cell?_setCell_other _ _ _ _ (fun e => by injection e with _ e2; cases e2)).trans HFX.out.1
              · exact (World.cell?_setCell_other _ _ _ _ (fun e => by injection e with _ e2; cases e2)).trans HFX.out.2.1
              · exact World.cell?_setCell_same' _ _ _ (by rw [HFX.out.2.2.1]; rfl)
              · intro off; rw [World.frozen?_setCell]; exact HFX.out.2.2.2 off
              · rw [Co.turnTo_succ, ← HVV.out]
                exact World.ownsRow.kept O6.out (Kit.grown_set _ _ _ _) (.inr (fun e => by have := (O6.out.lt g10 e).1; have := HGL.out; omega))
              · exact Kit.grown_then_set G6.out _ _
            case measure => simp [intOf]; omega
        · as_aux_lemma =>
            go_simp
            refine hK.out _ _ (HSS.out _ (HBD.out.alloc HBD.out.size _)) (fun hHeld => ?_)
            clear hK KK
            (try simp only [Act.put, List.setIfInBounds_toArray, List.set_cons_zero, List.set_cons_succ])
            have gl2 : (wd.alloc (.cells #[.int .i64 v] 3)).cell? ⟨g10, 2, none⟩ = some RV := by rw [World.cell?_alloc_lt wd _ _ (World.block_lt_of_cell? _ _ gl)]; exact gl
            clear gl
            refine rg_one (i := 1) rfl (by kernel_rfl) (fun KK hK => ?_)
            go_simp
            clear gl2
            refine hK.out _ _ (HSS.out _ (HBD.out.alloc HBD.out.size _)) (fun hHeld => ?_)
            clear hK KK
            (try simp only [Act.put, List.setIfInBounds_toArray, List.set_cons_zero, List.set_cons_succ])
            refine rg_one (i := 16) rfl (by kernel_rfl) (fun KK hK => ?_)
            refine step_append_int wd rfl _ _ 25 rfl b3 3 i0 Try.underlying25 Hi.out hz0 hz1 hz2 RV i (Co.turnTo K i) rfl HO.out HLN.out.symm v rfl (i + 1) (by rw [HLN.out]) (by rw [HLN.out]; omega) HBZ.out ?_
            intro v' w6 hown hgrow
            obtain ⟨A9, c9, rfl⟩ := own_slice hown
            have G6 := Lib.hid (grown_and (grown_and HG.out (World.grownBy_alloc wd (.cells #[.int .i64 v] 3) none) (fun _ h => by cases h)) hgrow (fun j hj => by have := (HO.out.lt j hj).1; have := HB3.out; omega))
            have O6 := Lib.hid hown
            have HFX := Lib.hid (sw_keep HBX3.out HFZ.out hgrow (fun b e => by have := (HO.out.lt b e).1; have := HGL.out; omega))
            have Bel6 := Lib.hid (HBQ.out.trans (Kit.below_of_grown G6.out (fun b e => by injection e with e; have := HGB.out; omega) HBQ.out.size))
            clear hown hgrow
            refine hK.out _ _ (HSS.out _ Bel6.out) (fun hHeld => ?_)
            clear hK KK
            (try simp only [Act.put, List.setIfInBounds_toArray, List.set_cons_zero, List.set_cons_succ])
            refine rg_take (i := 17) (v := ?_) rfl (by kernel_rfl) (by kernel_rfl) (by kernel_rfl) (fun _ _ _ h => h) (by rfl) ?_ (by assumption) ?_
            rotate_left
            · intro w hSw
              (try dsimp only at hSw)
              go_simp
              (try with_reducible rfl)
            (try simp only [Act.put, List.setIfInBounds_toArray, List.set_cons_zero, List.set_cons_succ])
            obtain ⟨_, _, gc, gz⟩ := HFX.out
            have gf := gz 2
            clear gz
            refine rg_one (i := 18) rfl (by kernel_rfl) (fun KK hK => ?_)
            go_simp
            clear gc gf
            refine hK.out _ _ (HSS.out _ (Bel6.out.setCell HGB.out _)) (fun hHeld => ?_)
            clear hK KK
            (try simp only [Act.put, List.setIfInBounds_toArray, List.set_cons_zero, List.set_cons_succ])
            refine wpAnyH_done (by kernel_rfl) ?_ _
            go_wp2
            go_roundw
            case rel =>
              refine ⟨i + 1, by omega, by go_num, .slice A9 (i + 1) c9, ⟨?_, ?_, ?_⟩, ?_, ?_, ?_⟩
              · exact (World.cell?_setCell_other _ _ _ _ (fun e => by injection e with _ e2; cases e2)).trans HFX.out.1
              · exact (World.cell?_setCell_other _ _ _ _ (fun e => by injection e with _ e2; cases e2)).trans HFX.out.2.1
              · exact World.cell?_setCell_same' _ _ _ (by rw [HFX.out.2.2.1]; rfl)
              · intro off; rw [World.frozen?_setCell]; exact HFX.out.2.2.2 off
              · rw [Co.turnTo_succ, ← HVV.out]
                exact World.ownsRow.kept O6.out (Kit.grown_set _ _ _ _) (.inr (fun e => by have := (O6.out.lt g10 e).1; have := HGL.out; omega))
              · exact Kit.grown_then_set G6.out _ _
            case measure => simp [intOf]; omega
      · obtain rfl : i = 36 := by omega
        obtain ⟨A9, c9, rfl⟩ := own_slice HOW.out
        obtain ⟨G2, rfl, hG2, _⟩ := own_form HOW.out (by decide)
        have hs2 := HS.out
        have hsq := HBQ.out.size
        have hb3 := HB3.out
        have hl0 := (HR0.out.lt G0 rfl).1
        have hl1 := (HR1.out.lt G1 rfl).1
        obtain ⟨bx0, bx1, bx2⟩ := HBXR.out
        obtain ⟨y0, y1, y2⟩ := (show Box3 wr (w.heap.size + 1) (.slice none 0 0) (.slice none 0 0) (.slice none 0 0) from HV.out.below BR.out (by omega))
        have fz := free_below BR.out (by omega) HF.out
        have f0 := fz 0
        have f1 := fz 1
        have f2 := fz 2
        have HE := Lib.hid (show ∀ u0 u1 u2 : Value, wr.grownBy (((wr.setCell ⟨w.heap.size + 1, 0, none⟩ u0).setCell ⟨w.heap.size + 1, 1, none⟩ u1).setCell ⟨w.heap.size + 1, 2, none⟩ u2) (some (w.heap.size + 1)) ∧ Below w.heap.size w (((wr.setCell ⟨w.heap.size + 1, 0, none⟩ u0).setCell ⟨w.heap.size + 1, 1, none⟩ u1).setCell ⟨w.heap.size + 1, 2, none⟩ u2) from fun u0 u1 u2 =>
          ⟨Kit.grown_then_set (Kit.grown_then_set (Kit.grown_set _ _ _ _) _ _) _ _, (((HB2.out.trans (BR.out.mono (by omega))).setCell (by show w.heap.size ≤ w.heap.size + 1; omega) _).setCell (by show w.heap.size ≤ w.heap.size + 1; omega) _).setCell (by show w.heap.size ≤ w.heap.size + 1; omega) _⟩)
        have HNL := Lib.hid (show G0 ≠ w.heap.size + 1 ∧ G1 ≠ w.heap.size + 1 ∧ G2 ≠ w.heap.size + 1 by omega)
        clear fz hs2 hsq hb3 hl0 hl1 hG2
        go_wp2
        (try simp only [Exit.inBlock, Exit.then])
        refine bodyPost_ret (v := .agg #[.slice (some ⟨G0, 0, none⟩) n1 e0, .slice (some ⟨G1, 0, none⟩) 6 e1, .slice (some ⟨G2, 0, none⟩) 36 c9]) ?_ rfl ?_
        · rw [results_cell1 rfl]
          go_simp
        · obtain ⟨hgr, hbl⟩ := HE.out (.slice (some ⟨G0, 0, none⟩) n1 e0) (.slice (some ⟨G1, 0, none⟩) 6 e1) (.slice (some ⟨G2, 0, none⟩) 36 c9)
          have q0 := World.ownsRow.kept (World.ownsRow.kept HR0.out HGG.out (.inr (fun e => HNE.out.1 (by injection e with e; exact e.symm)))) hgr (.inr (fun e => HNL.out.1 (by injection e)))
          have q1 := World.ownsRow.kept (World.ownsRow.kept HR1.out HGG.out (.inr (fun e => HNE.out.2 (by injection e with e; exact e.symm)))) hgr (.inr (fun e => HNL.out.2.1 (by injection e)))
          have q2 := World.ownsRow.kept HOW.out hgr (.inr (fun e => HNL.out.2.2 (by injection e)))
          exact ⟨G0, G1, G2, e0, e1, c9, rfl, ⟨IntIn.of_own q0, IntIn.of_own q1, IntIn.of_own q2⟩, hbl⟩

end Go.Proofs.Ytlndaflhlkbedaa
