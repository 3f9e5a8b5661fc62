/- Contracts (Px). -/
import Derived.Test.YtlndaflhlkbedaaBxc
import Derived.Test.YtlndaflhlkbedaaKit
namespace Go.Proofs.Ytlndaflhlkbedaa
open Go.RowKit
set_option linter.unusedVariables false

section
variable {wa wx wy : World} {s t : Nat} {v0 v1 v2 v3 : Int}
theorem px_below (h : (wx.cell? ⟨s, 0, none⟩ = some (.int .i64 v0) ∧ wx.cell? ⟨s, 1, none⟩ = some (.int .i64 v1) ∧ wx.cell? ⟨t, 0, none⟩ = some (.int .i64 v2) ∧ wx.cell? ⟨t, 1, none⟩ = some (.int .i64 v3)) ∧ BelA wa wx) : Below wa.heap.size wa wx := h.2
theorem px_keep (h : (wx.cell? ⟨s, 0, none⟩ = some (.int .i64 v0) ∧ wx.cell? ⟨s, 1, none⟩ = some (.int .i64 v1) ∧ wx.cell? ⟨t, 0, none⟩ = some (.int .i64 v2) ∧ wx.cell? ⟨t, 1, none⟩ = some (.int .i64 v3)) ∧ BelA wa wx) (hb : Below wx.heap.size wx wy) : (wy.cell? ⟨s, 0, none⟩ = some (.int .i64 v0) ∧ wy.cell? ⟨s, 1, none⟩ = some (.int .i64 v1) ∧ wy.cell? ⟨t, 0, none⟩ = some (.int .i64 v2) ∧ wy.cell? ⟨t, 1, none⟩ = some (.int .i64 v3)) ∧ BelA wa wy :=
  have c : ∀ {p : Addr} {v : Value}, wx.cell? p = some v → wy.cell? p = some v := fun hc => (hb.cell (World.block_lt_of_cell? _ _ hc)).trans hc
  ⟨⟨c h.1.1, c h.1.2.1, c h.1.2.2.1, c h.1.2.2.2⟩, h.2.trans (hb.mono h.2.size)⟩
theorem p2_below (h : (wx.cell? ⟨s, 0, none⟩ = some (.int .i64 v0) ∧ wx.cell? ⟨s, 1, none⟩ = some (.int .i64 v1)) ∧ BelA wa wx) : Below wa.heap.size wa wx := h.2
theorem p2_keep (h : (wx.cell? ⟨s, 0, none⟩ = some (.int .i64 v0) ∧ wx.cell? ⟨s, 1, none⟩ = some (.int .i64 v1)) ∧ BelA wa wx) (hb : Below wx.heap.size wx wy) : (wy.cell? ⟨s, 0, none⟩ = some (.int .i64 v0) ∧ wy.cell? ⟨s, 1, none⟩ = some (.int .i64 v1)) ∧ BelA wa wy :=
  have c : ∀ {p : Addr} {v : Value}, wx.cell? p = some v → wy.cell? p = some v := fun hc => (hb.cell (World.block_lt_of_cell? _ _ hc)).trans hc
  ⟨⟨c h.1.1, c h.1.2⟩, h.2.trans (hb.mono h.2.size)⟩
/-- two ints in a block -/
def Bx2 (w : World) (b : Nat) (i j : Int) : Prop := w.cell? ⟨b, 0, none⟩ = some (.int .i64 i) ∧ w.cell? ⟨b, 1, none⟩ = some (.int .i64 j)
theorem Bx2.below {w w' : World} {b B : Nat} {i j : Int} (h : Bx2 w b i j) (hb : Below B w w') (hl : b < B) : Bx2 w' b i j := ⟨(hb.cell (p := ⟨b, 0, none⟩) hl).trans h.1, (hb.cell (p := ⟨b, 1, none⟩) hl).trans h.2⟩
theorem Bx2.made (w : World) (i j : Int) (e : TypeId) : Bx2 (w.alloc (.cells #[.int .i64 i, .int .i64 j] e)) w.heap.size i j := ⟨by simp, by simp⟩
theorem Bx2.lt {w : World} {b : Nat} {i j : Int} (h : Bx2 w b i j) : b < w.heap.size := World.block_lt_of_cell? _ _ h.1
theorem below_drawn_b {B : Nat} {a b : World} (h : Below B a b) (n : Nat) : Below B a (b.drewN n) := ⟨h.os, h.tape, h.output, h.size, h.block⟩
end

end Go.Proofs.Ytlndaflhlkbedaa
