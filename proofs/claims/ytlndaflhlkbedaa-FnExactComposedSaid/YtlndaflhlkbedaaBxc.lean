/- Contracts (Bxc). -/
import Derived.Test.YtlndaflhlkbedaaBoxC
import Derived.Test.YtlndaflhlkbedaaDr
namespace Go.Proofs.Ytlndaflhlkbedaa
open Go.RowKit
set_option linter.unusedVariables false

/-- below a world's blocks nothing has turned -/
def BelA (w wq : World) : Prop := Below w.heap.size w wq
section
variable {wa wx wy : World} {b : Nat} {v0 v1 v2 : Value}
theorem bx_below (h : wx.cell? ⟨b, 0, none⟩ = some v0 ∧ wx.cell? ⟨b, 1, none⟩ = some v1 ∧ wx.cell? ⟨b, 2, none⟩ = some v2 ∧ BelA wa wx) : Below wa.heap.size wa wx := h.2.2.2
theorem bx_keep (h : wx.cell? ⟨b, 0, none⟩ = some v0 ∧ wx.cell? ⟨b, 1, none⟩ = some v1 ∧ wx.cell? ⟨b, 2, none⟩ = some v2 ∧ BelA wa wx) (hb : Below wx.heap.size wx wy) : wy.cell? ⟨b, 0, none⟩ = some v0 ∧ wy.cell? ⟨b, 1, none⟩ = some v1 ∧ wy.cell? ⟨b, 2, none⟩ = some v2 ∧ BelA wa wy :=
  have c : ∀ {p : Addr} {v : Value}, wx.cell? p = some v → wy.cell? p = some v := fun hc => (hb.cell (World.block_lt_of_cell? _ _ hc)).trans hc
  ⟨c h.1, c h.2.1, c h.2.2.1, h.2.2.2.trans (hb.mono h.2.2.2.size)⟩
theorem bx_drawn (h : wx.cell? ⟨b, 0, none⟩ = some v0 ∧ wx.cell? ⟨b, 1, none⟩ = some v1 ∧ wx.cell? ⟨b, 2, none⟩ = some v2 ∧ BelA wa wx) (hd : Drawn wx wy) : wy.cell? ⟨b, 0, none⟩ = some v0 ∧ wy.cell? ⟨b, 1, none⟩ = some v1 ∧ wy.cell? ⟨b, 2, none⟩ = some v2 ∧ BelA wa wy := bx_keep h hd.toBelow
end

end Go.Proofs.Ytlndaflhlkbedaa
