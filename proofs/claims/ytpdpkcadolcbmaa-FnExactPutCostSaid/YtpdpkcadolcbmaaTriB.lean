/- Contracts (TriB). -/
import Derived.Test.YtpdpkcadolcbmaaPutCI
namespace Go.Proofs.Ytpdpkcadolcbmaa
open Go.RowKit
set_option linter.unusedVariables false

/-- a variable of three cells below B stands as it did; so does all below B -/
def TriB (B : Nat) (w0 : World) (s : Nat) (wq : World) : Prop := Below B w0 wq ∧ s < B ∧ B ≤ w0.heap.size
theorem triB_keep {B : Nat} {w0 wx wq : World} {s : Nat} {a0 a1 a2 : Option Value} (hS : wx.cell? ⟨s, 0, none⟩ = a0 ∧ wx.cell? ⟨s, 1, none⟩ = a1 ∧ wx.cell? ⟨s, 2, none⟩ = a2 ∧ TriB B w0 s wx)
    (hb : Below B wx wq) : wq.cell? ⟨s, 0, none⟩ = a0 ∧ wq.cell? ⟨s, 1, none⟩ = a1 ∧ wq.cell? ⟨s, 2, none⟩ = a2 ∧ TriB B w0 s wq := by
  obtain ⟨h0, h1, h2, hB, hs, hz⟩ := hS
  have c (o : Nat) : wq.cell? ⟨s, o, none⟩ = wx.cell? ⟨s, o, none⟩ := hb.cell (p := ⟨s, o, none⟩) hs
  exact ⟨by rw [c 0, h0], by rw [c 1, h1], by rw [c 2, h2], hB.trans hb, hs, hz⟩
theorem triB_alloc {B : Nat} {w0 wx : World} {s : Nat} {a0 a1 a2 : Option Value} (hS : wx.cell? ⟨s, 0, none⟩ = a0 ∧ wx.cell? ⟨s, 1, none⟩ = a1 ∧ wx.cell? ⟨s, 2, none⟩ = a2 ∧ TriB B w0 s wx) (o : Obj) :
    (wx.alloc o).cell? ⟨s, 0, none⟩ = a0 ∧ (wx.alloc o).cell? ⟨s, 1, none⟩ = a1 ∧ (wx.alloc o).cell? ⟨s, 2, none⟩ = a2 ∧ TriB B w0 s (wx.alloc o) :=
  triB_keep hS ((Below.refl _ _).alloc (Nat.le_trans hS.2.2.2.2.2 hS.2.2.2.1.size) o)
theorem triB_below {B : Nat} {w0 wx : World} {s : Nat} {a0 a1 a2 : Option Value} (hS : wx.cell? ⟨s, 0, none⟩ = a0 ∧ wx.cell? ⟨s, 1, none⟩ = a1 ∧ wx.cell? ⟨s, 2, none⟩ = a2 ∧ TriB B w0 s wx) : Below B w0 wx := hS.2.2.2.1
theorem triB_size {B : Nat} {w0 wx : World} {s : Nat} {a0 a1 a2 : Option Value} (hS : wx.cell? ⟨s, 0, none⟩ = a0 ∧ wx.cell? ⟨s, 1, none⟩ = a1 ∧ wx.cell? ⟨s, 2, none⟩ = a2 ∧ TriB B w0 s wx) : B ≤ wx.heap.size := Nat.le_trans hS.2.2.2.2.2 hS.2.2.2.1.size

end Go.Proofs.Ytpdpkcadolcbmaa
