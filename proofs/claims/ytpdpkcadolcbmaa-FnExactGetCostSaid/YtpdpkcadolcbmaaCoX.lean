/- Contracts (CoX). -/
import Derived.Test.YtpdpkcadolcbmaaSameCS
import Derived.Test.YtpdpkcadolcbmaaBoxC
namespace Go.Proofs.Ytpdpkcadolcbmaa
open Go.RowKit
set_option linter.unusedVariables false

/-- two variables of three cells each stand as they did; the world has only grown -/
def SixG (w0 : World) (s t : Nat) (wq : World) : Prop := Below w0.heap.size w0 wq ∧ s < w0.heap.size ∧ t < w0.heap.size
theorem six_keep {w0 wx wq : World} {s t : Nat} {a0 a1 a2 b0 b1 b2 : Option Value} (hS : wx.cell? ⟨s, 0, none⟩ = a0 ∧ wx.cell? ⟨s, 1, none⟩ = a1 ∧ wx.cell? ⟨s, 2, none⟩ = a2 ∧ wx.cell? ⟨t, 0, none⟩ = b0 ∧ wx.cell? ⟨t, 1, none⟩ = b1 ∧ wx.cell? ⟨t, 2, none⟩ = b2 ∧ SixG w0 s t wx)
    (hb : Below wx.heap.size wx wq) : wq.cell? ⟨s, 0, none⟩ = a0 ∧ wq.cell? ⟨s, 1, none⟩ = a1 ∧ wq.cell? ⟨s, 2, none⟩ = a2 ∧ wq.cell? ⟨t, 0, none⟩ = b0 ∧ wq.cell? ⟨t, 1, none⟩ = b1 ∧ wq.cell? ⟨t, 2, none⟩ = b2 ∧ SixG w0 s t wq := by
  obtain ⟨h0, h1, h2, k0, k1, k2, hB, hs, ht⟩ := hS
  have hz := hB.size
  have c (u o : Nat) (hu : u < w0.heap.size) : wq.cell? ⟨u, o, none⟩ = wx.cell? ⟨u, o, none⟩ := hb.cell (p := ⟨u, o, none⟩) (by simp only; omega)
  exact ⟨by rw [c s 0 hs, h0], by rw [c s 1 hs, h1], by rw [c s 2 hs, h2], by rw [c t 0 ht, k0], by rw [c t 1 ht, k1], by rw [c t 2 ht, k2], hB.trans (hb.mono hz), hs, ht⟩
theorem six_below {w0 wx : World} {s t : Nat} {a0 a1 a2 b0 b1 b2 : Option Value} (hS : wx.cell? ⟨s, 0, none⟩ = a0 ∧ wx.cell? ⟨s, 1, none⟩ = a1 ∧ wx.cell? ⟨s, 2, none⟩ = a2 ∧ wx.cell? ⟨t, 0, none⟩ = b0 ∧ wx.cell? ⟨t, 1, none⟩ = b1 ∧ wx.cell? ⟨t, 2, none⟩ = b2 ∧ SixG w0 s t wx) : Below w0.heap.size w0 wx := hS.2.2.2.2.2.2.1
theorem Co.same_self (k : Co) : Co.same k k = true := by simp [Co.same]

end Go.Proofs.Ytpdpkcadolcbmaa
