/- Contracts (VarB). -/
import Derived.Test.YtpdpkcadolcbmaaCod
import Derived.Test.YtpdpkcadolcbmaaVarS
import Derived.Test.YtpdpkcadolcbmaaVarI
namespace Go.Proofs.Ytpdpkcadolcbmaa
open Go.RowKit
set_option linter.unusedVariables false

theorem specVarB_any (n : Int) (w : World) : Calls Try.prog 52 #[.int .i64 n] w fun e w' => e = .returned (.string (Num.varB n)) ∧ Below w.heap.size w w' := specVar_any n w
theorem implVarB_any (n : Int) (w : World) : Calls Try.prog 60 #[.int .i64 n] w fun e w' => e = .returned (.string (Num.varB n)) ∧ Below w.heap.size w w' := implVar_any n w
theorem Tr.put_no {xs : Tr} (h : Tr.ok xs = false) : Tr.put xs = ⟨#[]⟩ := by unfold Tr.put; rw [h]; rfl
theorem Tr.put_yes {xs : Tr} (h : Tr.ok xs = true) : Tr.put xs = Tr.putTo xs xs.length := by unfold Tr.put; rw [h]; rfl

/-- the world stands above B and w, the blocks of p and q in it -/
def PutG (B : Nat) (w : World) (p q : Addr) (wq : World) : Prop := B ≤ w.heap.size ∧ Below B w wq ∧ p.block < wq.heap.size ∧ q.block < wq.heap.size
theorem PutG.drew {B : Nat} {w wq : World} {p q : Addr} (h : PutG B w p q wq) : PutG B w p q wq.drew := ⟨h.1, h.2.1.drew, h.2.2.1, h.2.2.2⟩
/-- two cells held behind a call that makes memory -/
theorem put_keep {B : Nat} {w wx wq : World} {p q : Addr} {u v : Option Value} (hS : wx.cell? p = u ∧ wx.cell? q = v ∧ PutG B w p q wx) (hb : Below wx.heap.size wx wq) : wq.cell? p = u ∧ wq.cell? q = v ∧ PutG B w p q wq := by
  obtain ⟨h1, h2, h0, h3, h4, h5⟩ := hS
  have e := hb.size
  have f := h3.size
  exact ⟨by rw [hb.cell h4, h1], by rw [hb.cell h5, h2], h0, h3.trans (hb.mono (by omega)), by omega, by omega⟩

end Go.Proofs.Ytpdpkcadolcbmaa
