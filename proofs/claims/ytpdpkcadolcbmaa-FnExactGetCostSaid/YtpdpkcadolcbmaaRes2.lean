/- Contracts (Res2). -/
import Derived.Test.YtpdpkcadolcbmaaRes
import Derived.Test.YtpdpkcadolcbmaaCod
namespace Go.Proofs.Ytpdpkcadolcbmaa
open Go.RowKit
set_option linter.unusedVariables false

/-- the answer is a row of nodes of the call's own, and a code -/
def OwnNodes2 (E : TypeId) (r : Tr × Int) (w : World) (e : Ending) (w' : World) : Prop :=
  ∃ A c, e = .returned (.tuple #[.slice A r.1.length c, .int .i64 r.2]) ∧ w'.ownsRow w.heap.size E 2 (.slice A r.1.length c) r.1.length (Tr.cells r.1) ∧ Below w.heap.size w w'
theorem Num.rest_zero (s : ByteArray) : Num.rest s 0 = s := by simp [Num.rest]
theorem Num.rvN_none {s : ByteArray} (h : Num.rvK s = 0) : Num.rvN s = 0 := by unfold Num.rvN; rw [h]; rfl
theorem Tr.at_eq {s : ByteArray} {p p1 : Nat} (hp1 : p1 = p + Num.rvK (Num.rest s p)) : Num.rest (Num.rest s p) (Num.rvK (Num.rest s p)) = Num.rest s p1 := by rw [Num.rest_rest, hp1]
section
variable {s : ByteArray} {p p1 p2 r : Nat} {xs : Tr}
theorem Tr.go_n1 (h : Num.rvK (Num.rest s p) = 0) : Tr.getB (r + 1) (Num.rest s p) xs = ([], 1) := Tr.getB_no (Tr.node_n1 h) (by omega)
theorem Tr.go_n2 (h : ¬ Num.rvK (Num.rest s p) = 0) (h2 : Lab.ok (Num.rvN (Num.rest s p)) = false) : Tr.getB (r + 1) (Num.rest s p) xs = ([], 3) := Tr.getB_no (Tr.node_n2 h h2) (by omega)
theorem Tr.go_n3 (hp1 : p1 = p + Num.rvK (Num.rest s p)) (h : ¬ Num.rvK (Num.rest s p) = 0) (h2 : Lab.ok (Num.rvN (Num.rest s p)) = true) (h3 : Num.rvK (Num.rest s p1) = 0) : Tr.getB (r + 1) (Num.rest s p) xs = ([], 1) :=
  Tr.getB_no (Tr.node_n3 h h2 (by rw [Tr.at_eq hp1]; exact h3)) (by omega)
theorem Tr.go_n4 (hp1 : p1 = p + Num.rvK (Num.rest s p)) (h : ¬ Num.rvK (Num.rest s p) = 0) (h2 : Lab.ok (Num.rvN (Num.rest s p)) = true) (h3 : ¬ Num.rvK (Num.rest s p1) = 0) (h4 : 12 < Num.rvN (Num.rest s p1)) :
    Tr.getB (r + 1) (Num.rest s p) xs = ([], 4) :=
  Tr.getB_no (Tr.node_n4 h h2 (by rw [Tr.at_eq hp1]; exact h3) (by rw [Tr.at_eq hp1]; exact h4)) (by omega)
theorem Tr.go_n5 (hp1 : p1 = p + Num.rvK (Num.rest s p)) (h : ¬ Num.rvK (Num.rest s p) = 0) (h2 : Lab.ok (Num.rvN (Num.rest s p)) = true) (h3 : ¬ Num.rvK (Num.rest s p1) = 0) (h4 : ¬ 12 < Num.rvN (Num.rest s p1))
    (h5 : Tr.fits xs xs.length (Num.rvN (Num.rest s p1)) = false) : Tr.getB (r + 1) (Num.rest s p) xs = ([], 5) :=
  Tr.getB_no (Tr.node_n5 h h2 (by rw [Tr.at_eq hp1]; exact h3) (by rw [Tr.at_eq hp1]; exact h4) (by rw [Tr.at_eq hp1]; exact h5)) (by omega)
theorem Tr.go_y (hp1 : p1 = p + Num.rvK (Num.rest s p)) (hp2 : p2 = p1 + Num.rvK (Num.rest s p1)) (h : ¬ Num.rvK (Num.rest s p) = 0) (h2 : Lab.ok (Num.rvN (Num.rest s p)) = true) (h3 : ¬ Num.rvK (Num.rest s p1) = 0)
    (h4 : ¬ 12 < Num.rvN (Num.rest s p1)) (h5 : Tr.fits xs xs.length (Num.rvN (Num.rest s p1)) = true) :
    Tr.getB (r + 1) (Num.rest s p) xs = Tr.getB r (Num.rest s p2) (xs ++ [((Num.rvN (Num.rest s p) : Int), (Num.rvN (Num.rest s p1) : Int))]) := by
  have e := Tr.at_eq hp1
  have := Tr.getB_yes (r := r) (Tr.node_y (t := Num.rest s p) (xs := xs) h h2 (by rw [e]; exact h3) (by rw [e]; exact h4) (by rw [e]; exact h5))
  rw [this, e, Num.rest_rest, hp2, hp1, Nat.add_assoc]
end
theorem Tr.d_last (xs : Tr) (x : Int × Int) (k : Nat) (hk : xs.length = k) : Tr.d (xs ++ [x]) (k + 1 - 1) = x.2 := by
  subst hk
  simp [Tr.d, List.getD_eq_getElem?_getD]

end Go.Proofs.Ytpdpkcadolcbmaa
