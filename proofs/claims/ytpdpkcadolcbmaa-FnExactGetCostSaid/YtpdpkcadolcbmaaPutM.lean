/- Contracts (PutM). -/
import Derived.Test.YtpdpkcadolcbmaaCod
import Derived.Test.YtpdpkcadolcbmaaCo
namespace Go.Proofs.Ytpdpkcadolcbmaa
open Go.RowKit
set_option linter.unusedVariables false

/-- the bytes of the first k numbers -/
def Zs.putTo (zs : List Int) : Nat → ByteArray
  | 0 => ⟨#[]⟩
  | k + 1 => Zs.putTo zs k ++ Num.varB (Zs.at zs k)
def Zs.put (zs : List Int) : ByteArray := Zs.putTo zs zs.length
theorem Zs.putTo_size (zs : List Int) (k : Nat) : (Zs.putTo zs k).size ≤ 7 * k := by
  induction k with
  | zero => exact Nat.le_refl 0
  | succ k ih =>
    have h1 := Num.varB_size (Zs.at zs k)
    simp only [Zs.putTo, ByteArray.size_append]
    omega
theorem Zs.put_size (zs : List Int) : (Zs.put zs).size ≤ 7 * zs.length := Zs.putTo_size _ _
theorem Zs.putTo_left (a b : List Int) (k : Nat) (h : k ≤ a.length) : Zs.putTo (a ++ b) k = Zs.putTo a k := by
  induction k with
  | zero => rfl
  | succ k ih =>
    have : Zs.at (a ++ b) k = Zs.at a k := by simp [Zs.at, List.getD_eq_getElem?_getD, List.getElem?_append, show k < a.length by omega]
    rw [Zs.putTo, Zs.putTo, ih (by omega), this]
theorem Zs.putTo_right (a b : List Int) (k : Nat) : Zs.putTo (a ++ b) (a.length + k) = Zs.put a ++ Zs.putTo b k := by
  induction k with
  | zero =>
    rw [Nat.add_zero, Zs.putTo_left a b _ (Nat.le_refl _)]
    show Zs.put a = Zs.put a ++ ByteArray.empty
    rw [ByteArray.append_empty]
  | succ k ih =>
    have : Zs.at (a ++ b) (a.length + k) = Zs.at b k := by simp only [Zs.at, List.getD_eq_getElem?_getD]; rw [List.getElem?_append_right (by omega), Nat.add_sub_cancel_left]
    rw [← Nat.add_assoc, Zs.putTo, Zs.putTo, ih, this, ByteArray.append_assoc]
theorem Zs.put_append (a b : List Int) : Zs.put (a ++ b) = Zs.put a ++ Zs.put b := by
  unfold Zs.put
  rw [List.length_append, Zs.putTo_right]
  rfl
theorem Zs.put_cons (a : Int) (l : List Int) : Zs.put (a :: l) = Num.varB a ++ Zs.put l := by
  have := Zs.put_append [a] l
  rw [List.singleton_append] at this
  rw [this]
  have e : Zs.put [a] = Num.varB a := by
    show (⟨#[]⟩ : ByteArray) ++ Num.varB (Zs.at [a] 0) = Num.varB a
    exact ByteArray.empty_append
  rw [e]
def Co.all (k : Co) : List Int := k.d ++ k.i ++ k.r
def Co.put (k : Co) : ByteArray := if Co.ok k then Zs.put k.d ++ Zs.put k.i ++ Zs.put k.r else ⟨#[]⟩
theorem Co.put_no {k : Co} (h : Co.ok k = false) : Co.put k = ⟨#[]⟩ := by unfold Co.put; rw [h]; rfl
theorem Co.put_yes {k : Co} (h : Co.ok k = true) : Co.put k = Zs.put k.d ++ Zs.put k.i ++ Zs.put k.r := by unfold Co.put; rw [h]; rfl
theorem Co.put_all {k : Co} (h : Co.ok k = true) : Co.put k = Zs.put (Co.all k) := by rw [Co.put_yes h, Co.all, Zs.put_append, Zs.put_append]
theorem Co.ok_len {k : Co} (h : Co.ok k = true) : k.d.length = 6 ∧ k.i.length = 6 ∧ k.r.length = 36 := ⟨(Zs.fit_iff.1 (Co.ok_iff.1 h).1).1, (Zs.fit_iff.1 (Co.ok_iff.1 h).2.1).1, (Zs.fit_iff.1 (Co.ok_iff.1 h).2.2.1).1⟩

end Go.Proofs.Ytpdpkcadolcbmaa
