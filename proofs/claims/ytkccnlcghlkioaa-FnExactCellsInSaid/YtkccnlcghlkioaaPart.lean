/- Contracts (Part). -/
import Derived.Test.YtkccnlcghlkioaaRows
import Derived.Test.YtkccnlcghlkioaaMem
namespace Go.Proofs.Ytkccnlcghlkioaa
open Go.RowKit
set_option linter.unusedVariables false

/-- of a row the first k values, then zeroes -/
def Zs.part (F : List Int) (k : Nat) : List Int := F.take k ++ List.replicate (F.length - k) 0
theorem Zs.part_length (F : List Int) (k : Nat) (h : k ≤ F.length) : (Zs.part F k).length = F.length := by simp [Zs.part]; omega
theorem Zs.part_zero (F : List Int) : Zs.part F 0 = List.replicate F.length 0 := by simp [Zs.part]
theorem Zs.part_all (F : List Int) : Zs.part F F.length = F := by simp [Zs.part]
theorem Zs.part_set (F : List Int) (k : Nat) (h : k < F.length) : (Zs.part F k).set k (Zs.at F k) = Zs.part F (k + 1) := by
  unfold Zs.part
  have hl : (F.take k).length = k := by simp; omega
  rw [List.set_append_right _ _ (by omega), hl, Nat.sub_self, show F.length - k = (F.length - (k + 1)) + 1 by omega, List.replicate_succ, List.set_cons_zero, List.take_succ_eq_append_getElem h, List.append_assoc]
  simp [Zs.at, List.getD_eq_getElem?_getD, h]
theorem made_zeros (z n : Nat) : (madeCells (Value.int .i64 0).cells (n * 1)).toList = ints (List.replicate n 0) := by
  unfold madeCells ints
  refine List.ext_getElem (by simp) fun k h1 h2 => ?_
  simp at h1 h2 ⊢
  show (#[Value.int .i64 0] : Array Value)[k % 1]! = _
  rw [Nat.mod_one]
  rfl
theorem info_intZ : (Try.prog.info? 3).map (fun i => (i.zero, i.size, i.bytes)) = some (some (.int .i64 0), 1, 8) := by kernel_rfl

end Go.Proofs.Ytkccnlcghlkioaa
