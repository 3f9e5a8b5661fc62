/- Contracts (Codes). -/
import Derived.Test.YtgokllaeggdndaaDoorRows
import Derived.Test.YtgokllaeggdndaaDoorTab
import Derived.Test.YtgokllaeggdndaaDoorKit
namespace Go.Proofs.YtgokllaeggdndaaDoor
open Go.RowKit
set_option linter.unusedVariables false

def TrCode.bytes : List (List UInt8) := [[111, 107], [115, 104, 111, 114, 116], [115, 105, 122, 101], [108, 97, 98, 101, 108], [100, 101, 112, 116, 104], [115, 104, 97, 112, 101], [108, 101, 102, 116]]
/-- the name of a code -/
def TrCode.name (n : Int) : ByteArray := if 0 ≤ n ∧ n ≤ 6 then ⟨(TrCode.bytes.getD n.toNat []).toArray⟩ else ⟨#[]⟩
theorem TrCode.name_no {n : Int} (h : ¬ (0 ≤ n ∧ n ≤ 6)) : TrCode.name n = ⟨#[]⟩ := if_neg h

/-- the table of codes stands -/
def HasCodes (w : World) : Prop := Tab.StrsAre Tryd.prog w "loop.example/g01618/impl.treeCodes" TrCode.bytes
theorem HasCodes.below {w w' : World} (h : HasCodes w) (hb : Below w.heap.size w w') : HasCodes w' := Tab.StrsAre.below h hb

theorem gCodes : Tryd.prog.globalNamed "loop.example/g01618/impl.treeCodes" = some 0 := by kernel_rfl
theorem gCodesType : (Tryd.prog.globals[0]?).map (·.type) = some 26 := by kernel_rfl
theorem cellsCodes : Tryd.prog.cellsOf 26 = 7 := by kernel_rfl
theorem cellsCode : Tryd.prog.cellsOf 9 = 1 := by kernel_rfl
theorem codesData : (Rows.laid_loop_example_g01618_impl_treeCodes : DataW Unit) = Tab.strsData TrCode.bytes := by kernel_rfl
theorem hasCodes {w : World} {rest : List (String × DataW Unit)} (h : laidMet Tryd.prog (("loop.example/g01618/impl.treeCodes", Rows.laid_loop_example_g01618_impl_treeCodes) :: rest) w) : HasCodes w := by
  rw [codesData] at h
  exact Tab.strsAre_of_head gCodes gCodesType Tryd.underlying26 Tryd.underlying9 cellsCode cellsCodes h
/-- the seven cells -/
theorem HasCodes.cell {w : World} (h : HasCodes w) (i : Nat) (hi : i < 7) : w.cell? ⟨0, i, none⟩ = some (.string (TrCode.name i)) := by
  have e := Tab.StrsAre.cell h gCodes i hi
  rw [e]
  have h : i = 0 ∨ i = 1 ∨ i = 2 ∨ i = 3 ∨ i = 4 ∨ i = 5 ∨ i = 6 := by omega
  rcases h with rfl | rfl | rfl | rfl | rfl | rfl | rfl <;> rfl

end Go.Proofs.YtgokllaeggdndaaDoor
