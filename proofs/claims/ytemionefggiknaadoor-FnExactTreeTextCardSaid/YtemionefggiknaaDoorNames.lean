/- The program's table of names, as the row lists it. -/
import Derived.Test.YtemionefggiknaaDoorRows
import Derived.Test.YtemionefggiknaaDoorTab
import Derived.Test.YtemionefggiknaaDoorLab
namespace Go.Proofs.YtemionefggiknaaDoor
open Go.RowKit
set_option linter.unusedVariables false

def Lab.bytes : List (List UInt8) := [[100, 105, 118], [112], [97], [117, 108], [108, 105], [98]]

/-- the table of names stands -/
def HasNames (w : World) : Prop := Tab.StrsAre Tryd.prog w "loop.example/g01618/impl.labelNames" Lab.bytes
theorem HasNames.below {w w' : World} (h : HasNames w) (hb : Below w.heap.size w w') : HasNames w' := Tab.StrsAre.below h hb

theorem gNames : Tryd.prog.globalNamed "loop.example/g01618/impl.labelNames" = some 0 := by kernel_rfl
theorem gNamesType : (Tryd.prog.globals[0]?).map (·.type) = some 48 := by kernel_rfl
theorem cellsNames : Tryd.prog.cellsOf 48 = 6 := by kernel_rfl
theorem cellsName : Tryd.prog.cellsOf 9 = 1 := by kernel_rfl
theorem namesData : (Rows.laid_loop_example_g01618_impl_labelNames : DataW Unit) = Tab.strsData Lab.bytes := by kernel_rfl
theorem hasNames {w : World} {rest : List (String × DataW Unit)} (h : laidMet Tryd.prog (("loop.example/g01618/impl.labelNames", Rows.laid_loop_example_g01618_impl_labelNames) :: rest) w) : HasNames w := by
  rw [namesData] at h
  exact Tab.strsAre_of_head gNames gNamesType Tryd.underlying48 Tryd.underlying9 cellsName cellsNames h

/-- the six cells -/
theorem HasNames.cell {w : World} (h : HasNames w) (i : Nat) (hi : i < 6) : w.cell? ⟨0, i, none⟩ = some (.string (Lab.name i)) := by
  have e := Tab.StrsAre.cell h gNames i hi
  rw [e]
  have h : i = 0 ∨ i = 1 ∨ i = 2 ∨ i = 3 ∨ i = 4 ∨ i = 5 := by omega
  rcases h with rfl | rfl | rfl | rfl | rfl | rfl <;> rfl

end Go.Proofs.YtemionefggiknaaDoor
