/-
  DERIVED. GIVEN WITH THE SEED: THE CARDS: each row of YtgokllaeggdndaaDoorRows.lean that lists a variable, with what it lists TIED to the program's text (the seventh form; the later family's looks); each row that meets fmt, with fmt's text TOLD by the authors' own Lean function (tested against real Go, not proved from fmt's source: count such statements apart). THE CARD IS WHAT COUNTS. Prove the row's statement (the work); the ties are given (YtgokllaeggdndaaDoorTie.lean); close each card by the builder's one call (the guide's Derived/Test/ToyasCard.lean, 'card_holds'). Laid BY PROGRAM, IN A SANDBOX (cutbox-door.mjs). By AI agents, Wed Nov 11 2026. No macro, syntax, notation, axiom, sorry.
-/
import Derived.Test.YtgokllaeggdndaaDoorRows
import GoSem.ClaimSeven
namespace Go.Proofs.YtgokllaeggdndaaDoor
namespace Rows

/-- THE TIED CARD OF 'laws.FnExactTreeCode'. -/
def fnExactTreeCodeCard : Claim7 := { stood := { row := fnExactTreeCodeRow, standIns := [], harness := (true, "9283949de9579e643fb4e142423205837e70867a081b89ecad3eb372bcc43cbe"), looks := false }, kinds := [], alts := [], laidByText := true, laidKinds := [.data], laidTests := true, laidLooks := .later }
def FnExactTreeCodeCardSaid : Prop := Claim7.holds Tryd.pinned (.plain (OpenSpec.ofChange fnExactTreeCodeSpec)) fnExactTreeCodeCard

/-- THE SECOND FORM's CARD OF 'laws.FnExactTreeCode'. -/
def fnExactTreeCodeUptoCard : Claim7 := { stood := { row := fnExactTreeCodeUptoRow, standIns := [], harness := (true, "9283949de9579e643fb4e142423205837e70867a081b89ecad3eb372bcc43cbe"), looks := false }, kinds := [], alts := [], laidByText := true, laidKinds := [.data], laidTests := true, laidLooks := .later }
def FnExactTreeCodeUptoCardSaid : Prop := Claim7.holds Tryd.pinned (.plain (OpenSpec.upto fnExactTreeCodeSpec)) fnExactTreeCodeUptoCard
end Rows
end Go.Proofs.YtgokllaeggdndaaDoor
