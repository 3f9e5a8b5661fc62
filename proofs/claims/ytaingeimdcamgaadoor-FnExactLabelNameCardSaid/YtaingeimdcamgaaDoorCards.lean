/-
  DERIVED. GIVEN WITH THE SEED: THE CARDS: each row of YtaingeimdcamgaaDoorRows.lean that lists a variable, with what it lists TIED to the program's text (the seventh form; the later family's looks); each row that meets fmt, with fmt's text TOLD by the authors' own Lean function (tested against real Go, not proved from fmt's source: count such statements apart). THE CARD IS WHAT COUNTS. Prove the row's statement (the work); the ties are given (YtaingeimdcamgaaDoorTie.lean); close each card by the builder's one call (the guide's Derived/Test/ToyasCard.lean, 'card_holds'). Laid BY PROGRAM, IN A SANDBOX (cutbox-door.mjs). By AI agents, Wed Nov 11 2026. No macro, syntax, notation, axiom, sorry.
-/
import Derived.Test.YtaingeimdcamgaaDoorRows
import GoSem.ClaimSeven
namespace Go.Proofs.YtaingeimdcamgaaDoor
namespace Rows

/-- THE TIED CARD OF 'laws.FnExactLabelName'. -/
def fnExactLabelNameCard : Claim7 := { stood := { row := fnExactLabelNameRow, standIns := [], harness := (true, "0ce05c905bf2e8a03cededfbd9280184c80da8aca0128d3b3e5f82a76fc151a1"), looks := false }, kinds := [], alts := [], laidByText := true, laidKinds := [.data], laidTests := true, laidLooks := .later }
def FnExactLabelNameCardSaid : Prop := Claim7.holds Tryd.pinned (.plain (OpenSpec.ofChange fnExactLabelNameSpec)) fnExactLabelNameCard

/-- THE TIED CARD OF 'laws.FnExactLabelOf'. -/
def fnExactLabelOfCard : Claim7 := { stood := { row := fnExactLabelOfRow, standIns := [], harness := (true, "0ce05c905bf2e8a03cededfbd9280184c80da8aca0128d3b3e5f82a76fc151a1"), looks := false }, kinds := [], alts := [], laidByText := true, laidKinds := [.data], laidTests := true, laidLooks := .later }
def FnExactLabelOfCardSaid : Prop := Claim7.holds Tryd.pinned (.plain (OpenSpec.ofChange fnExactLabelOfSpec)) fnExactLabelOfCard

/-- THE SECOND FORM's CARD OF 'laws.FnExactLabelName'. -/
def fnExactLabelNameUptoCard : Claim7 := { stood := { row := fnExactLabelNameUptoRow, standIns := [], harness := (true, "0ce05c905bf2e8a03cededfbd9280184c80da8aca0128d3b3e5f82a76fc151a1"), looks := false }, kinds := [], alts := [], laidByText := true, laidKinds := [.data], laidTests := true, laidLooks := .later }
def FnExactLabelNameUptoCardSaid : Prop := Claim7.holds Tryd.pinned (.plain (OpenSpec.upto fnExactLabelNameSpec)) fnExactLabelNameUptoCard

/-- THE SECOND FORM's CARD OF 'laws.FnExactLabelOf'. -/
def fnExactLabelOfUptoCard : Claim7 := { stood := { row := fnExactLabelOfUptoRow, standIns := [], harness := (true, "0ce05c905bf2e8a03cededfbd9280184c80da8aca0128d3b3e5f82a76fc151a1"), looks := false }, kinds := [], alts := [], laidByText := true, laidKinds := [.data], laidTests := true, laidLooks := .later }
def FnExactLabelOfUptoCardSaid : Prop := Claim7.holds Tryd.pinned (.plain (OpenSpec.upto fnExactLabelOfSpec)) fnExactLabelOfUptoCard
end Rows
end Go.Proofs.YtaingeimdcamgaaDoor
