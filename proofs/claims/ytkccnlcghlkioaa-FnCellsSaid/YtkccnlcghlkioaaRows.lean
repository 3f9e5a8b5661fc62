/-
  No cell of these rows narrows 'for every input' (looked for: loops, veiled, ifaces, maps, wideKeys, modest, calm, conditions, laid).
  DERIVED. THE GIVEN ROWS OF THIS SEAT. 8 by the template 'for every input the law returns true; each argument reads behind the call as it read before'; 0 by the template 'total and deterministic' (their statements: YtkccnlcghlkioaaTotals.lean).
  GIVEN WITH THE SEED: the statements are not yours to turn. If you find one false, say at which input.
  Laid BY PROGRAM, IN A SANDBOX (cutbox-rows.mjs): the forced cells as the released guide's own fill.sh prints them over the translation 1be12aab17e92228… (all of the seat's roots in one cut). By AI agents, Wed Nov 11 2026. No macro, syntax, notation, axiom, sorry.
-/
import Derived.Test.YtkccnlcghlkioaaChecked
import GoSem.Claim
import GoSem.ClaimJoined
import GoSem.ClaimMapViews
import Derived.JoinedTies
import Derived.KernelRfl
namespace Go.Proofs.Ytkccnlcghlkioaa
/- THE CELL 'sum', in the pinned program and in every row, IS THE sha256 OF THE DUMP (.gsa) THAT YtkccnlcghlkioaaProg.lean LOADS. Nothing in Lean hashes anything: it is a label: what it is worth is what the hold of that sum in a sandbox is worth. -/
noncomputable def Try.pinned : Pinned := { name := "ytkccnlcghlkioaa", sum := "1be12aab17e922288df160efc190f9533a87d4acd508dcaf14e749caf0761ca8", checked := Try.checked }
namespace Rows
def none {H : Type} : Left H := { results := [], args := [] }

/-- 'laws.FnBothWays': WHATEVER THE INPUT: true; the input reads as it did. -/
def fnBothWaysSpec : ChangeSpec := { name := "fnBothWays", fn := fun _ => fun
  | [d] => { results := [.lit (.bool true)], args := [d] }
  | _ => none }
def fnBothWaysRow : OpenClaim := { program := "ytkccnlcghlkioaa", sum := "1be12aab17e922288df160efc190f9533a87d4acd508dcaf14e749caf0761ca8", func := "loop.example/g01618/laws.FnBothWays", spec := "fnBothWays", recurses := true, apart := false }
def FnBothWaysSaid : Prop := fnBothWaysRow.holds Try.pinned (OpenSpec.ofChange fnBothWaysSpec)

/-- ITS FALSE NEIGHBOUR: 'it returns false'. Refute it at one input. -/
def fnBothWaysWrong : ChangeSpec := { name := "fnBothWays", fn := fun _ => fun
  | [d] => { results := [.lit (.bool false)], args := [d] }
  | _ => none }
def FnBothWaysWrongFalsely : Prop := fnBothWaysRow.holds Try.pinned (OpenSpec.ofChange fnBothWaysWrong)

/-- 'laws.FnTriangle': WHATEVER THE INPUT: true; the input reads as it did. -/
def fnTriangleSpec : ChangeSpec := { name := "fnTriangle", fn := fun _ => fun
  | [d] => { results := [.lit (.bool true)], args := [d] }
  | _ => none }
def fnTriangleRow : OpenClaim := { program := "ytkccnlcghlkioaa", sum := "1be12aab17e922288df160efc190f9533a87d4acd508dcaf14e749caf0761ca8", func := "loop.example/g01618/laws.FnTriangle", spec := "fnTriangle", apart := false }
def FnTriangleSaid : Prop := fnTriangleRow.holds Try.pinned (OpenSpec.ofChange fnTriangleSpec)

/-- ITS FALSE NEIGHBOUR: 'it returns false'. Refute it at one input. -/
def fnTriangleWrong : ChangeSpec := { name := "fnTriangle", fn := fun _ => fun
  | [d] => { results := [.lit (.bool false)], args := [d] }
  | _ => none }
def FnTriangleWrongFalsely : Prop := fnTriangleRow.holds Try.pinned (OpenSpec.ofChange fnTriangleWrong)

/-- 'laws.FnScaled': WHATEVER THE INPUT: true; the input reads as it did. -/
def fnScaledSpec : ChangeSpec := { name := "fnScaled", fn := fun _ => fun
  | [d] => { results := [.lit (.bool true)], args := [d] }
  | _ => none }
def fnScaledRow : OpenClaim := { program := "ytkccnlcghlkioaa", sum := "1be12aab17e922288df160efc190f9533a87d4acd508dcaf14e749caf0761ca8", func := "loop.example/g01618/laws.FnScaled", spec := "fnScaled", recurses := true, apart := false }
def FnScaledSaid : Prop := fnScaledRow.holds Try.pinned (OpenSpec.ofChange fnScaledSpec)

/-- ITS FALSE NEIGHBOUR: 'it returns false'. Refute it at one input. -/
def fnScaledWrong : ChangeSpec := { name := "fnScaled", fn := fun _ => fun
  | [d] => { results := [.lit (.bool false)], args := [d] }
  | _ => none }
def FnScaledWrongFalsely : Prop := fnScaledRow.holds Try.pinned (OpenSpec.ofChange fnScaledWrong)

/-- 'laws.FnCells': WHATEVER THE INPUT: true; the input reads as it did. -/
def fnCellsSpec : ChangeSpec := { name := "fnCells", fn := fun _ => fun
  | [d] => { results := [.lit (.bool true)], args := [d] }
  | _ => none }
def fnCellsRow : OpenClaim := { program := "ytkccnlcghlkioaa", sum := "1be12aab17e922288df160efc190f9533a87d4acd508dcaf14e749caf0761ca8", func := "loop.example/g01618/laws.FnCells", spec := "fnCells", recurses := true, apart := false }
def FnCellsSaid : Prop := fnCellsRow.holds Try.pinned (OpenSpec.ofChange fnCellsSpec)

/-- ITS FALSE NEIGHBOUR: 'it returns false'. Refute it at one input. -/
def fnCellsWrong : ChangeSpec := { name := "fnCells", fn := fun _ => fun
  | [d] => { results := [.lit (.bool false)], args := [d] }
  | _ => none }
def FnCellsWrongFalsely : Prop := fnCellsRow.holds Try.pinned (OpenSpec.ofChange fnCellsWrong)

/-- 'laws.FnExactTreeDists': WHATEVER THE INPUT: true; the input reads as it did. -/
def fnExactTreeDistsSpec : ChangeSpec := { name := "fnExactTreeDists", fn := fun _ => fun
  | [d1, d2, d3] => { results := [.lit (.bool true)], args := [d1, d2, d3] }
  | _ => none }
def fnExactTreeDistsRow : OpenClaim := { program := "ytkccnlcghlkioaa", sum := "1be12aab17e922288df160efc190f9533a87d4acd508dcaf14e749caf0761ca8", func := "loop.example/g01618/laws.FnExactTreeDists", spec := "fnExactTreeDists", recurses := true, apart := false }
def FnExactTreeDistsSaid : Prop := fnExactTreeDistsRow.holds Try.pinned (OpenSpec.ofChange fnExactTreeDistsSpec)

/-- ITS FALSE NEIGHBOUR: 'it returns false'. Refute it at one input. -/
def fnExactTreeDistsWrong : ChangeSpec := { name := "fnExactTreeDists", fn := fun _ => fun
  | [d1, d2, d3] => { results := [.lit (.bool false)], args := [d1, d2, d3] }
  | _ => none }
def FnExactTreeDistsWrongFalsely : Prop := fnExactTreeDistsRow.holds Try.pinned (OpenSpec.ofChange fnExactTreeDistsWrong)

/-- 'laws.FnExactTreeDist': WHATEVER THE INPUT: true; the input reads as it did. -/
def fnExactTreeDistSpec : ChangeSpec := { name := "fnExactTreeDist", fn := fun _ => fun
  | [d1, d2, d3] => { results := [.lit (.bool true)], args := [d1, d2, d3] }
  | _ => none }
def fnExactTreeDistRow : OpenClaim := { program := "ytkccnlcghlkioaa", sum := "1be12aab17e922288df160efc190f9533a87d4acd508dcaf14e749caf0761ca8", func := "loop.example/g01618/laws.FnExactTreeDist", spec := "fnExactTreeDist", recurses := true, apart := false }
def FnExactTreeDistSaid : Prop := fnExactTreeDistRow.holds Try.pinned (OpenSpec.ofChange fnExactTreeDistSpec)

/-- ITS FALSE NEIGHBOUR: 'it returns false'. Refute it at one input. -/
def fnExactTreeDistWrong : ChangeSpec := { name := "fnExactTreeDist", fn := fun _ => fun
  | [d1, d2, d3] => { results := [.lit (.bool false)], args := [d1, d2, d3] }
  | _ => none }
def FnExactTreeDistWrongFalsely : Prop := fnExactTreeDistRow.holds Try.pinned (OpenSpec.ofChange fnExactTreeDistWrong)

/-- 'laws.FnExactRootDist': WHATEVER THE INPUT: true; the input reads as it did. -/
def fnExactRootDistSpec : ChangeSpec := { name := "fnExactRootDist", fn := fun _ => fun
  | [d1, d2, d3] => { results := [.lit (.bool true)], args := [d1, d2, d3] }
  | _ => none }
def fnExactRootDistRow : OpenClaim := { program := "ytkccnlcghlkioaa", sum := "1be12aab17e922288df160efc190f9533a87d4acd508dcaf14e749caf0761ca8", func := "loop.example/g01618/laws.FnExactRootDist", spec := "fnExactRootDist", recurses := true, apart := false }
def FnExactRootDistSaid : Prop := fnExactRootDistRow.holds Try.pinned (OpenSpec.ofChange fnExactRootDistSpec)

/-- ITS FALSE NEIGHBOUR: 'it returns false'. Refute it at one input. -/
def fnExactRootDistWrong : ChangeSpec := { name := "fnExactRootDist", fn := fun _ => fun
  | [d1, d2, d3] => { results := [.lit (.bool false)], args := [d1, d2, d3] }
  | _ => none }
def FnExactRootDistWrongFalsely : Prop := fnExactRootDistRow.holds Try.pinned (OpenSpec.ofChange fnExactRootDistWrong)

/-- 'laws.FnExactCellsIn': WHATEVER THE INPUT: true; the input reads as it did. -/
def fnExactCellsInSpec : ChangeSpec := { name := "fnExactCellsIn", fn := fun _ => fun
  | [d1, d2] => { results := [.lit (.bool true)], args := [d1, d2] }
  | _ => none }
def fnExactCellsInRow : OpenClaim := { program := "ytkccnlcghlkioaa", sum := "1be12aab17e922288df160efc190f9533a87d4acd508dcaf14e749caf0761ca8", func := "loop.example/g01618/laws.FnExactCellsIn", spec := "fnExactCellsIn", recurses := true, apart := false }
def FnExactCellsInSaid : Prop := fnExactCellsInRow.holds Try.pinned (OpenSpec.ofChange fnExactCellsInSpec)

/-- ITS FALSE NEIGHBOUR: 'it returns false'. Refute it at one input. -/
def fnExactCellsInWrong : ChangeSpec := { name := "fnExactCellsIn", fn := fun _ => fun
  | [d1, d2] => { results := [.lit (.bool false)], args := [d1, d2] }
  | _ => none }
def FnExactCellsInWrongFalsely : Prop := fnExactCellsInRow.holds Try.pinned (OpenSpec.ofChange fnExactCellsInWrong)

/- THE SECOND FORM. 'bulk': how many values and letters a reading holds, each counted each time it is reached (what is shared counts as often as it is met; a slice's spare places count too). A statement '..UptoSaid' is the law's where the arguments, and the package variables that the reading takes, are together of bulk at most 1048576: NARROWER than '..Said'. Prove '..Said' where nothing that the law and all that it calls make is longer than what came in: it says more and counts as full. Else prove '..UptoSaid'. A law counts once. -/
mutual
def uptoBulk {H : Type} : DataW H → Nat
  | .lit (.string bytes) => bytes.length + 1
  | .lit _ => 1
  | .nil => 1
  | .ptr d => uptoBulk d + 1
  | .slice elems spare => uptoBulkAll elems + uptoBulkAll spare + 1
  | .agg parts => uptoBulkAll parts + 1
  | .iface _ d => uptoBulk d + 1
  | .map entries => uptoBulkEntries entries + 1
  | .held _ => 1
def uptoBulkAll {H : Type} : List (DataW H) → Nat
  | [] => 0
  | d :: r => uptoBulk d + uptoBulkAll r
def uptoBulkEntries {H : Type} : List (Lit × DataW H) → Nat
  | [] => 0
  | x :: r => uptoBulkEntry x + uptoBulkEntries r
def uptoBulkEntry {H : Type} : Lit × DataW H → Nat
  | (.string bytes, d) => bytes.length + uptoBulk d + 1
  | (_, d) => uptoBulk d + 1
 end
def uptoSmall : (H : Type) → List (DataW H) → Bool := fun _ ds => decide (uptoBulkAll ds ≤ 1048576)
def OpenSpec.upto (s : _root_.Go.ChangeSpec) : _root_.Go.OpenSpec := { _root_.Go.OpenSpec.ofChange s with cond := some uptoSmall }

/-- 'laws.FnBothWays', WHERE WHAT IT READS IS OF BULK AT MOST 1048576: true; the input reads as it did. -/
def fnBothWaysUptoRow : OpenClaim := { program := "ytkccnlcghlkioaa", sum := "1be12aab17e922288df160efc190f9533a87d4acd508dcaf14e749caf0761ca8", func := "loop.example/g01618/laws.FnBothWays", spec := "fnBothWays", recurses := true, apart := false, narrowed := true }
def FnBothWaysUptoSaid : Prop := fnBothWaysUptoRow.holds Try.pinned (OpenSpec.upto fnBothWaysSpec)

/-- 'laws.FnTriangle', WHERE WHAT IT READS IS OF BULK AT MOST 1048576: true; the input reads as it did. -/
def fnTriangleUptoRow : OpenClaim := { program := "ytkccnlcghlkioaa", sum := "1be12aab17e922288df160efc190f9533a87d4acd508dcaf14e749caf0761ca8", func := "loop.example/g01618/laws.FnTriangle", spec := "fnTriangle", apart := false, narrowed := true }
def FnTriangleUptoSaid : Prop := fnTriangleUptoRow.holds Try.pinned (OpenSpec.upto fnTriangleSpec)

/-- 'laws.FnScaled', WHERE WHAT IT READS IS OF BULK AT MOST 1048576: true; the input reads as it did. -/
def fnScaledUptoRow : OpenClaim := { program := "ytkccnlcghlkioaa", sum := "1be12aab17e922288df160efc190f9533a87d4acd508dcaf14e749caf0761ca8", func := "loop.example/g01618/laws.FnScaled", spec := "fnScaled", recurses := true, apart := false, narrowed := true }
def FnScaledUptoSaid : Prop := fnScaledUptoRow.holds Try.pinned (OpenSpec.upto fnScaledSpec)

/-- 'laws.FnCells', WHERE WHAT IT READS IS OF BULK AT MOST 1048576: true; the input reads as it did. -/
def fnCellsUptoRow : OpenClaim := { program := "ytkccnlcghlkioaa", sum := "1be12aab17e922288df160efc190f9533a87d4acd508dcaf14e749caf0761ca8", func := "loop.example/g01618/laws.FnCells", spec := "fnCells", recurses := true, apart := false, narrowed := true }
def FnCellsUptoSaid : Prop := fnCellsUptoRow.holds Try.pinned (OpenSpec.upto fnCellsSpec)

/-- 'laws.FnExactTreeDists', WHERE WHAT IT READS IS OF BULK AT MOST 1048576: true; the input reads as it did. -/
def fnExactTreeDistsUptoRow : OpenClaim := { program := "ytkccnlcghlkioaa", sum := "1be12aab17e922288df160efc190f9533a87d4acd508dcaf14e749caf0761ca8", func := "loop.example/g01618/laws.FnExactTreeDists", spec := "fnExactTreeDists", recurses := true, apart := false, narrowed := true }
def FnExactTreeDistsUptoSaid : Prop := fnExactTreeDistsUptoRow.holds Try.pinned (OpenSpec.upto fnExactTreeDistsSpec)

/-- 'laws.FnExactTreeDist', WHERE WHAT IT READS IS OF BULK AT MOST 1048576: true; the input reads as it did. -/
def fnExactTreeDistUptoRow : OpenClaim := { program := "ytkccnlcghlkioaa", sum := "1be12aab17e922288df160efc190f9533a87d4acd508dcaf14e749caf0761ca8", func := "loop.example/g01618/laws.FnExactTreeDist", spec := "fnExactTreeDist", recurses := true, apart := false, narrowed := true }
def FnExactTreeDistUptoSaid : Prop := fnExactTreeDistUptoRow.holds Try.pinned (OpenSpec.upto fnExactTreeDistSpec)

/-- 'laws.FnExactRootDist', WHERE WHAT IT READS IS OF BULK AT MOST 1048576: true; the input reads as it did. -/
def fnExactRootDistUptoRow : OpenClaim := { program := "ytkccnlcghlkioaa", sum := "1be12aab17e922288df160efc190f9533a87d4acd508dcaf14e749caf0761ca8", func := "loop.example/g01618/laws.FnExactRootDist", spec := "fnExactRootDist", recurses := true, apart := false, narrowed := true }
def FnExactRootDistUptoSaid : Prop := fnExactRootDistUptoRow.holds Try.pinned (OpenSpec.upto fnExactRootDistSpec)

/-- 'laws.FnExactCellsIn', WHERE WHAT IT READS IS OF BULK AT MOST 1048576: true; the input reads as it did. -/
def fnExactCellsInUptoRow : OpenClaim := { program := "ytkccnlcghlkioaa", sum := "1be12aab17e922288df160efc190f9533a87d4acd508dcaf14e749caf0761ca8", func := "loop.example/g01618/laws.FnExactCellsIn", spec := "fnExactCellsIn", recurses := true, apart := false, narrowed := true }
def FnExactCellsInUptoSaid : Prop := fnExactCellsInUptoRow.holds Try.pinned (OpenSpec.upto fnExactCellsInSpec)

end Rows
end Go.Proofs.Ytkccnlcghlkioaa
