/-
  No cell of these rows narrows 'for every input' (looked for: loops, veiled, ifaces, maps, wideKeys, modest, calm, conditions, laid).
  DERIVED. THE GIVEN ROWS OF THIS SEAT. 11 by the template 'for every input the law returns true; each argument reads behind the call as it read before'; 0 by the template 'total and deterministic' (their statements: YtajplmopdipbnaaTotals.lean).
  GIVEN WITH THE SEED: the statements are not yours to turn. If you find one false, say at which input.
  Laid BY PROGRAM, IN A SANDBOX (cutbox-rows.mjs): the forced cells as the released guide's own fill.sh prints them over the translation 0d5bdf2ce3474181… (all of the seat's roots in one cut). By AI agents, Wed Nov 11 2026. No macro, syntax, notation, axiom, sorry.
-/
import Derived.Test.YtajplmopdipbnaaChecked
import GoSem.Claim
import GoSem.ClaimJoined
import GoSem.ClaimMapViews
import Derived.JoinedTies
import Derived.KernelRfl
namespace Go.Proofs.Ytajplmopdipbnaa
/- THE CELL 'sum', in the pinned program and in every row, IS THE sha256 OF THE DUMP (.gsa) THAT YtajplmopdipbnaaProg.lean LOADS. Nothing in Lean hashes anything: it is a label: what it is worth is what the hold of that sum in a sandbox is worth. -/
noncomputable def Try.pinned : Pinned := { name := "ytajplmopdipbnaa", sum := "0d5bdf2ce3474181be41c93340fc5fb48b094d5c72e6d36bda3a09121e44720f", checked := Try.checked }
namespace Rows
def none {H : Type} : Left H := { results := [], args := [] }

/-- 'laws.FnSlow': WHATEVER THE INPUT: true; the input reads as it did. -/
def fnSlowSpec : ChangeSpec := { name := "fnSlow", fn := fun _ => fun
  | [d] => { results := [.lit (.bool true)], args := [d] }
  | _ => none }
def fnSlowRow : OpenClaim := { program := "ytajplmopdipbnaa", sum := "0d5bdf2ce3474181be41c93340fc5fb48b094d5c72e6d36bda3a09121e44720f", func := "loop.example/g01618/laws.FnSlow", spec := "fnSlow", recurses := true, plainKeys := false, apart := false }
def FnSlowSaid : Prop := fnSlowRow.holds Try.pinned (OpenSpec.ofChange fnSlowSpec)

/-- ITS FALSE NEIGHBOUR: 'it returns false'. Refute it at one input. -/
def fnSlowWrong : ChangeSpec := { name := "fnSlow", fn := fun _ => fun
  | [d] => { results := [.lit (.bool false)], args := [d] }
  | _ => none }
def FnSlowWrongFalsely : Prop := fnSlowRow.holds Try.pinned (OpenSpec.ofChange fnSlowWrong)

/-- 'laws.FnDists': WHATEVER THE INPUT: true; the input reads as it did. -/
def fnDistsSpec : ChangeSpec := { name := "fnDists", fn := fun _ => fun
  | [d] => { results := [.lit (.bool true)], args := [d] }
  | _ => none }
def fnDistsRow : OpenClaim := { program := "ytajplmopdipbnaa", sum := "0d5bdf2ce3474181be41c93340fc5fb48b094d5c72e6d36bda3a09121e44720f", func := "loop.example/g01618/laws.FnDists", spec := "fnDists", recurses := true, plainKeys := false, apart := false }
def FnDistsSaid : Prop := fnDistsRow.holds Try.pinned (OpenSpec.ofChange fnDistsSpec)

/-- ITS FALSE NEIGHBOUR: 'it returns false'. Refute it at one input. -/
def fnDistsWrong : ChangeSpec := { name := "fnDists", fn := fun _ => fun
  | [d] => { results := [.lit (.bool false)], args := [d] }
  | _ => none }
def FnDistsWrongFalsely : Prop := fnDistsRow.holds Try.pinned (OpenSpec.ofChange fnDistsWrong)

/-- 'laws.FnForests': WHATEVER THE INPUT: true; the input reads as it did. -/
def fnForestsSpec : ChangeSpec := { name := "fnForests", fn := fun _ => fun
  | [d] => { results := [.lit (.bool true)], args := [d] }
  | _ => none }
def fnForestsRow : OpenClaim := { program := "ytajplmopdipbnaa", sum := "0d5bdf2ce3474181be41c93340fc5fb48b094d5c72e6d36bda3a09121e44720f", func := "loop.example/g01618/laws.FnForests", spec := "fnForests", recurses := true, plainKeys := false, apart := false }
def FnForestsSaid : Prop := fnForestsRow.holds Try.pinned (OpenSpec.ofChange fnForestsSpec)

/-- ITS FALSE NEIGHBOUR: 'it returns false'. Refute it at one input. -/
def fnForestsWrong : ChangeSpec := { name := "fnForests", fn := fun _ => fun
  | [d] => { results := [.lit (.bool false)], args := [d] }
  | _ => none }
def FnForestsWrongFalsely : Prop := fnForestsRow.holds Try.pinned (OpenSpec.ofChange fnForestsWrong)

/-- 'laws.FnBothWays': WHATEVER THE INPUT: true; the input reads as it did. -/
def fnBothWaysSpec : ChangeSpec := { name := "fnBothWays", fn := fun _ => fun
  | [d] => { results := [.lit (.bool true)], args := [d] }
  | _ => none }
def fnBothWaysRow : OpenClaim := { program := "ytajplmopdipbnaa", sum := "0d5bdf2ce3474181be41c93340fc5fb48b094d5c72e6d36bda3a09121e44720f", func := "loop.example/g01618/laws.FnBothWays", spec := "fnBothWays", recurses := true, plainKeys := false, apart := false }
def FnBothWaysSaid : Prop := fnBothWaysRow.holds Try.pinned (OpenSpec.ofChange fnBothWaysSpec)

/-- ITS FALSE NEIGHBOUR: 'it returns false'. Refute it at one input. -/
def fnBothWaysWrong : ChangeSpec := { name := "fnBothWays", fn := fun _ => fun
  | [d] => { results := [.lit (.bool false)], args := [d] }
  | _ => none }
def FnBothWaysWrongFalsely : Prop := fnBothWaysRow.holds Try.pinned (OpenSpec.ofChange fnBothWaysWrong)

/-- 'laws.FnTriangle': WHATEVER THE INPUT: true; the input reads as it did. -/
def fnTriangleSpec : ChangeSpec := { name := "fnTriangle", fn := fun _ => fun
  | [d] => { results := [.lit (.bool true)], args := [d] }
  | _ => none }
def fnTriangleRow : OpenClaim := { program := "ytajplmopdipbnaa", sum := "0d5bdf2ce3474181be41c93340fc5fb48b094d5c72e6d36bda3a09121e44720f", func := "loop.example/g01618/laws.FnTriangle", spec := "fnTriangle", plainKeys := false, apart := false }
def FnTriangleSaid : Prop := fnTriangleRow.holds Try.pinned (OpenSpec.ofChange fnTriangleSpec)

/-- ITS FALSE NEIGHBOUR: 'it returns false'. Refute it at one input. -/
def fnTriangleWrong : ChangeSpec := { name := "fnTriangle", fn := fun _ => fun
  | [d] => { results := [.lit (.bool false)], args := [d] }
  | _ => none }
def FnTriangleWrongFalsely : Prop := fnTriangleRow.holds Try.pinned (OpenSpec.ofChange fnTriangleWrong)

/-- 'laws.FnScaled': WHATEVER THE INPUT: true; the input reads as it did. -/
def fnScaledSpec : ChangeSpec := { name := "fnScaled", fn := fun _ => fun
  | [d] => { results := [.lit (.bool true)], args := [d] }
  | _ => none }
def fnScaledRow : OpenClaim := { program := "ytajplmopdipbnaa", sum := "0d5bdf2ce3474181be41c93340fc5fb48b094d5c72e6d36bda3a09121e44720f", func := "loop.example/g01618/laws.FnScaled", spec := "fnScaled", recurses := true, plainKeys := false, apart := false }
def FnScaledSaid : Prop := fnScaledRow.holds Try.pinned (OpenSpec.ofChange fnScaledSpec)

/-- ITS FALSE NEIGHBOUR: 'it returns false'. Refute it at one input. -/
def fnScaledWrong : ChangeSpec := { name := "fnScaled", fn := fun _ => fun
  | [d] => { results := [.lit (.bool false)], args := [d] }
  | _ => none }
def FnScaledWrongFalsely : Prop := fnScaledRow.holds Try.pinned (OpenSpec.ofChange fnScaledWrong)

/-- 'laws.FnExactTreeDists': WHATEVER THE INPUT: true; the input reads as it did. -/
def fnExactTreeDistsSpec : ChangeSpec := { name := "fnExactTreeDists", fn := fun _ => fun
  | [d1, d2, d3] => { results := [.lit (.bool true)], args := [d1, d2, d3] }
  | _ => none }
def fnExactTreeDistsRow : OpenClaim := { program := "ytajplmopdipbnaa", sum := "0d5bdf2ce3474181be41c93340fc5fb48b094d5c72e6d36bda3a09121e44720f", func := "loop.example/g01618/laws.FnExactTreeDists", spec := "fnExactTreeDists", recurses := true, plainKeys := false, apart := false }
def FnExactTreeDistsSaid : Prop := fnExactTreeDistsRow.holds Try.pinned (OpenSpec.ofChange fnExactTreeDistsSpec)

/-- ITS FALSE NEIGHBOUR: 'it returns false'. Refute it at one input. -/
def fnExactTreeDistsWrong : ChangeSpec := { name := "fnExactTreeDists", fn := fun _ => fun
  | [d1, d2, d3] => { results := [.lit (.bool false)], args := [d1, d2, d3] }
  | _ => none }
def FnExactTreeDistsWrongFalsely : Prop := fnExactTreeDistsRow.holds Try.pinned (OpenSpec.ofChange fnExactTreeDistsWrong)

/-- 'laws.FnExactTreeDist': WHATEVER THE INPUT: true; the input reads as it did. -/
def fnExactTreeDistSpec : ChangeSpec := { name := "fnExactTreeDist", fn := fun _ => fun
  | [d1, d2, d3] => { results := [.lit (.bool true)], args := [d1, d2, d3] }
  | _ => none }
def fnExactTreeDistRow : OpenClaim := { program := "ytajplmopdipbnaa", sum := "0d5bdf2ce3474181be41c93340fc5fb48b094d5c72e6d36bda3a09121e44720f", func := "loop.example/g01618/laws.FnExactTreeDist", spec := "fnExactTreeDist", recurses := true, plainKeys := false, apart := false }
def FnExactTreeDistSaid : Prop := fnExactTreeDistRow.holds Try.pinned (OpenSpec.ofChange fnExactTreeDistSpec)

/-- ITS FALSE NEIGHBOUR: 'it returns false'. Refute it at one input. -/
def fnExactTreeDistWrong : ChangeSpec := { name := "fnExactTreeDist", fn := fun _ => fun
  | [d1, d2, d3] => { results := [.lit (.bool false)], args := [d1, d2, d3] }
  | _ => none }
def FnExactTreeDistWrongFalsely : Prop := fnExactTreeDistRow.holds Try.pinned (OpenSpec.ofChange fnExactTreeDistWrong)

/-- 'laws.FnExactRootDist': WHATEVER THE INPUT: true; the input reads as it did. -/
def fnExactRootDistSpec : ChangeSpec := { name := "fnExactRootDist", fn := fun _ => fun
  | [d1, d2, d3] => { results := [.lit (.bool true)], args := [d1, d2, d3] }
  | _ => none }
def fnExactRootDistRow : OpenClaim := { program := "ytajplmopdipbnaa", sum := "0d5bdf2ce3474181be41c93340fc5fb48b094d5c72e6d36bda3a09121e44720f", func := "loop.example/g01618/laws.FnExactRootDist", spec := "fnExactRootDist", recurses := true, plainKeys := false, apart := false }
def FnExactRootDistSaid : Prop := fnExactRootDistRow.holds Try.pinned (OpenSpec.ofChange fnExactRootDistSpec)

/-- ITS FALSE NEIGHBOUR: 'it returns false'. Refute it at one input. -/
def fnExactRootDistWrong : ChangeSpec := { name := "fnExactRootDist", fn := fun _ => fun
  | [d1, d2, d3] => { results := [.lit (.bool false)], args := [d1, d2, d3] }
  | _ => none }
def FnExactRootDistWrongFalsely : Prop := fnExactRootDistRow.holds Try.pinned (OpenSpec.ofChange fnExactRootDistWrong)

/-- 'laws.FnExactForestDist': WHATEVER THE INPUT: true; the input reads as it did. -/
def fnExactForestDistSpec : ChangeSpec := { name := "fnExactForestDist", fn := fun _ => fun
  | [d1, d2, d3, d4, d5, d6, d7] => { results := [.lit (.bool true)], args := [d1, d2, d3, d4, d5, d6, d7] }
  | _ => none }
def fnExactForestDistRow : OpenClaim := { program := "ytajplmopdipbnaa", sum := "0d5bdf2ce3474181be41c93340fc5fb48b094d5c72e6d36bda3a09121e44720f", func := "loop.example/g01618/laws.FnExactForestDist", spec := "fnExactForestDist", recurses := true, plainKeys := false, apart := false }
def FnExactForestDistSaid : Prop := fnExactForestDistRow.holds Try.pinned (OpenSpec.ofChange fnExactForestDistSpec)

/-- ITS FALSE NEIGHBOUR: 'it returns false'. Refute it at one input. -/
def fnExactForestDistWrong : ChangeSpec := { name := "fnExactForestDist", fn := fun _ => fun
  | [d1, d2, d3, d4, d5, d6, d7] => { results := [.lit (.bool false)], args := [d1, d2, d3, d4, d5, d6, d7] }
  | _ => none }
def FnExactForestDistWrongFalsely : Prop := fnExactForestDistRow.holds Try.pinned (OpenSpec.ofChange fnExactForestDistWrong)

/-- 'laws.FnExactSlowDist': WHATEVER THE INPUT: true; the input reads as it did. -/
def fnExactSlowDistSpec : ChangeSpec := { name := "fnExactSlowDist", fn := fun _ => fun
  | [d1, d2, d3] => { results := [.lit (.bool true)], args := [d1, d2, d3] }
  | _ => none }
def fnExactSlowDistRow : OpenClaim := { program := "ytajplmopdipbnaa", sum := "0d5bdf2ce3474181be41c93340fc5fb48b094d5c72e6d36bda3a09121e44720f", func := "loop.example/g01618/laws.FnExactSlowDist", spec := "fnExactSlowDist", recurses := true, plainKeys := false, apart := false }
def FnExactSlowDistSaid : Prop := fnExactSlowDistRow.holds Try.pinned (OpenSpec.ofChange fnExactSlowDistSpec)

/-- ITS FALSE NEIGHBOUR: 'it returns false'. Refute it at one input. -/
def fnExactSlowDistWrong : ChangeSpec := { name := "fnExactSlowDist", fn := fun _ => fun
  | [d1, d2, d3] => { results := [.lit (.bool false)], args := [d1, d2, d3] }
  | _ => none }
def FnExactSlowDistWrongFalsely : Prop := fnExactSlowDistRow.holds Try.pinned (OpenSpec.ofChange fnExactSlowDistWrong)

/- THE SECOND FORM. 'bulk': how many values and letters a reading holds, each counted each time it is reached (what is shared counts as often as it is met; a slice's spare places count too). A statement '..UptoSaid' is the law's where the arguments, and the package variables that the reading takes, are together of bulk at most 1048576: NARROWER than '..Said'. Prove '..Said' where nothing that the law and all that it calls make is longer than what came in: it says more and counts as full. Else prove '..UptoSaid'. A law counts once. -/
mutual
def uptoBulk {H : Type} : DataW H → Nat
  | .lit (.string bytes) => bytes.length + 1
  | .lit _ => 1
  | .nil => 1
  | .ptr d => uptoBulk d + 1
  | .slice elems spare => uptoBulkAll elems + uptoBulkAll spare + 1
  | .agg parts => uptoBulkAll parts + 1
  | .iface _ d => uptoBulk d + 1
  | .map entries => uptoBulkEntries entries + 1
  | .held _ => 1
def uptoBulkAll {H : Type} : List (DataW H) → Nat
  | [] => 0
  | d :: r => uptoBulk d + uptoBulkAll r
def uptoBulkEntries {H : Type} : List (Lit × DataW H) → Nat
  | [] => 0
  | x :: r => uptoBulkEntry x + uptoBulkEntries r
def uptoBulkEntry {H : Type} : Lit × DataW H → Nat
  | (.string bytes, d) => bytes.length + uptoBulk d + 1
  | (_, d) => uptoBulk d + 1
 end
def uptoSmall : (H : Type) → List (DataW H) → Bool := fun _ ds => decide (uptoBulkAll ds ≤ 1048576)
def OpenSpec.upto (s : _root_.Go.ChangeSpec) : _root_.Go.OpenSpec := { _root_.Go.OpenSpec.ofChange s with cond := some uptoSmall }

/-- 'laws.FnSlow', WHERE WHAT IT READS IS OF BULK AT MOST 1048576: true; the input reads as it did. -/
def fnSlowUptoRow : OpenClaim := { program := "ytajplmopdipbnaa", sum := "0d5bdf2ce3474181be41c93340fc5fb48b094d5c72e6d36bda3a09121e44720f", func := "loop.example/g01618/laws.FnSlow", spec := "fnSlow", recurses := true, plainKeys := false, apart := false, narrowed := true }
def FnSlowUptoSaid : Prop := fnSlowUptoRow.holds Try.pinned (OpenSpec.upto fnSlowSpec)

/-- 'laws.FnDists', WHERE WHAT IT READS IS OF BULK AT MOST 1048576: true; the input reads as it did. -/
def fnDistsUptoRow : OpenClaim := { program := "ytajplmopdipbnaa", sum := "0d5bdf2ce3474181be41c93340fc5fb48b094d5c72e6d36bda3a09121e44720f", func := "loop.example/g01618/laws.FnDists", spec := "fnDists", recurses := true, plainKeys := false, apart := false, narrowed := true }
def FnDistsUptoSaid : Prop := fnDistsUptoRow.holds Try.pinned (OpenSpec.upto fnDistsSpec)

/-- 'laws.FnForests', WHERE WHAT IT READS IS OF BULK AT MOST 1048576: true; the input reads as it did. -/
def fnForestsUptoRow : OpenClaim := { program := "ytajplmopdipbnaa", sum := "0d5bdf2ce3474181be41c93340fc5fb48b094d5c72e6d36bda3a09121e44720f", func := "loop.example/g01618/laws.FnForests", spec := "fnForests", recurses := true, plainKeys := false, apart := false, narrowed := true }
def FnForestsUptoSaid : Prop := fnForestsUptoRow.holds Try.pinned (OpenSpec.upto fnForestsSpec)

/-- 'laws.FnBothWays', WHERE WHAT IT READS IS OF BULK AT MOST 1048576: true; the input reads as it did. -/
def fnBothWaysUptoRow : OpenClaim := { program := "ytajplmopdipbnaa", sum := "0d5bdf2ce3474181be41c93340fc5fb48b094d5c72e6d36bda3a09121e44720f", func := "loop.example/g01618/laws.FnBothWays", spec := "fnBothWays", recurses := true, plainKeys := false, apart := false, narrowed := true }
def FnBothWaysUptoSaid : Prop := fnBothWaysUptoRow.holds Try.pinned (OpenSpec.upto fnBothWaysSpec)

/-- 'laws.FnTriangle', WHERE WHAT IT READS IS OF BULK AT MOST 1048576: true; the input reads as it did. -/
def fnTriangleUptoRow : OpenClaim := { program := "ytajplmopdipbnaa", sum := "0d5bdf2ce3474181be41c93340fc5fb48b094d5c72e6d36bda3a09121e44720f", func := "loop.example/g01618/laws.FnTriangle", spec := "fnTriangle", plainKeys := false, apart := false, narrowed := true }
def FnTriangleUptoSaid : Prop := fnTriangleUptoRow.holds Try.pinned (OpenSpec.upto fnTriangleSpec)

/-- 'laws.FnScaled', WHERE WHAT IT READS IS OF BULK AT MOST 1048576: true; the input reads as it did. -/
def fnScaledUptoRow : OpenClaim := { program := "ytajplmopdipbnaa", sum := "0d5bdf2ce3474181be41c93340fc5fb48b094d5c72e6d36bda3a09121e44720f", func := "loop.example/g01618/laws.FnScaled", spec := "fnScaled", recurses := true, plainKeys := false, apart := false, narrowed := true }
def FnScaledUptoSaid : Prop := fnScaledUptoRow.holds Try.pinned (OpenSpec.upto fnScaledSpec)

/-- 'laws.FnExactTreeDists', WHERE WHAT IT READS IS OF BULK AT MOST 1048576: true; the input reads as it did. -/
def fnExactTreeDistsUptoRow : OpenClaim := { program := "ytajplmopdipbnaa", sum := "0d5bdf2ce3474181be41c93340fc5fb48b094d5c72e6d36bda3a09121e44720f", func := "loop.example/g01618/laws.FnExactTreeDists", spec := "fnExactTreeDists", recurses := true, plainKeys := false, apart := false, narrowed := true }
def FnExactTreeDistsUptoSaid : Prop := fnExactTreeDistsUptoRow.holds Try.pinned (OpenSpec.upto fnExactTreeDistsSpec)

/-- 'laws.FnExactTreeDist', WHERE WHAT IT READS IS OF BULK AT MOST 1048576: true; the input reads as it did. -/
def fnExactTreeDistUptoRow : OpenClaim := { program := "ytajplmopdipbnaa", sum := "0d5bdf2ce3474181be41c93340fc5fb48b094d5c72e6d36bda3a09121e44720f", func := "loop.example/g01618/laws.FnExactTreeDist", spec := "fnExactTreeDist", recurses := true, plainKeys := false, apart := false, narrowed := true }
def FnExactTreeDistUptoSaid : Prop := fnExactTreeDistUptoRow.holds Try.pinned (OpenSpec.upto fnExactTreeDistSpec)

/-- 'laws.FnExactRootDist', WHERE WHAT IT READS IS OF BULK AT MOST 1048576: true; the input reads as it did. -/
def fnExactRootDistUptoRow : OpenClaim := { program := "ytajplmopdipbnaa", sum := "0d5bdf2ce3474181be41c93340fc5fb48b094d5c72e6d36bda3a09121e44720f", func := "loop.example/g01618/laws.FnExactRootDist", spec := "fnExactRootDist", recurses := true, plainKeys := false, apart := false, narrowed := true }
def FnExactRootDistUptoSaid : Prop := fnExactRootDistUptoRow.holds Try.pinned (OpenSpec.upto fnExactRootDistSpec)

/-- 'laws.FnExactForestDist', WHERE WHAT IT READS IS OF BULK AT MOST 1048576: true; the input reads as it did. -/
def fnExactForestDistUptoRow : OpenClaim := { program := "ytajplmopdipbnaa", sum := "0d5bdf2ce3474181be41c93340fc5fb48b094d5c72e6d36bda3a09121e44720f", func := "loop.example/g01618/laws.FnExactForestDist", spec := "fnExactForestDist", recurses := true, plainKeys := false, apart := false, narrowed := true }
def FnExactForestDistUptoSaid : Prop := fnExactForestDistUptoRow.holds Try.pinned (OpenSpec.upto fnExactForestDistSpec)

/-- 'laws.FnExactSlowDist', WHERE WHAT IT READS IS OF BULK AT MOST 1048576: true; the input reads as it did. -/
def fnExactSlowDistUptoRow : OpenClaim := { program := "ytajplmopdipbnaa", sum := "0d5bdf2ce3474181be41c93340fc5fb48b094d5c72e6d36bda3a09121e44720f", func := "loop.example/g01618/laws.FnExactSlowDist", spec := "fnExactSlowDist", recurses := true, plainKeys := false, apart := false, narrowed := true }
def FnExactSlowDistUptoSaid : Prop := fnExactSlowDistUptoRow.holds Try.pinned (OpenSpec.upto fnExactSlowDistSpec)

end Rows
end Go.Proofs.Ytajplmopdipbnaa
