/-
  No cell of these rows narrows 'for every input' (looked for: loops, veiled, ifaces, maps, wideKeys, modest, calm, conditions, laid).
  DERIVED. THE GIVEN ROWS OF THIS SEAT. 13 by the template 'for every input the law returns true; each argument reads behind the call as it read before'; 0 by the template 'total and deterministic' (their statements: YtfchmdhlfhoogaaTotals.lean).
  GIVEN WITH THE SEED: the statements are not yours to turn. If you find one false, say at which input.
  Laid BY PROGRAM, IN A SANDBOX (cutbox-rows.mjs): the forced cells as the released guide's own fill.sh prints them over the translation cfcd9be184e8e894… (all of the seat's roots in one cut). By AI agents, Wed Nov 11 2026. No macro, syntax, notation, axiom, sorry.
-/
import Derived.Test.YtfchmdhlfhoogaaChecked
import GoSem.Claim
import GoSem.ClaimJoined
import GoSem.ClaimMapViews
import Derived.JoinedTies
import Derived.KernelRfl
namespace Go.Proofs.Ytfchmdhlfhoogaa
/- THE CELL 'sum', in the pinned program and in every row, IS THE sha256 OF THE DUMP (.gsa) THAT YtfchmdhlfhoogaaProg.lean LOADS. Nothing in Lean hashes anything: it is a label: what it is worth is what the hold of that sum in a sandbox is worth. -/
noncomputable def Try.pinned : Pinned := { name := "ytfchmdhlfhoogaa", sum := "cfcd9be184e8e89457acec4461a35fe4dcb12c31e6cf4a66529d302c2afecd59", checked := Try.checked }
namespace Rows
def none {H : Type} : Left H := { results := [], args := [] }

/-- 'laws.FnSlow': WHATEVER THE INPUT: true; the input reads as it did. -/
def fnSlowSpec : ChangeSpec := { name := "fnSlow", fn := fun _ => fun
  | [d] => { results := [.lit (.bool true)], args := [d] }
  | _ => none }
def fnSlowRow : OpenClaim := { program := "ytfchmdhlfhoogaa", sum := "cfcd9be184e8e89457acec4461a35fe4dcb12c31e6cf4a66529d302c2afecd59", func := "loop.example/g01618/laws.FnSlow", spec := "fnSlow", recurses := true, plainKeys := false, apart := false }
def FnSlowSaid : Prop := fnSlowRow.holds Try.pinned (OpenSpec.ofChange fnSlowSpec)

/-- ITS FALSE NEIGHBOUR: 'it returns false'. Refute it at one input. -/
def fnSlowWrong : ChangeSpec := { name := "fnSlow", fn := fun _ => fun
  | [d] => { results := [.lit (.bool false)], args := [d] }
  | _ => none }
def FnSlowWrongFalsely : Prop := fnSlowRow.holds Try.pinned (OpenSpec.ofChange fnSlowWrong)

/-- 'laws.FnDists': WHATEVER THE INPUT: true; the input reads as it did. -/
def fnDistsSpec : ChangeSpec := { name := "fnDists", fn := fun _ => fun
  | [d] => { results := [.lit (.bool true)], args := [d] }
  | _ => none }
def fnDistsRow : OpenClaim := { program := "ytfchmdhlfhoogaa", sum := "cfcd9be184e8e89457acec4461a35fe4dcb12c31e6cf4a66529d302c2afecd59", func := "loop.example/g01618/laws.FnDists", spec := "fnDists", recurses := true, plainKeys := false, apart := false }
def FnDistsSaid : Prop := fnDistsRow.holds Try.pinned (OpenSpec.ofChange fnDistsSpec)

/-- ITS FALSE NEIGHBOUR: 'it returns false'. Refute it at one input. -/
def fnDistsWrong : ChangeSpec := { name := "fnDists", fn := fun _ => fun
  | [d] => { results := [.lit (.bool false)], args := [d] }
  | _ => none }
def FnDistsWrongFalsely : Prop := fnDistsRow.holds Try.pinned (OpenSpec.ofChange fnDistsWrong)

/-- 'laws.FnForests': WHATEVER THE INPUT: true; the input reads as it did. -/
def fnForestsSpec : ChangeSpec := { name := "fnForests", fn := fun _ => fun
  | [d] => { results := [.lit (.bool true)], args := [d] }
  | _ => none }
def fnForestsRow : OpenClaim := { program := "ytfchmdhlfhoogaa", sum := "cfcd9be184e8e89457acec4461a35fe4dcb12c31e6cf4a66529d302c2afecd59", func := "loop.example/g01618/laws.FnForests", spec := "fnForests", recurses := true, plainKeys := false, apart := false }
def FnForestsSaid : Prop := fnForestsRow.holds Try.pinned (OpenSpec.ofChange fnForestsSpec)

/-- ITS FALSE NEIGHBOUR: 'it returns false'. Refute it at one input. -/
def fnForestsWrong : ChangeSpec := { name := "fnForests", fn := fun _ => fun
  | [d] => { results := [.lit (.bool false)], args := [d] }
  | _ => none }
def FnForestsWrongFalsely : Prop := fnForestsRow.holds Try.pinned (OpenSpec.ofChange fnForestsWrong)

/-- 'laws.FnBothWays': WHATEVER THE INPUT: true; the input reads as it did. -/
def fnBothWaysSpec : ChangeSpec := { name := "fnBothWays", fn := fun _ => fun
  | [d] => { results := [.lit (.bool true)], args := [d] }
  | _ => none }
def fnBothWaysRow : OpenClaim := { program := "ytfchmdhlfhoogaa", sum := "cfcd9be184e8e89457acec4461a35fe4dcb12c31e6cf4a66529d302c2afecd59", func := "loop.example/g01618/laws.FnBothWays", spec := "fnBothWays", recurses := true, plainKeys := false, apart := false }
def FnBothWaysSaid : Prop := fnBothWaysRow.holds Try.pinned (OpenSpec.ofChange fnBothWaysSpec)

/-- ITS FALSE NEIGHBOUR: 'it returns false'. Refute it at one input. -/
def fnBothWaysWrong : ChangeSpec := { name := "fnBothWays", fn := fun _ => fun
  | [d] => { results := [.lit (.bool false)], args := [d] }
  | _ => none }
def FnBothWaysWrongFalsely : Prop := fnBothWaysRow.holds Try.pinned (OpenSpec.ofChange fnBothWaysWrong)

/-- 'laws.FnScaled': WHATEVER THE INPUT: true; the input reads as it did. -/
def fnScaledSpec : ChangeSpec := { name := "fnScaled", fn := fun _ => fun
  | [d] => { results := [.lit (.bool true)], args := [d] }
  | _ => none }
def fnScaledRow : OpenClaim := { program := "ytfchmdhlfhoogaa", sum := "cfcd9be184e8e89457acec4461a35fe4dcb12c31e6cf4a66529d302c2afecd59", func := "loop.example/g01618/laws.FnScaled", spec := "fnScaled", recurses := true, plainKeys := false, apart := false }
def FnScaledSaid : Prop := fnScaledRow.holds Try.pinned (OpenSpec.ofChange fnScaledSpec)

/-- ITS FALSE NEIGHBOUR: 'it returns false'. Refute it at one input. -/
def fnScaledWrong : ChangeSpec := { name := "fnScaled", fn := fun _ => fun
  | [d] => { results := [.lit (.bool false)], args := [d] }
  | _ => none }
def FnScaledWrongFalsely : Prop := fnScaledRow.holds Try.pinned (OpenSpec.ofChange fnScaledWrong)

/-- 'laws.FnExactForestDist': WHATEVER THE INPUT: true; the input reads as it did. -/
def fnExactForestDistSpec : ChangeSpec := { name := "fnExactForestDist", fn := fun _ => fun
  | [d1, d2, d3, d4, d5, d6, d7] => { results := [.lit (.bool true)], args := [d1, d2, d3, d4, d5, d6, d7] }
  | _ => none }
def fnExactForestDistRow : OpenClaim := { program := "ytfchmdhlfhoogaa", sum := "cfcd9be184e8e89457acec4461a35fe4dcb12c31e6cf4a66529d302c2afecd59", func := "loop.example/g01618/laws.FnExactForestDist", spec := "fnExactForestDist", recurses := true, plainKeys := false, apart := false }
def FnExactForestDistSaid : Prop := fnExactForestDistRow.holds Try.pinned (OpenSpec.ofChange fnExactForestDistSpec)

/-- ITS FALSE NEIGHBOUR: 'it returns false'. Refute it at one input. -/
def fnExactForestDistWrong : ChangeSpec := { name := "fnExactForestDist", fn := fun _ => fun
  | [d1, d2, d3, d4, d5, d6, d7] => { results := [.lit (.bool false)], args := [d1, d2, d3, d4, d5, d6, d7] }
  | _ => none }
def FnExactForestDistWrongFalsely : Prop := fnExactForestDistRow.holds Try.pinned (OpenSpec.ofChange fnExactForestDistWrong)

/-- 'laws.FnExactSlowDist': WHATEVER THE INPUT: true; the input reads as it did. -/
def fnExactSlowDistSpec : ChangeSpec := { name := "fnExactSlowDist", fn := fun _ => fun
  | [d1, d2, d3] => { results := [.lit (.bool true)], args := [d1, d2, d3] }
  | _ => none }
def fnExactSlowDistRow : OpenClaim := { program := "ytfchmdhlfhoogaa", sum := "cfcd9be184e8e89457acec4461a35fe4dcb12c31e6cf4a66529d302c2afecd59", func := "loop.example/g01618/laws.FnExactSlowDist", spec := "fnExactSlowDist", recurses := true, plainKeys := false, apart := false }
def FnExactSlowDistSaid : Prop := fnExactSlowDistRow.holds Try.pinned (OpenSpec.ofChange fnExactSlowDistSpec)

/-- ITS FALSE NEIGHBOUR: 'it returns false'. Refute it at one input. -/
def fnExactSlowDistWrong : ChangeSpec := { name := "fnExactSlowDist", fn := fun _ => fun
  | [d1, d2, d3] => { results := [.lit (.bool false)], args := [d1, d2, d3] }
  | _ => none }
def FnExactSlowDistWrongFalsely : Prop := fnExactSlowDistRow.holds Try.pinned (OpenSpec.ofChange fnExactSlowDistWrong)

/-- 'laws.FnExactMapOk': WHATEVER THE INPUT: true; the input reads as it did. -/
def fnExactMapOkSpec : ChangeSpec := { name := "fnExactMapOk", fn := fun _ => fun
  | [d1, d2, d3] => { results := [.lit (.bool true)], args := [d1, d2, d3] }
  | _ => none }
def fnExactMapOkRow : OpenClaim := { program := "ytfchmdhlfhoogaa", sum := "cfcd9be184e8e89457acec4461a35fe4dcb12c31e6cf4a66529d302c2afecd59", func := "loop.example/g01618/laws.FnExactMapOk", spec := "fnExactMapOk", plainKeys := false, apart := false }
def FnExactMapOkSaid : Prop := fnExactMapOkRow.holds Try.pinned (OpenSpec.ofChange fnExactMapOkSpec)

/-- ITS FALSE NEIGHBOUR: 'it returns false'. Refute it at one input. -/
def fnExactMapOkWrong : ChangeSpec := { name := "fnExactMapOk", fn := fun _ => fun
  | [d1, d2, d3] => { results := [.lit (.bool false)], args := [d1, d2, d3] }
  | _ => none }
def FnExactMapOkWrongFalsely : Prop := fnExactMapOkRow.holds Try.pinned (OpenSpec.ofChange fnExactMapOkWrong)

/-- 'laws.FnExactRootsPaired': WHATEVER THE INPUT: true; the input reads as it did. -/
def fnExactRootsPairedSpec : ChangeSpec := { name := "fnExactRootsPaired", fn := fun _ => fun
  | [d] => { results := [.lit (.bool true)], args := [d] }
  | _ => none }
def fnExactRootsPairedRow : OpenClaim := { program := "ytfchmdhlfhoogaa", sum := "cfcd9be184e8e89457acec4461a35fe4dcb12c31e6cf4a66529d302c2afecd59", func := "loop.example/g01618/laws.FnExactRootsPaired", spec := "fnExactRootsPaired", plainKeys := false, apart := false }
def FnExactRootsPairedSaid : Prop := fnExactRootsPairedRow.holds Try.pinned (OpenSpec.ofChange fnExactRootsPairedSpec)

/-- ITS FALSE NEIGHBOUR: 'it returns false'. Refute it at one input. -/
def fnExactRootsPairedWrong : ChangeSpec := { name := "fnExactRootsPaired", fn := fun _ => fun
  | [d] => { results := [.lit (.bool false)], args := [d] }
  | _ => none }
def FnExactRootsPairedWrongFalsely : Prop := fnExactRootsPairedRow.holds Try.pinned (OpenSpec.ofChange fnExactRootsPairedWrong)

/-- 'laws.FnExactMapCost': WHATEVER THE INPUT: true; the input reads as it did. -/
def fnExactMapCostSpec : ChangeSpec := { name := "fnExactMapCost", fn := fun _ => fun
  | [d1, d2, d3, d4] => { results := [.lit (.bool true)], args := [d1, d2, d3, d4] }
  | _ => none }
def fnExactMapCostRow : OpenClaim := { program := "ytfchmdhlfhoogaa", sum := "cfcd9be184e8e89457acec4461a35fe4dcb12c31e6cf4a66529d302c2afecd59", func := "loop.example/g01618/laws.FnExactMapCost", spec := "fnExactMapCost", plainKeys := false, apart := false }
def FnExactMapCostSaid : Prop := fnExactMapCostRow.holds Try.pinned (OpenSpec.ofChange fnExactMapCostSpec)

/-- ITS FALSE NEIGHBOUR: 'it returns false'. Refute it at one input. -/
def fnExactMapCostWrong : ChangeSpec := { name := "fnExactMapCost", fn := fun _ => fun
  | [d1, d2, d3, d4] => { results := [.lit (.bool false)], args := [d1, d2, d3, d4] }
  | _ => none }
def FnExactMapCostWrongFalsely : Prop := fnExactMapCostRow.holds Try.pinned (OpenSpec.ofChange fnExactMapCostWrong)

/-- 'laws.FnExactTurned': WHATEVER THE INPUT: true; the input reads as it did. -/
def fnExactTurnedSpec : ChangeSpec := { name := "fnExactTurned", fn := fun _ => fun
  | [d] => { results := [.lit (.bool true)], args := [d] }
  | _ => none }
def fnExactTurnedRow : OpenClaim := { program := "ytfchmdhlfhoogaa", sum := "cfcd9be184e8e89457acec4461a35fe4dcb12c31e6cf4a66529d302c2afecd59", func := "loop.example/g01618/laws.FnExactTurned", spec := "fnExactTurned", plainKeys := false, apart := false }
def FnExactTurnedSaid : Prop := fnExactTurnedRow.holds Try.pinned (OpenSpec.ofChange fnExactTurnedSpec)

/-- ITS FALSE NEIGHBOUR: 'it returns false'. Refute it at one input. -/
def fnExactTurnedWrong : ChangeSpec := { name := "fnExactTurned", fn := fun _ => fun
  | [d] => { results := [.lit (.bool false)], args := [d] }
  | _ => none }
def FnExactTurnedWrongFalsely : Prop := fnExactTurnedRow.holds Try.pinned (OpenSpec.ofChange fnExactTurnedWrong)

/-- 'laws.FnExactComposed': WHATEVER THE INPUT: true; the input reads as it did. -/
def fnExactComposedSpec : ChangeSpec := { name := "fnExactComposed", fn := fun _ => fun
  | [d1, d2] => { results := [.lit (.bool true)], args := [d1, d2] }
  | _ => none }
def fnExactComposedRow : OpenClaim := { program := "ytfchmdhlfhoogaa", sum := "cfcd9be184e8e89457acec4461a35fe4dcb12c31e6cf4a66529d302c2afecd59", func := "loop.example/g01618/laws.FnExactComposed", spec := "fnExactComposed", plainKeys := false, apart := false }
def FnExactComposedSaid : Prop := fnExactComposedRow.holds Try.pinned (OpenSpec.ofChange fnExactComposedSpec)

/-- ITS FALSE NEIGHBOUR: 'it returns false'. Refute it at one input. -/
def fnExactComposedWrong : ChangeSpec := { name := "fnExactComposed", fn := fun _ => fun
  | [d1, d2] => { results := [.lit (.bool false)], args := [d1, d2] }
  | _ => none }
def FnExactComposedWrongFalsely : Prop := fnExactComposedRow.holds Try.pinned (OpenSpec.ofChange fnExactComposedWrong)

/-- 'laws.FnExactSameMap': WHATEVER THE INPUT: true; the input reads as it did. -/
def fnExactSameMapSpec : ChangeSpec := { name := "fnExactSameMap", fn := fun _ => fun
  | [d1, d2] => { results := [.lit (.bool true)], args := [d1, d2] }
  | _ => none }
def fnExactSameMapRow : OpenClaim := { program := "ytfchmdhlfhoogaa", sum := "cfcd9be184e8e89457acec4461a35fe4dcb12c31e6cf4a66529d302c2afecd59", func := "loop.example/g01618/laws.FnExactSameMap", spec := "fnExactSameMap", plainKeys := false, apart := false }
def FnExactSameMapSaid : Prop := fnExactSameMapRow.holds Try.pinned (OpenSpec.ofChange fnExactSameMapSpec)

/-- ITS FALSE NEIGHBOUR: 'it returns false'. Refute it at one input. -/
def fnExactSameMapWrong : ChangeSpec := { name := "fnExactSameMap", fn := fun _ => fun
  | [d1, d2] => { results := [.lit (.bool false)], args := [d1, d2] }
  | _ => none }
def FnExactSameMapWrongFalsely : Prop := fnExactSameMapRow.holds Try.pinned (OpenSpec.ofChange fnExactSameMapWrong)

/- THE SECOND FORM. 'bulk': how many values and letters a reading holds, each counted each time it is reached (what is shared counts as often as it is met; a slice's spare places count too). A statement '..UptoSaid' is the law's where the arguments, and the package variables that the reading takes, are together of bulk at most 1048576: NARROWER than '..Said'. Prove '..Said' where nothing that the law and all that it calls make is longer than what came in: it says more and counts as full. Else prove '..UptoSaid'. A law counts once. -/
mutual
def uptoBulk {H : Type} : DataW H → Nat
  | .lit (.string bytes) => bytes.length + 1
  | .lit _ => 1
  | .nil => 1
  | .ptr d => uptoBulk d + 1
  | .slice elems spare => uptoBulkAll elems + uptoBulkAll spare + 1
  | .agg parts => uptoBulkAll parts + 1
  | .iface _ d => uptoBulk d + 1
  | .map entries => uptoBulkEntries entries + 1
  | .held _ => 1
def uptoBulkAll {H : Type} : List (DataW H) → Nat
  | [] => 0
  | d :: r => uptoBulk d + uptoBulkAll r
def uptoBulkEntries {H : Type} : List (Lit × DataW H) → Nat
  | [] => 0
  | x :: r => uptoBulkEntry x + uptoBulkEntries r
def uptoBulkEntry {H : Type} : Lit × DataW H → Nat
  | (.string bytes, d) => bytes.length + uptoBulk d + 1
  | (_, d) => uptoBulk d + 1
 end
def uptoSmall : (H : Type) → List (DataW H) → Bool := fun _ ds => decide (uptoBulkAll ds ≤ 1048576)
def OpenSpec.upto (s : _root_.Go.ChangeSpec) : _root_.Go.OpenSpec := { _root_.Go.OpenSpec.ofChange s with cond := some uptoSmall }

/-- 'laws.FnSlow', WHERE WHAT IT READS IS OF BULK AT MOST 1048576: true; the input reads as it did. -/
def fnSlowUptoRow : OpenClaim := { program := "ytfchmdhlfhoogaa", sum := "cfcd9be184e8e89457acec4461a35fe4dcb12c31e6cf4a66529d302c2afecd59", func := "loop.example/g01618/laws.FnSlow", spec := "fnSlow", recurses := true, plainKeys := false, apart := false, narrowed := true }
def FnSlowUptoSaid : Prop := fnSlowUptoRow.holds Try.pinned (OpenSpec.upto fnSlowSpec)

/-- 'laws.FnDists', WHERE WHAT IT READS IS OF BULK AT MOST 1048576: true; the input reads as it did. -/
def fnDistsUptoRow : OpenClaim := { program := "ytfchmdhlfhoogaa", sum := "cfcd9be184e8e89457acec4461a35fe4dcb12c31e6cf4a66529d302c2afecd59", func := "loop.example/g01618/laws.FnDists", spec := "fnDists", recurses := true, plainKeys := false, apart := false, narrowed := true }
def FnDistsUptoSaid : Prop := fnDistsUptoRow.holds Try.pinned (OpenSpec.upto fnDistsSpec)

/-- 'laws.FnForests', WHERE WHAT IT READS IS OF BULK AT MOST 1048576: true; the input reads as it did. -/
def fnForestsUptoRow : OpenClaim := { program := "ytfchmdhlfhoogaa", sum := "cfcd9be184e8e89457acec4461a35fe4dcb12c31e6cf4a66529d302c2afecd59", func := "loop.example/g01618/laws.FnForests", spec := "fnForests", recurses := true, plainKeys := false, apart := false, narrowed := true }
def FnForestsUptoSaid : Prop := fnForestsUptoRow.holds Try.pinned (OpenSpec.upto fnForestsSpec)

/-- 'laws.FnBothWays', WHERE WHAT IT READS IS OF BULK AT MOST 1048576: true; the input reads as it did. -/
def fnBothWaysUptoRow : OpenClaim := { program := "ytfchmdhlfhoogaa", sum := "cfcd9be184e8e89457acec4461a35fe4dcb12c31e6cf4a66529d302c2afecd59", func := "loop.example/g01618/laws.FnBothWays", spec := "fnBothWays", recurses := true, plainKeys := false, apart := false, narrowed := true }
def FnBothWaysUptoSaid : Prop := fnBothWaysUptoRow.holds Try.pinned (OpenSpec.upto fnBothWaysSpec)

/-- 'laws.FnScaled', WHERE WHAT IT READS IS OF BULK AT MOST 1048576: true; the input reads as it did. -/
def fnScaledUptoRow : OpenClaim := { program := "ytfchmdhlfhoogaa", sum := "cfcd9be184e8e89457acec4461a35fe4dcb12c31e6cf4a66529d302c2afecd59", func := "loop.example/g01618/laws.FnScaled", spec := "fnScaled", recurses := true, plainKeys := false, apart := false, narrowed := true }
def FnScaledUptoSaid : Prop := fnScaledUptoRow.holds Try.pinned (OpenSpec.upto fnScaledSpec)

/-- 'laws.FnExactForestDist', WHERE WHAT IT READS IS OF BULK AT MOST 1048576: true; the input reads as it did. -/
def fnExactForestDistUptoRow : OpenClaim := { program := "ytfchmdhlfhoogaa", sum := "cfcd9be184e8e89457acec4461a35fe4dcb12c31e6cf4a66529d302c2afecd59", func := "loop.example/g01618/laws.FnExactForestDist", spec := "fnExactForestDist", recurses := true, plainKeys := false, apart := false, narrowed := true }
def FnExactForestDistUptoSaid : Prop := fnExactForestDistUptoRow.holds Try.pinned (OpenSpec.upto fnExactForestDistSpec)

/-- 'laws.FnExactSlowDist', WHERE WHAT IT READS IS OF BULK AT MOST 1048576: true; the input reads as it did. -/
def fnExactSlowDistUptoRow : OpenClaim := { program := "ytfchmdhlfhoogaa", sum := "cfcd9be184e8e89457acec4461a35fe4dcb12c31e6cf4a66529d302c2afecd59", func := "loop.example/g01618/laws.FnExactSlowDist", spec := "fnExactSlowDist", recurses := true, plainKeys := false, apart := false, narrowed := true }
def FnExactSlowDistUptoSaid : Prop := fnExactSlowDistUptoRow.holds Try.pinned (OpenSpec.upto fnExactSlowDistSpec)

/-- 'laws.FnExactMapOk', WHERE WHAT IT READS IS OF BULK AT MOST 1048576: true; the input reads as it did. -/
def fnExactMapOkUptoRow : OpenClaim := { program := "ytfchmdhlfhoogaa", sum := "cfcd9be184e8e89457acec4461a35fe4dcb12c31e6cf4a66529d302c2afecd59", func := "loop.example/g01618/laws.FnExactMapOk", spec := "fnExactMapOk", plainKeys := false, apart := false, narrowed := true }
def FnExactMapOkUptoSaid : Prop := fnExactMapOkUptoRow.holds Try.pinned (OpenSpec.upto fnExactMapOkSpec)

/-- 'laws.FnExactRootsPaired', WHERE WHAT IT READS IS OF BULK AT MOST 1048576: true; the input reads as it did. -/
def fnExactRootsPairedUptoRow : OpenClaim := { program := "ytfchmdhlfhoogaa", sum := "cfcd9be184e8e89457acec4461a35fe4dcb12c31e6cf4a66529d302c2afecd59", func := "loop.example/g01618/laws.FnExactRootsPaired", spec := "fnExactRootsPaired", plainKeys := false, apart := false, narrowed := true }
def FnExactRootsPairedUptoSaid : Prop := fnExactRootsPairedUptoRow.holds Try.pinned (OpenSpec.upto fnExactRootsPairedSpec)

/-- 'laws.FnExactMapCost', WHERE WHAT IT READS IS OF BULK AT MOST 1048576: true; the input reads as it did. -/
def fnExactMapCostUptoRow : OpenClaim := { program := "ytfchmdhlfhoogaa", sum := "cfcd9be184e8e89457acec4461a35fe4dcb12c31e6cf4a66529d302c2afecd59", func := "loop.example/g01618/laws.FnExactMapCost", spec := "fnExactMapCost", plainKeys := false, apart := false, narrowed := true }
def FnExactMapCostUptoSaid : Prop := fnExactMapCostUptoRow.holds Try.pinned (OpenSpec.upto fnExactMapCostSpec)

/-- 'laws.FnExactTurned', WHERE WHAT IT READS IS OF BULK AT MOST 1048576: true; the input reads as it did. -/
def fnExactTurnedUptoRow : OpenClaim := { program := "ytfchmdhlfhoogaa", sum := "cfcd9be184e8e89457acec4461a35fe4dcb12c31e6cf4a66529d302c2afecd59", func := "loop.example/g01618/laws.FnExactTurned", spec := "fnExactTurned", plainKeys := false, apart := false, narrowed := true }
def FnExactTurnedUptoSaid : Prop := fnExactTurnedUptoRow.holds Try.pinned (OpenSpec.upto fnExactTurnedSpec)

/-- 'laws.FnExactComposed', WHERE WHAT IT READS IS OF BULK AT MOST 1048576: true; the input reads as it did. -/
def fnExactComposedUptoRow : OpenClaim := { program := "ytfchmdhlfhoogaa", sum := "cfcd9be184e8e89457acec4461a35fe4dcb12c31e6cf4a66529d302c2afecd59", func := "loop.example/g01618/laws.FnExactComposed", spec := "fnExactComposed", plainKeys := false, apart := false, narrowed := true }
def FnExactComposedUptoSaid : Prop := fnExactComposedUptoRow.holds Try.pinned (OpenSpec.upto fnExactComposedSpec)

/-- 'laws.FnExactSameMap', WHERE WHAT IT READS IS OF BULK AT MOST 1048576: true; the input reads as it did. -/
def fnExactSameMapUptoRow : OpenClaim := { program := "ytfchmdhlfhoogaa", sum := "cfcd9be184e8e89457acec4461a35fe4dcb12c31e6cf4a66529d302c2afecd59", func := "loop.example/g01618/laws.FnExactSameMap", spec := "fnExactSameMap", plainKeys := false, apart := false, narrowed := true }
def FnExactSameMapUptoSaid : Prop := fnExactSameMapUptoRow.holds Try.pinned (OpenSpec.upto fnExactSameMapSpec)

end Rows
end Go.Proofs.Ytfchmdhlfhoogaa
