/-
  No cell of these rows narrows 'for every input' (looked for: loops, veiled, ifaces, maps, wideKeys, modest, calm, conditions, laid).
  DERIVED. THE GIVEN ROWS OF THIS SEAT. 11 by the template 'for every input the law returns true; each argument reads behind the call as it read before'; 0 by the template 'total and deterministic' (their statements: YtlndaflhlkbedaaTotals.lean).
  GIVEN WITH THE SEED: the statements are not yours to turn. If you find one false, say at which input.
  Laid BY PROGRAM, IN A SANDBOX (cutbox-rows.mjs): the forced cells as the released guide's own fill.sh prints them over the translation 9ce470cc892975c7… (all of the seat's roots in one cut). By AI agents, Wed Nov 11 2026. No macro, syntax, notation, axiom, sorry.
-/
import Derived.Test.YtlndaflhlkbedaaChecked
import GoSem.Claim
import GoSem.ClaimJoined
import GoSem.ClaimMapViews
import Derived.JoinedTies
import Derived.KernelRfl
namespace Go.Proofs.Ytlndaflhlkbedaa
/- THE CELL 'sum', in the pinned program and in every row, IS THE sha256 OF THE DUMP (.gsa) THAT YtlndaflhlkbedaaProg.lean LOADS. Nothing in Lean hashes anything: it is a label: what it is worth is what the hold of that sum in a sandbox is worth. -/
noncomputable def Try.pinned : Pinned := { name := "ytlndaflhlkbedaa", sum := "9ce470cc892975c7003d3efcbf461a181f6fe60719f844516a2e2fb85b7c1da0", checked := Try.checked }
namespace Rows
def none {H : Type} : Left H := { results := [], args := [] }

/-- 'laws.FnSlow': WHATEVER THE INPUT: true; the input reads as it did. -/
def fnSlowSpec : ChangeSpec := { name := "fnSlow", fn := fun _ => fun
  | [d] => { results := [.lit (.bool true)], args := [d] }
  | _ => none }
def fnSlowRow : OpenClaim := { program := "ytlndaflhlkbedaa", sum := "9ce470cc892975c7003d3efcbf461a181f6fe60719f844516a2e2fb85b7c1da0", func := "loop.example/g01618/laws.FnSlow", spec := "fnSlow", recurses := true, plainKeys := false, apart := false }
def FnSlowSaid : Prop := fnSlowRow.holds Try.pinned (OpenSpec.ofChange fnSlowSpec)

/-- ITS FALSE NEIGHBOUR: 'it returns false'. Refute it at one input. -/
def fnSlowWrong : ChangeSpec := { name := "fnSlow", fn := fun _ => fun
  | [d] => { results := [.lit (.bool false)], args := [d] }
  | _ => none }
def FnSlowWrongFalsely : Prop := fnSlowRow.holds Try.pinned (OpenSpec.ofChange fnSlowWrong)

/-- 'laws.FnDists': WHATEVER THE INPUT: true; the input reads as it did. -/
def fnDistsSpec : ChangeSpec := { name := "fnDists", fn := fun _ => fun
  | [d] => { results := [.lit (.bool true)], args := [d] }
  | _ => none }
def fnDistsRow : OpenClaim := { program := "ytlndaflhlkbedaa", sum := "9ce470cc892975c7003d3efcbf461a181f6fe60719f844516a2e2fb85b7c1da0", func := "loop.example/g01618/laws.FnDists", spec := "fnDists", recurses := true, plainKeys := false, apart := false }
def FnDistsSaid : Prop := fnDistsRow.holds Try.pinned (OpenSpec.ofChange fnDistsSpec)

/-- ITS FALSE NEIGHBOUR: 'it returns false'. Refute it at one input. -/
def fnDistsWrong : ChangeSpec := { name := "fnDists", fn := fun _ => fun
  | [d] => { results := [.lit (.bool false)], args := [d] }
  | _ => none }
def FnDistsWrongFalsely : Prop := fnDistsRow.holds Try.pinned (OpenSpec.ofChange fnDistsWrong)

/-- 'laws.FnForests': WHATEVER THE INPUT: true; the input reads as it did. -/
def fnForestsSpec : ChangeSpec := { name := "fnForests", fn := fun _ => fun
  | [d] => { results := [.lit (.bool true)], args := [d] }
  | _ => none }
def fnForestsRow : OpenClaim := { program := "ytlndaflhlkbedaa", sum := "9ce470cc892975c7003d3efcbf461a181f6fe60719f844516a2e2fb85b7c1da0", func := "loop.example/g01618/laws.FnForests", spec := "fnForests", recurses := true, plainKeys := false, apart := false }
def FnForestsSaid : Prop := fnForestsRow.holds Try.pinned (OpenSpec.ofChange fnForestsSpec)

/-- ITS FALSE NEIGHBOUR: 'it returns false'. Refute it at one input. -/
def fnForestsWrong : ChangeSpec := { name := "fnForests", fn := fun _ => fun
  | [d] => { results := [.lit (.bool false)], args := [d] }
  | _ => none }
def FnForestsWrongFalsely : Prop := fnForestsRow.holds Try.pinned (OpenSpec.ofChange fnForestsWrong)

/-- 'laws.FnBest': WHATEVER THE INPUT: true; the input reads as it did. -/
def fnBestSpec : ChangeSpec := { name := "fnBest", fn := fun _ => fun
  | [d] => { results := [.lit (.bool true)], args := [d] }
  | _ => none }
def fnBestRow : OpenClaim := { program := "ytlndaflhlkbedaa", sum := "9ce470cc892975c7003d3efcbf461a181f6fe60719f844516a2e2fb85b7c1da0", func := "loop.example/g01618/laws.FnBest", spec := "fnBest", recurses := true, plainKeys := false, apart := false }
def FnBestSaid : Prop := fnBestRow.holds Try.pinned (OpenSpec.ofChange fnBestSpec)

/-- ITS FALSE NEIGHBOUR: 'it returns false'. Refute it at one input. -/
def fnBestWrong : ChangeSpec := { name := "fnBest", fn := fun _ => fun
  | [d] => { results := [.lit (.bool false)], args := [d] }
  | _ => none }
def FnBestWrongFalsely : Prop := fnBestRow.holds Try.pinned (OpenSpec.ofChange fnBestWrong)

/-- 'laws.FnComposed': WHATEVER THE INPUT: true; the input reads as it did. -/
def fnComposedSpec : ChangeSpec := { name := "fnComposed", fn := fun _ => fun
  | [d] => { results := [.lit (.bool true)], args := [d] }
  | _ => none }
def fnComposedRow : OpenClaim := { program := "ytlndaflhlkbedaa", sum := "9ce470cc892975c7003d3efcbf461a181f6fe60719f844516a2e2fb85b7c1da0", func := "loop.example/g01618/laws.FnComposed", spec := "fnComposed", recurses := true, plainKeys := false, apart := false }
def FnComposedSaid : Prop := fnComposedRow.holds Try.pinned (OpenSpec.ofChange fnComposedSpec)

/-- ITS FALSE NEIGHBOUR: 'it returns false'. Refute it at one input. -/
def fnComposedWrong : ChangeSpec := { name := "fnComposed", fn := fun _ => fun
  | [d] => { results := [.lit (.bool false)], args := [d] }
  | _ => none }
def FnComposedWrongFalsely : Prop := fnComposedRow.holds Try.pinned (OpenSpec.ofChange fnComposedWrong)

/-- 'laws.FnExactForestDist': WHATEVER THE INPUT: true; the input reads as it did. -/
def fnExactForestDistSpec : ChangeSpec := { name := "fnExactForestDist", fn := fun _ => fun
  | [d1, d2, d3, d4, d5, d6, d7] => { results := [.lit (.bool true)], args := [d1, d2, d3, d4, d5, d6, d7] }
  | _ => none }
def fnExactForestDistRow : OpenClaim := { program := "ytlndaflhlkbedaa", sum := "9ce470cc892975c7003d3efcbf461a181f6fe60719f844516a2e2fb85b7c1da0", func := "loop.example/g01618/laws.FnExactForestDist", spec := "fnExactForestDist", recurses := true, plainKeys := false, apart := false }
def FnExactForestDistSaid : Prop := fnExactForestDistRow.holds Try.pinned (OpenSpec.ofChange fnExactForestDistSpec)

/-- ITS FALSE NEIGHBOUR: 'it returns false'. Refute it at one input. -/
def fnExactForestDistWrong : ChangeSpec := { name := "fnExactForestDist", fn := fun _ => fun
  | [d1, d2, d3, d4, d5, d6, d7] => { results := [.lit (.bool false)], args := [d1, d2, d3, d4, d5, d6, d7] }
  | _ => none }
def FnExactForestDistWrongFalsely : Prop := fnExactForestDistRow.holds Try.pinned (OpenSpec.ofChange fnExactForestDistWrong)

/-- 'laws.FnExactSlowDist': WHATEVER THE INPUT: true; the input reads as it did. -/
def fnExactSlowDistSpec : ChangeSpec := { name := "fnExactSlowDist", fn := fun _ => fun
  | [d1, d2, d3] => { results := [.lit (.bool true)], args := [d1, d2, d3] }
  | _ => none }
def fnExactSlowDistRow : OpenClaim := { program := "ytlndaflhlkbedaa", sum := "9ce470cc892975c7003d3efcbf461a181f6fe60719f844516a2e2fb85b7c1da0", func := "loop.example/g01618/laws.FnExactSlowDist", spec := "fnExactSlowDist", recurses := true, plainKeys := false, apart := false }
def FnExactSlowDistSaid : Prop := fnExactSlowDistRow.holds Try.pinned (OpenSpec.ofChange fnExactSlowDistSpec)

/-- ITS FALSE NEIGHBOUR: 'it returns false'. Refute it at one input. -/
def fnExactSlowDistWrong : ChangeSpec := { name := "fnExactSlowDist", fn := fun _ => fun
  | [d1, d2, d3] => { results := [.lit (.bool false)], args := [d1, d2, d3] }
  | _ => none }
def FnExactSlowDistWrongFalsely : Prop := fnExactSlowDistRow.holds Try.pinned (OpenSpec.ofChange fnExactSlowDistWrong)

/-- 'laws.FnExactComposed': WHATEVER THE INPUT: true; the input reads as it did. -/
def fnExactComposedSpec : ChangeSpec := { name := "fnExactComposed", fn := fun _ => fun
  | [d1, d2] => { results := [.lit (.bool true)], args := [d1, d2] }
  | _ => none }
def fnExactComposedRow : OpenClaim := { program := "ytlndaflhlkbedaa", sum := "9ce470cc892975c7003d3efcbf461a181f6fe60719f844516a2e2fb85b7c1da0", func := "loop.example/g01618/laws.FnExactComposed", spec := "fnExactComposed", plainKeys := false, apart := false }
def FnExactComposedSaid : Prop := fnExactComposedRow.holds Try.pinned (OpenSpec.ofChange fnExactComposedSpec)

/-- ITS FALSE NEIGHBOUR: 'it returns false'. Refute it at one input. -/
def fnExactComposedWrong : ChangeSpec := { name := "fnExactComposed", fn := fun _ => fun
  | [d1, d2] => { results := [.lit (.bool false)], args := [d1, d2] }
  | _ => none }
def FnExactComposedWrongFalsely : Prop := fnExactComposedRow.holds Try.pinned (OpenSpec.ofChange fnExactComposedWrong)

/-- 'laws.FnExactBestMap': WHATEVER THE INPUT: true; the input reads as it did. -/
def fnExactBestMapSpec : ChangeSpec := { name := "fnExactBestMap", fn := fun _ => fun
  | [d1, d2, d3] => { results := [.lit (.bool true)], args := [d1, d2, d3] }
  | _ => none }
def fnExactBestMapRow : OpenClaim := { program := "ytlndaflhlkbedaa", sum := "9ce470cc892975c7003d3efcbf461a181f6fe60719f844516a2e2fb85b7c1da0", func := "loop.example/g01618/laws.FnExactBestMap", spec := "fnExactBestMap", recurses := true, plainKeys := false, apart := false }
def FnExactBestMapSaid : Prop := fnExactBestMapRow.holds Try.pinned (OpenSpec.ofChange fnExactBestMapSpec)

/-- ITS FALSE NEIGHBOUR: 'it returns false'. Refute it at one input. -/
def fnExactBestMapWrong : ChangeSpec := { name := "fnExactBestMap", fn := fun _ => fun
  | [d1, d2, d3] => { results := [.lit (.bool false)], args := [d1, d2, d3] }
  | _ => none }
def FnExactBestMapWrongFalsely : Prop := fnExactBestMapRow.holds Try.pinned (OpenSpec.ofChange fnExactBestMapWrong)

/-- 'laws.FnExactUnmapped': WHATEVER THE INPUT: true; the input reads as it did. -/
def fnExactUnmappedSpec : ChangeSpec := { name := "fnExactUnmapped", fn := fun _ => fun
  | [d1, d2] => { results := [.lit (.bool true)], args := [d1, d2] }
  | _ => none }
def fnExactUnmappedRow : OpenClaim := { program := "ytlndaflhlkbedaa", sum := "9ce470cc892975c7003d3efcbf461a181f6fe60719f844516a2e2fb85b7c1da0", func := "loop.example/g01618/laws.FnExactUnmapped", spec := "fnExactUnmapped", plainKeys := false, apart := false }
def FnExactUnmappedSaid : Prop := fnExactUnmappedRow.holds Try.pinned (OpenSpec.ofChange fnExactUnmappedSpec)

/-- ITS FALSE NEIGHBOUR: 'it returns false'. Refute it at one input. -/
def fnExactUnmappedWrong : ChangeSpec := { name := "fnExactUnmapped", fn := fun _ => fun
  | [d1, d2] => { results := [.lit (.bool false)], args := [d1, d2] }
  | _ => none }
def FnExactUnmappedWrongFalsely : Prop := fnExactUnmappedRow.holds Try.pinned (OpenSpec.ofChange fnExactUnmappedWrong)

/-- 'laws.FnExactMissing': WHATEVER THE INPUT: true; the input reads as it did. -/
def fnExactMissingSpec : ChangeSpec := { name := "fnExactMissing", fn := fun _ => fun
  | [d1, d2] => { results := [.lit (.bool true)], args := [d1, d2] }
  | _ => none }
def fnExactMissingRow : OpenClaim := { program := "ytlndaflhlkbedaa", sum := "9ce470cc892975c7003d3efcbf461a181f6fe60719f844516a2e2fb85b7c1da0", func := "loop.example/g01618/laws.FnExactMissing", spec := "fnExactMissing", plainKeys := false, apart := false }
def FnExactMissingSaid : Prop := fnExactMissingRow.holds Try.pinned (OpenSpec.ofChange fnExactMissingSpec)

/-- ITS FALSE NEIGHBOUR: 'it returns false'. Refute it at one input. -/
def fnExactMissingWrong : ChangeSpec := { name := "fnExactMissing", fn := fun _ => fun
  | [d1, d2] => { results := [.lit (.bool false)], args := [d1, d2] }
  | _ => none }
def FnExactMissingWrongFalsely : Prop := fnExactMissingRow.holds Try.pinned (OpenSpec.ofChange fnExactMissingWrong)

/- THE SECOND FORM. 'bulk': how many values and letters a reading holds, each counted each time it is reached (what is shared counts as often as it is met; a slice's spare places count too). A statement '..UptoSaid' is the law's where the arguments, and the package variables that the reading takes, are together of bulk at most 1048576: NARROWER than '..Said'. Prove '..Said' where nothing that the law and all that it calls make is longer than what came in: it says more and counts as full. Else prove '..UptoSaid'. A law counts once. -/
mutual
def uptoBulk {H : Type} : DataW H → Nat
  | .lit (.string bytes) => bytes.length + 1
  | .lit _ => 1
  | .nil => 1
  | .ptr d => uptoBulk d + 1
  | .slice elems spare => uptoBulkAll elems + uptoBulkAll spare + 1
  | .agg parts => uptoBulkAll parts + 1
  | .iface _ d => uptoBulk d + 1
  | .map entries => uptoBulkEntries entries + 1
  | .held _ => 1
def uptoBulkAll {H : Type} : List (DataW H) → Nat
  | [] => 0
  | d :: r => uptoBulk d + uptoBulkAll r
def uptoBulkEntries {H : Type} : List (Lit × DataW H) → Nat
  | [] => 0
  | x :: r => uptoBulkEntry x + uptoBulkEntries r
def uptoBulkEntry {H : Type} : Lit × DataW H → Nat
  | (.string bytes, d) => bytes.length + uptoBulk d + 1
  | (_, d) => uptoBulk d + 1
 end
def uptoSmall : (H : Type) → List (DataW H) → Bool := fun _ ds => decide (uptoBulkAll ds ≤ 1048576)
def OpenSpec.upto (s : _root_.Go.ChangeSpec) : _root_.Go.OpenSpec := { _root_.Go.OpenSpec.ofChange s with cond := some uptoSmall }

/-- 'laws.FnSlow', WHERE WHAT IT READS IS OF BULK AT MOST 1048576: true; the input reads as it did. -/
def fnSlowUptoRow : OpenClaim := { program := "ytlndaflhlkbedaa", sum := "9ce470cc892975c7003d3efcbf461a181f6fe60719f844516a2e2fb85b7c1da0", func := "loop.example/g01618/laws.FnSlow", spec := "fnSlow", recurses := true, plainKeys := false, apart := false, narrowed := true }
def FnSlowUptoSaid : Prop := fnSlowUptoRow.holds Try.pinned (OpenSpec.upto fnSlowSpec)

/-- 'laws.FnDists', WHERE WHAT IT READS IS OF BULK AT MOST 1048576: true; the input reads as it did. -/
def fnDistsUptoRow : OpenClaim := { program := "ytlndaflhlkbedaa", sum := "9ce470cc892975c7003d3efcbf461a181f6fe60719f844516a2e2fb85b7c1da0", func := "loop.example/g01618/laws.FnDists", spec := "fnDists", recurses := true, plainKeys := false, apart := false, narrowed := true }
def FnDistsUptoSaid : Prop := fnDistsUptoRow.holds Try.pinned (OpenSpec.upto fnDistsSpec)

/-- 'laws.FnForests', WHERE WHAT IT READS IS OF BULK AT MOST 1048576: true; the input reads as it did. -/
def fnForestsUptoRow : OpenClaim := { program := "ytlndaflhlkbedaa", sum := "9ce470cc892975c7003d3efcbf461a181f6fe60719f844516a2e2fb85b7c1da0", func := "loop.example/g01618/laws.FnForests", spec := "fnForests", recurses := true, plainKeys := false, apart := false, narrowed := true }
def FnForestsUptoSaid : Prop := fnForestsUptoRow.holds Try.pinned (OpenSpec.upto fnForestsSpec)

/-- 'laws.FnBest', WHERE WHAT IT READS IS OF BULK AT MOST 1048576: true; the input reads as it did. -/
def fnBestUptoRow : OpenClaim := { program := "ytlndaflhlkbedaa", sum := "9ce470cc892975c7003d3efcbf461a181f6fe60719f844516a2e2fb85b7c1da0", func := "loop.example/g01618/laws.FnBest", spec := "fnBest", recurses := true, plainKeys := false, apart := false, narrowed := true }
def FnBestUptoSaid : Prop := fnBestUptoRow.holds Try.pinned (OpenSpec.upto fnBestSpec)

/-- 'laws.FnComposed', WHERE WHAT IT READS IS OF BULK AT MOST 1048576: true; the input reads as it did. -/
def fnComposedUptoRow : OpenClaim := { program := "ytlndaflhlkbedaa", sum := "9ce470cc892975c7003d3efcbf461a181f6fe60719f844516a2e2fb85b7c1da0", func := "loop.example/g01618/laws.FnComposed", spec := "fnComposed", recurses := true, plainKeys := false, apart := false, narrowed := true }
def FnComposedUptoSaid : Prop := fnComposedUptoRow.holds Try.pinned (OpenSpec.upto fnComposedSpec)

/-- 'laws.FnExactForestDist', WHERE WHAT IT READS IS OF BULK AT MOST 1048576: true; the input reads as it did. -/
def fnExactForestDistUptoRow : OpenClaim := { program := "ytlndaflhlkbedaa", sum := "9ce470cc892975c7003d3efcbf461a181f6fe60719f844516a2e2fb85b7c1da0", func := "loop.example/g01618/laws.FnExactForestDist", spec := "fnExactForestDist", recurses := true, plainKeys := false, apart := false, narrowed := true }
def FnExactForestDistUptoSaid : Prop := fnExactForestDistUptoRow.holds Try.pinned (OpenSpec.upto fnExactForestDistSpec)

/-- 'laws.FnExactSlowDist', WHERE WHAT IT READS IS OF BULK AT MOST 1048576: true; the input reads as it did. -/
def fnExactSlowDistUptoRow : OpenClaim := { program := "ytlndaflhlkbedaa", sum := "9ce470cc892975c7003d3efcbf461a181f6fe60719f844516a2e2fb85b7c1da0", func := "loop.example/g01618/laws.FnExactSlowDist", spec := "fnExactSlowDist", recurses := true, plainKeys := false, apart := false, narrowed := true }
def FnExactSlowDistUptoSaid : Prop := fnExactSlowDistUptoRow.holds Try.pinned (OpenSpec.upto fnExactSlowDistSpec)

/-- 'laws.FnExactComposed', WHERE WHAT IT READS IS OF BULK AT MOST 1048576: true; the input reads as it did. -/
def fnExactComposedUptoRow : OpenClaim := { program := "ytlndaflhlkbedaa", sum := "9ce470cc892975c7003d3efcbf461a181f6fe60719f844516a2e2fb85b7c1da0", func := "loop.example/g01618/laws.FnExactComposed", spec := "fnExactComposed", plainKeys := false, apart := false, narrowed := true }
def FnExactComposedUptoSaid : Prop := fnExactComposedUptoRow.holds Try.pinned (OpenSpec.upto fnExactComposedSpec)

/-- 'laws.FnExactBestMap', WHERE WHAT IT READS IS OF BULK AT MOST 1048576: true; the input reads as it did. -/
def fnExactBestMapUptoRow : OpenClaim := { program := "ytlndaflhlkbedaa", sum := "9ce470cc892975c7003d3efcbf461a181f6fe60719f844516a2e2fb85b7c1da0", func := "loop.example/g01618/laws.FnExactBestMap", spec := "fnExactBestMap", recurses := true, plainKeys := false, apart := false, narrowed := true }
def FnExactBestMapUptoSaid : Prop := fnExactBestMapUptoRow.holds Try.pinned (OpenSpec.upto fnExactBestMapSpec)

/-- 'laws.FnExactUnmapped', WHERE WHAT IT READS IS OF BULK AT MOST 1048576: true; the input reads as it did. -/
def fnExactUnmappedUptoRow : OpenClaim := { program := "ytlndaflhlkbedaa", sum := "9ce470cc892975c7003d3efcbf461a181f6fe60719f844516a2e2fb85b7c1da0", func := "loop.example/g01618/laws.FnExactUnmapped", spec := "fnExactUnmapped", plainKeys := false, apart := false, narrowed := true }
def FnExactUnmappedUptoSaid : Prop := fnExactUnmappedUptoRow.holds Try.pinned (OpenSpec.upto fnExactUnmappedSpec)

/-- 'laws.FnExactMissing', WHERE WHAT IT READS IS OF BULK AT MOST 1048576: true; the input reads as it did. -/
def fnExactMissingUptoRow : OpenClaim := { program := "ytlndaflhlkbedaa", sum := "9ce470cc892975c7003d3efcbf461a181f6fe60719f844516a2e2fb85b7c1da0", func := "loop.example/g01618/laws.FnExactMissing", spec := "fnExactMissing", plainKeys := false, apart := false, narrowed := true }
def FnExactMissingUptoSaid : Prop := fnExactMissingUptoRow.holds Try.pinned (OpenSpec.upto fnExactMissingSpec)

end Rows
end Go.Proofs.Ytlndaflhlkbedaa
