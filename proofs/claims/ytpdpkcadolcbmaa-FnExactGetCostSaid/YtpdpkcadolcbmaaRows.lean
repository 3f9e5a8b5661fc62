/-
  No cell of these rows narrows 'for every input' (looked for: loops, veiled, ifaces, maps, wideKeys, modest, calm, conditions, laid).
  DERIVED. THE GIVEN ROWS OF THIS SEAT. 9 by the template 'for every input the law returns true; each argument reads behind the call as it read before'; 0 by the template 'total and deterministic' (their statements: YtpdpkcadolcbmaaTotals.lean).
  GIVEN WITH THE SEED: the statements are not yours to turn. If you find one false, say at which input.
  Laid BY PROGRAM, IN A SANDBOX (cutbox-rows.mjs): the forced cells as the released guide's own fill.sh prints them over the translation 72e7fcf863f92f98… (all of the seat's roots in one cut). By AI agents, Wed Nov 11 2026. No macro, syntax, notation, axiom, sorry.
-/
import Derived.Test.YtpdpkcadolcbmaaChecked
import GoSem.Claim
import GoSem.ClaimJoined
import GoSem.ClaimMapViews
import Derived.JoinedTies
import Derived.KernelRfl
namespace Go.Proofs.Ytpdpkcadolcbmaa
/- THE CELL 'sum', in the pinned program and in every row, IS THE sha256 OF THE DUMP (.gsa) THAT YtpdpkcadolcbmaaProg.lean LOADS. Nothing in Lean hashes anything: it is a label: what it is worth is what the hold of that sum in a sandbox is worth. -/
noncomputable def Try.pinned : Pinned := { name := "ytpdpkcadolcbmaa", sum := "72e7fcf863f92f984d7b31782b6d175af93d8590a31abda1c70b5bfd5f53df42", checked := Try.checked }
namespace Rows
def none {H : Type} : Left H := { results := [], args := [] }

/-- 'laws.FnCosts': WHATEVER THE INPUT: true; the input reads as it did. -/
def fnCostsSpec : ChangeSpec := { name := "fnCosts", fn := fun _ => fun
  | [d] => { results := [.lit (.bool true)], args := [d] }
  | _ => none }
def fnCostsRow : OpenClaim := { program := "ytpdpkcadolcbmaa", sum := "72e7fcf863f92f984d7b31782b6d175af93d8590a31abda1c70b5bfd5f53df42", func := "loop.example/g01618/laws.FnCosts", spec := "fnCosts", apart := false }
def FnCostsSaid : Prop := fnCostsRow.holds Try.pinned (OpenSpec.ofChange fnCostsSpec)

/-- ITS FALSE NEIGHBOUR: 'it returns false'. Refute it at one input. -/
def fnCostsWrong : ChangeSpec := { name := "fnCosts", fn := fun _ => fun
  | [d] => { results := [.lit (.bool false)], args := [d] }
  | _ => none }
def FnCostsWrongFalsely : Prop := fnCostsRow.holds Try.pinned (OpenSpec.ofChange fnCostsWrong)

/-- 'laws.FnExactCostOk': WHATEVER THE INPUT: true; the input reads as it did. -/
def fnExactCostOkSpec : ChangeSpec := { name := "fnExactCostOk", fn := fun _ => fun
  | [d] => { results := [.lit (.bool true)], args := [d] }
  | _ => none }
def fnExactCostOkRow : OpenClaim := { program := "ytpdpkcadolcbmaa", sum := "72e7fcf863f92f984d7b31782b6d175af93d8590a31abda1c70b5bfd5f53df42", func := "loop.example/g01618/laws.FnExactCostOk", spec := "fnExactCostOk", apart := false }
def FnExactCostOkSaid : Prop := fnExactCostOkRow.holds Try.pinned (OpenSpec.ofChange fnExactCostOkSpec)

/-- ITS FALSE NEIGHBOUR: 'it returns false'. Refute it at one input. -/
def fnExactCostOkWrong : ChangeSpec := { name := "fnExactCostOk", fn := fun _ => fun
  | [d] => { results := [.lit (.bool false)], args := [d] }
  | _ => none }
def FnExactCostOkWrongFalsely : Prop := fnExactCostOkRow.holds Try.pinned (OpenSpec.ofChange fnExactCostOkWrong)

/-- 'laws.FnExactDelCost': WHATEVER THE INPUT: true; the input reads as it did. -/
def fnExactDelCostSpec : ChangeSpec := { name := "fnExactDelCost", fn := fun _ => fun
  | [d1, d2] => { results := [.lit (.bool true)], args := [d1, d2] }
  | _ => none }
def fnExactDelCostRow : OpenClaim := { program := "ytpdpkcadolcbmaa", sum := "72e7fcf863f92f984d7b31782b6d175af93d8590a31abda1c70b5bfd5f53df42", func := "loop.example/g01618/laws.FnExactDelCost", spec := "fnExactDelCost", apart := false }
def FnExactDelCostSaid : Prop := fnExactDelCostRow.holds Try.pinned (OpenSpec.ofChange fnExactDelCostSpec)

/-- ITS FALSE NEIGHBOUR: 'it returns false'. Refute it at one input. -/
def fnExactDelCostWrong : ChangeSpec := { name := "fnExactDelCost", fn := fun _ => fun
  | [d1, d2] => { results := [.lit (.bool false)], args := [d1, d2] }
  | _ => none }
def FnExactDelCostWrongFalsely : Prop := fnExactDelCostRow.holds Try.pinned (OpenSpec.ofChange fnExactDelCostWrong)

/-- 'laws.FnExactInsCost': WHATEVER THE INPUT: true; the input reads as it did. -/
def fnExactInsCostSpec : ChangeSpec := { name := "fnExactInsCost", fn := fun _ => fun
  | [d1, d2] => { results := [.lit (.bool true)], args := [d1, d2] }
  | _ => none }
def fnExactInsCostRow : OpenClaim := { program := "ytpdpkcadolcbmaa", sum := "72e7fcf863f92f984d7b31782b6d175af93d8590a31abda1c70b5bfd5f53df42", func := "loop.example/g01618/laws.FnExactInsCost", spec := "fnExactInsCost", apart := false }
def FnExactInsCostSaid : Prop := fnExactInsCostRow.holds Try.pinned (OpenSpec.ofChange fnExactInsCostSpec)

/-- ITS FALSE NEIGHBOUR: 'it returns false'. Refute it at one input. -/
def fnExactInsCostWrong : ChangeSpec := { name := "fnExactInsCost", fn := fun _ => fun
  | [d1, d2] => { results := [.lit (.bool false)], args := [d1, d2] }
  | _ => none }
def FnExactInsCostWrongFalsely : Prop := fnExactInsCostRow.holds Try.pinned (OpenSpec.ofChange fnExactInsCostWrong)

/-- 'laws.FnExactRelCost': WHATEVER THE INPUT: true; the input reads as it did. -/
def fnExactRelCostSpec : ChangeSpec := { name := "fnExactRelCost", fn := fun _ => fun
  | [d1, d2, d3] => { results := [.lit (.bool true)], args := [d1, d2, d3] }
  | _ => none }
def fnExactRelCostRow : OpenClaim := { program := "ytpdpkcadolcbmaa", sum := "72e7fcf863f92f984d7b31782b6d175af93d8590a31abda1c70b5bfd5f53df42", func := "loop.example/g01618/laws.FnExactRelCost", spec := "fnExactRelCost", apart := false }
def FnExactRelCostSaid : Prop := fnExactRelCostRow.holds Try.pinned (OpenSpec.ofChange fnExactRelCostSpec)

/-- ITS FALSE NEIGHBOUR: 'it returns false'. Refute it at one input. -/
def fnExactRelCostWrong : ChangeSpec := { name := "fnExactRelCost", fn := fun _ => fun
  | [d1, d2, d3] => { results := [.lit (.bool false)], args := [d1, d2, d3] }
  | _ => none }
def FnExactRelCostWrongFalsely : Prop := fnExactRelCostRow.holds Try.pinned (OpenSpec.ofChange fnExactRelCostWrong)

/-- 'laws.FnExactUnitCost': WHATEVER THE INPUT: true; the input reads as it did. -/
def fnExactUnitCostSpec : ChangeSpec := { name := "fnExactUnitCost", fn := fun _ => fun
  | [] => { results := [.lit (.bool true)], args := [] }
  | _ => none }
def fnExactUnitCostRow : OpenClaim := { program := "ytpdpkcadolcbmaa", sum := "72e7fcf863f92f984d7b31782b6d175af93d8590a31abda1c70b5bfd5f53df42", func := "loop.example/g01618/laws.FnExactUnitCost", spec := "fnExactUnitCost", apart := false }
def FnExactUnitCostSaid : Prop := fnExactUnitCostRow.holds Try.pinned (OpenSpec.ofChange fnExactUnitCostSpec)

/-- ITS FALSE NEIGHBOUR: 'it returns false'. Refute it at one input. -/
def fnExactUnitCostWrong : ChangeSpec := { name := "fnExactUnitCost", fn := fun _ => fun
  | [] => { results := [.lit (.bool false)], args := [] }
  | _ => none }
def FnExactUnitCostWrongFalsely : Prop := fnExactUnitCostRow.holds Try.pinned (OpenSpec.ofChange fnExactUnitCostWrong)

/-- 'laws.FnExactSameCost': WHATEVER THE INPUT: true; the input reads as it did. -/
def fnExactSameCostSpec : ChangeSpec := { name := "fnExactSameCost", fn := fun _ => fun
  | [d1, d2] => { results := [.lit (.bool true)], args := [d1, d2] }
  | _ => none }
def fnExactSameCostRow : OpenClaim := { program := "ytpdpkcadolcbmaa", sum := "72e7fcf863f92f984d7b31782b6d175af93d8590a31abda1c70b5bfd5f53df42", func := "loop.example/g01618/laws.FnExactSameCost", spec := "fnExactSameCost", apart := false }
def FnExactSameCostSaid : Prop := fnExactSameCostRow.holds Try.pinned (OpenSpec.ofChange fnExactSameCostSpec)

/-- ITS FALSE NEIGHBOUR: 'it returns false'. Refute it at one input. -/
def fnExactSameCostWrong : ChangeSpec := { name := "fnExactSameCost", fn := fun _ => fun
  | [d1, d2] => { results := [.lit (.bool false)], args := [d1, d2] }
  | _ => none }
def FnExactSameCostWrongFalsely : Prop := fnExactSameCostRow.holds Try.pinned (OpenSpec.ofChange fnExactSameCostWrong)

/-- 'laws.FnExactPutCost': WHATEVER THE INPUT: true; the input reads as it did. -/
def fnExactPutCostSpec : ChangeSpec := { name := "fnExactPutCost", fn := fun _ => fun
  | [d] => { results := [.lit (.bool true)], args := [d] }
  | _ => none }
def fnExactPutCostRow : OpenClaim := { program := "ytpdpkcadolcbmaa", sum := "72e7fcf863f92f984d7b31782b6d175af93d8590a31abda1c70b5bfd5f53df42", func := "loop.example/g01618/laws.FnExactPutCost", spec := "fnExactPutCost", apart := false }
def FnExactPutCostSaid : Prop := fnExactPutCostRow.holds Try.pinned (OpenSpec.ofChange fnExactPutCostSpec)

/-- ITS FALSE NEIGHBOUR: 'it returns false'. Refute it at one input. -/
def fnExactPutCostWrong : ChangeSpec := { name := "fnExactPutCost", fn := fun _ => fun
  | [d] => { results := [.lit (.bool false)], args := [d] }
  | _ => none }
def FnExactPutCostWrongFalsely : Prop := fnExactPutCostRow.holds Try.pinned (OpenSpec.ofChange fnExactPutCostWrong)

/-- 'laws.FnExactGetCost': WHATEVER THE INPUT: true; the input reads as it did. -/
def fnExactGetCostSpec : ChangeSpec := { name := "fnExactGetCost", fn := fun _ => fun
  | [d] => { results := [.lit (.bool true)], args := [d] }
  | _ => none }
def fnExactGetCostRow : OpenClaim := { program := "ytpdpkcadolcbmaa", sum := "72e7fcf863f92f984d7b31782b6d175af93d8590a31abda1c70b5bfd5f53df42", func := "loop.example/g01618/laws.FnExactGetCost", spec := "fnExactGetCost", apart := false }
def FnExactGetCostSaid : Prop := fnExactGetCostRow.holds Try.pinned (OpenSpec.ofChange fnExactGetCostSpec)

/-- ITS FALSE NEIGHBOUR: 'it returns false'. Refute it at one input. -/
def fnExactGetCostWrong : ChangeSpec := { name := "fnExactGetCost", fn := fun _ => fun
  | [d] => { results := [.lit (.bool false)], args := [d] }
  | _ => none }
def FnExactGetCostWrongFalsely : Prop := fnExactGetCostRow.holds Try.pinned (OpenSpec.ofChange fnExactGetCostWrong)

/- THE SECOND FORM. 'bulk': how many values and letters a reading holds, each counted each time it is reached (what is shared counts as often as it is met; a slice's spare places count too). A statement '..UptoSaid' is the law's where the arguments, and the package variables that the reading takes, are together of bulk at most 1048576: NARROWER than '..Said'. Prove '..Said' where nothing that the law and all that it calls make is longer than what came in: it says more and counts as full. Else prove '..UptoSaid'. A law counts once. -/
mutual
def uptoBulk {H : Type} : DataW H → Nat
  | .lit (.string bytes) => bytes.length + 1
  | .lit _ => 1
  | .nil => 1
  | .ptr d => uptoBulk d + 1
  | .slice elems spare => uptoBulkAll elems + uptoBulkAll spare + 1
  | .agg parts => uptoBulkAll parts + 1
  | .iface _ d => uptoBulk d + 1
  | .map entries => uptoBulkEntries entries + 1
  | .held _ => 1
def uptoBulkAll {H : Type} : List (DataW H) → Nat
  | [] => 0
  | d :: r => uptoBulk d + uptoBulkAll r
def uptoBulkEntries {H : Type} : List (Lit × DataW H) → Nat
  | [] => 0
  | x :: r => uptoBulkEntry x + uptoBulkEntries r
def uptoBulkEntry {H : Type} : Lit × DataW H → Nat
  | (.string bytes, d) => bytes.length + uptoBulk d + 1
  | (_, d) => uptoBulk d + 1
 end
def uptoSmall : (H : Type) → List (DataW H) → Bool := fun _ ds => decide (uptoBulkAll ds ≤ 1048576)
def OpenSpec.upto (s : _root_.Go.ChangeSpec) : _root_.Go.OpenSpec := { _root_.Go.OpenSpec.ofChange s with cond := some uptoSmall }

/-- 'laws.FnCosts', WHERE WHAT IT READS IS OF BULK AT MOST 1048576: true; the input reads as it did. -/
def fnCostsUptoRow : OpenClaim := { program := "ytpdpkcadolcbmaa", sum := "72e7fcf863f92f984d7b31782b6d175af93d8590a31abda1c70b5bfd5f53df42", func := "loop.example/g01618/laws.FnCosts", spec := "fnCosts", apart := false, narrowed := true }
def FnCostsUptoSaid : Prop := fnCostsUptoRow.holds Try.pinned (OpenSpec.upto fnCostsSpec)

/-- 'laws.FnExactCostOk', WHERE WHAT IT READS IS OF BULK AT MOST 1048576: true; the input reads as it did. -/
def fnExactCostOkUptoRow : OpenClaim := { program := "ytpdpkcadolcbmaa", sum := "72e7fcf863f92f984d7b31782b6d175af93d8590a31abda1c70b5bfd5f53df42", func := "loop.example/g01618/laws.FnExactCostOk", spec := "fnExactCostOk", apart := false, narrowed := true }
def FnExactCostOkUptoSaid : Prop := fnExactCostOkUptoRow.holds Try.pinned (OpenSpec.upto fnExactCostOkSpec)

/-- 'laws.FnExactDelCost', WHERE WHAT IT READS IS OF BULK AT MOST 1048576: true; the input reads as it did. -/
def fnExactDelCostUptoRow : OpenClaim := { program := "ytpdpkcadolcbmaa", sum := "72e7fcf863f92f984d7b31782b6d175af93d8590a31abda1c70b5bfd5f53df42", func := "loop.example/g01618/laws.FnExactDelCost", spec := "fnExactDelCost", apart := false, narrowed := true }
def FnExactDelCostUptoSaid : Prop := fnExactDelCostUptoRow.holds Try.pinned (OpenSpec.upto fnExactDelCostSpec)

/-- 'laws.FnExactInsCost', WHERE WHAT IT READS IS OF BULK AT MOST 1048576: true; the input reads as it did. -/
def fnExactInsCostUptoRow : OpenClaim := { program := "ytpdpkcadolcbmaa", sum := "72e7fcf863f92f984d7b31782b6d175af93d8590a31abda1c70b5bfd5f53df42", func := "loop.example/g01618/laws.FnExactInsCost", spec := "fnExactInsCost", apart := false, narrowed := true }
def FnExactInsCostUptoSaid : Prop := fnExactInsCostUptoRow.holds Try.pinned (OpenSpec.upto fnExactInsCostSpec)

/-- 'laws.FnExactRelCost', WHERE WHAT IT READS IS OF BULK AT MOST 1048576: true; the input reads as it did. -/
def fnExactRelCostUptoRow : OpenClaim := { program := "ytpdpkcadolcbmaa", sum := "72e7fcf863f92f984d7b31782b6d175af93d8590a31abda1c70b5bfd5f53df42", func := "loop.example/g01618/laws.FnExactRelCost", spec := "fnExactRelCost", apart := false, narrowed := true }
def FnExactRelCostUptoSaid : Prop := fnExactRelCostUptoRow.holds Try.pinned (OpenSpec.upto fnExactRelCostSpec)

/-- 'laws.FnExactUnitCost', WHERE WHAT IT READS IS OF BULK AT MOST 1048576: true; the input reads as it did. -/
def fnExactUnitCostUptoRow : OpenClaim := { program := "ytpdpkcadolcbmaa", sum := "72e7fcf863f92f984d7b31782b6d175af93d8590a31abda1c70b5bfd5f53df42", func := "loop.example/g01618/laws.FnExactUnitCost", spec := "fnExactUnitCost", apart := false, narrowed := true }
def FnExactUnitCostUptoSaid : Prop := fnExactUnitCostUptoRow.holds Try.pinned (OpenSpec.upto fnExactUnitCostSpec)

/-- 'laws.FnExactSameCost', WHERE WHAT IT READS IS OF BULK AT MOST 1048576: true; the input reads as it did. -/
def fnExactSameCostUptoRow : OpenClaim := { program := "ytpdpkcadolcbmaa", sum := "72e7fcf863f92f984d7b31782b6d175af93d8590a31abda1c70b5bfd5f53df42", func := "loop.example/g01618/laws.FnExactSameCost", spec := "fnExactSameCost", apart := false, narrowed := true }
def FnExactSameCostUptoSaid : Prop := fnExactSameCostUptoRow.holds Try.pinned (OpenSpec.upto fnExactSameCostSpec)

/-- 'laws.FnExactPutCost', WHERE WHAT IT READS IS OF BULK AT MOST 1048576: true; the input reads as it did. -/
def fnExactPutCostUptoRow : OpenClaim := { program := "ytpdpkcadolcbmaa", sum := "72e7fcf863f92f984d7b31782b6d175af93d8590a31abda1c70b5bfd5f53df42", func := "loop.example/g01618/laws.FnExactPutCost", spec := "fnExactPutCost", apart := false, narrowed := true }
def FnExactPutCostUptoSaid : Prop := fnExactPutCostUptoRow.holds Try.pinned (OpenSpec.upto fnExactPutCostSpec)

/-- 'laws.FnExactGetCost', WHERE WHAT IT READS IS OF BULK AT MOST 1048576: true; the input reads as it did. -/
def fnExactGetCostUptoRow : OpenClaim := { program := "ytpdpkcadolcbmaa", sum := "72e7fcf863f92f984d7b31782b6d175af93d8590a31abda1c70b5bfd5f53df42", func := "loop.example/g01618/laws.FnExactGetCost", spec := "fnExactGetCost", apart := false, narrowed := true }
def FnExactGetCostUptoSaid : Prop := fnExactGetCostUptoRow.holds Try.pinned (OpenSpec.upto fnExactGetCostSpec)

end Rows
end Go.Proofs.Ytpdpkcadolcbmaa
