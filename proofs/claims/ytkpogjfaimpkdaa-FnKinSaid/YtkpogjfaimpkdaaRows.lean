/-
  No cell of these rows narrows 'for every input' (looked for: loops, veiled, ifaces, maps, wideKeys, modest, calm, conditions, laid).
  DERIVED. THE GIVEN ROWS OF THIS SEAT. 10 by the template 'for every input the law returns true; each argument reads behind the call as it read before'; 0 by the template 'total and deterministic' (their statements: YtkpogjfaimpkdaaTotals.lean).
  GIVEN WITH THE SEED: the statements are not yours to turn. If you find one false, say at which input.
  Laid BY PROGRAM, IN A SANDBOX (cutbox-rows.mjs): the forced cells as the released guide's own fill.sh prints them over the translation d98fc81ff2e82738… (all of the seat's roots in one cut). By AI agents, Wed Nov 11 2026. No macro, syntax, notation, axiom, sorry.
-/
import Derived.Test.YtkpogjfaimpkdaaChecked
import GoSem.Claim
import GoSem.ClaimJoined
import GoSem.ClaimMapViews
import Derived.JoinedTies
import Derived.KernelRfl
namespace Go.Proofs.Ytkpogjfaimpkdaa
/- THE CELL 'sum', in the pinned program and in every row, IS THE sha256 OF THE DUMP (.gsa) THAT YtkpogjfaimpkdaaProg.lean LOADS. Nothing in Lean hashes anything: it is a label: what it is worth is what the hold of that sum in a sandbox is worth. -/
noncomputable def Try.pinned : Pinned := { name := "ytkpogjfaimpkdaa", sum := "d98fc81ff2e82738a88f8645699500aded61474440efc5a51db391270227ce0d", checked := Try.checked }
namespace Rows
def none {H : Type} : Left H := { results := [], args := [] }

/-- 'laws.FnKin': WHATEVER THE INPUT: true; the input reads as it did. -/
def fnKinSpec : ChangeSpec := { name := "fnKin", fn := fun _ => fun
  | [d] => { results := [.lit (.bool true)], args := [d] }
  | _ => none }
def fnKinRow : OpenClaim := { program := "ytkpogjfaimpkdaa", sum := "d98fc81ff2e82738a88f8645699500aded61474440efc5a51db391270227ce0d", func := "loop.example/g01618/laws.FnKin", spec := "fnKin", apart := false }
def FnKinSaid : Prop := fnKinRow.holds Try.pinned (OpenSpec.ofChange fnKinSpec)

/-- ITS FALSE NEIGHBOUR: 'it returns false'. Refute it at one input. -/
def fnKinWrong : ChangeSpec := { name := "fnKin", fn := fun _ => fun
  | [d] => { results := [.lit (.bool false)], args := [d] }
  | _ => none }
def FnKinWrongFalsely : Prop := fnKinRow.holds Try.pinned (OpenSpec.ofChange fnKinWrong)

/-- 'laws.FnKids': WHATEVER THE INPUT: true; the input reads as it did. -/
def fnKidsSpec : ChangeSpec := { name := "fnKids", fn := fun _ => fun
  | [d] => { results := [.lit (.bool true)], args := [d] }
  | _ => none }
def fnKidsRow : OpenClaim := { program := "ytkpogjfaimpkdaa", sum := "d98fc81ff2e82738a88f8645699500aded61474440efc5a51db391270227ce0d", func := "loop.example/g01618/laws.FnKids", spec := "fnKids", apart := false }
def FnKidsSaid : Prop := fnKidsRow.holds Try.pinned (OpenSpec.ofChange fnKidsSpec)

/-- ITS FALSE NEIGHBOUR: 'it returns false'. Refute it at one input. -/
def fnKidsWrong : ChangeSpec := { name := "fnKids", fn := fun _ => fun
  | [d] => { results := [.lit (.bool false)], args := [d] }
  | _ => none }
def FnKidsWrongFalsely : Prop := fnKidsRow.holds Try.pinned (OpenSpec.ofChange fnKidsWrong)

/-- 'laws.FnIndex': WHATEVER THE INPUT: true; the input reads as it did. -/
def fnIndexSpec : ChangeSpec := { name := "fnIndex", fn := fun _ => fun
  | [d] => { results := [.lit (.bool true)], args := [d] }
  | _ => none }
def fnIndexRow : OpenClaim := { program := "ytkpogjfaimpkdaa", sum := "d98fc81ff2e82738a88f8645699500aded61474440efc5a51db391270227ce0d", func := "loop.example/g01618/laws.FnIndex", spec := "fnIndex", apart := false }
def FnIndexSaid : Prop := fnIndexRow.holds Try.pinned (OpenSpec.ofChange fnIndexSpec)

/-- ITS FALSE NEIGHBOUR: 'it returns false'. Refute it at one input. -/
def fnIndexWrong : ChangeSpec := { name := "fnIndex", fn := fun _ => fun
  | [d] => { results := [.lit (.bool false)], args := [d] }
  | _ => none }
def FnIndexWrongFalsely : Prop := fnIndexRow.holds Try.pinned (OpenSpec.ofChange fnIndexWrong)

/-- 'laws.FnExactPostOrder': WHATEVER THE INPUT: true; the input reads as it did. -/
def fnExactPostOrderSpec : ChangeSpec := { name := "fnExactPostOrder", fn := fun _ => fun
  | [d] => { results := [.lit (.bool true)], args := [d] }
  | _ => none }
def fnExactPostOrderRow : OpenClaim := { program := "ytkpogjfaimpkdaa", sum := "d98fc81ff2e82738a88f8645699500aded61474440efc5a51db391270227ce0d", func := "loop.example/g01618/laws.FnExactPostOrder", spec := "fnExactPostOrder", recurses := true, apart := false }
def FnExactPostOrderSaid : Prop := fnExactPostOrderRow.holds Try.pinned (OpenSpec.ofChange fnExactPostOrderSpec)

/-- ITS FALSE NEIGHBOUR: 'it returns false'. Refute it at one input. -/
def fnExactPostOrderWrong : ChangeSpec := { name := "fnExactPostOrder", fn := fun _ => fun
  | [d] => { results := [.lit (.bool false)], args := [d] }
  | _ => none }
def FnExactPostOrderWrongFalsely : Prop := fnExactPostOrderRow.holds Try.pinned (OpenSpec.ofChange fnExactPostOrderWrong)

/-- 'laws.FnExactRankOf': WHATEVER THE INPUT: true; the input reads as it did. -/
def fnExactRankOfSpec : ChangeSpec := { name := "fnExactRankOf", fn := fun _ => fun
  | [d] => { results := [.lit (.bool true)], args := [d] }
  | _ => none }
def fnExactRankOfRow : OpenClaim := { program := "ytkpogjfaimpkdaa", sum := "d98fc81ff2e82738a88f8645699500aded61474440efc5a51db391270227ce0d", func := "loop.example/g01618/laws.FnExactRankOf", spec := "fnExactRankOf", recurses := true, apart := false }
def FnExactRankOfSaid : Prop := fnExactRankOfRow.holds Try.pinned (OpenSpec.ofChange fnExactRankOfSpec)

/-- ITS FALSE NEIGHBOUR: 'it returns false'. Refute it at one input. -/
def fnExactRankOfWrong : ChangeSpec := { name := "fnExactRankOf", fn := fun _ => fun
  | [d] => { results := [.lit (.bool false)], args := [d] }
  | _ => none }
def FnExactRankOfWrongFalsely : Prop := fnExactRankOfRow.holds Try.pinned (OpenSpec.ofChange fnExactRankOfWrong)

/-- 'laws.FnExactLeftLeaf': WHATEVER THE INPUT: true; the input reads as it did. -/
def fnExactLeftLeafSpec : ChangeSpec := { name := "fnExactLeftLeaf", fn := fun _ => fun
  | [d] => { results := [.lit (.bool true)], args := [d] }
  | _ => none }
def fnExactLeftLeafRow : OpenClaim := { program := "ytkpogjfaimpkdaa", sum := "d98fc81ff2e82738a88f8645699500aded61474440efc5a51db391270227ce0d", func := "loop.example/g01618/laws.FnExactLeftLeaf", spec := "fnExactLeftLeaf", recurses := true, apart := false }
def FnExactLeftLeafSaid : Prop := fnExactLeftLeafRow.holds Try.pinned (OpenSpec.ofChange fnExactLeftLeafSpec)

/-- ITS FALSE NEIGHBOUR: 'it returns false'. Refute it at one input. -/
def fnExactLeftLeafWrong : ChangeSpec := { name := "fnExactLeftLeaf", fn := fun _ => fun
  | [d] => { results := [.lit (.bool false)], args := [d] }
  | _ => none }
def FnExactLeftLeafWrongFalsely : Prop := fnExactLeftLeafRow.holds Try.pinned (OpenSpec.ofChange fnExactLeftLeafWrong)

/-- 'laws.FnExactKeyRoots': WHATEVER THE INPUT: true; the input reads as it did. -/
def fnExactKeyRootsSpec : ChangeSpec := { name := "fnExactKeyRoots", fn := fun _ => fun
  | [d] => { results := [.lit (.bool true)], args := [d] }
  | _ => none }
def fnExactKeyRootsRow : OpenClaim := { program := "ytkpogjfaimpkdaa", sum := "d98fc81ff2e82738a88f8645699500aded61474440efc5a51db391270227ce0d", func := "loop.example/g01618/laws.FnExactKeyRoots", spec := "fnExactKeyRoots", recurses := true, apart := false }
def FnExactKeyRootsSaid : Prop := fnExactKeyRootsRow.holds Try.pinned (OpenSpec.ofChange fnExactKeyRootsSpec)

/-- ITS FALSE NEIGHBOUR: 'it returns false'. Refute it at one input. -/
def fnExactKeyRootsWrong : ChangeSpec := { name := "fnExactKeyRoots", fn := fun _ => fun
  | [d] => { results := [.lit (.bool false)], args := [d] }
  | _ => none }
def FnExactKeyRootsWrongFalsely : Prop := fnExactKeyRootsRow.holds Try.pinned (OpenSpec.ofChange fnExactKeyRootsWrong)

/-- 'laws.FnExactUnder': WHATEVER THE INPUT: true; the input reads as it did. -/
def fnExactUnderSpec : ChangeSpec := { name := "fnExactUnder", fn := fun _ => fun
  | [d1, d2, d3] => { results := [.lit (.bool true)], args := [d1, d2, d3] }
  | _ => none }
def fnExactUnderRow : OpenClaim := { program := "ytkpogjfaimpkdaa", sum := "d98fc81ff2e82738a88f8645699500aded61474440efc5a51db391270227ce0d", func := "loop.example/g01618/laws.FnExactUnder", spec := "fnExactUnder", apart := false }
def FnExactUnderSaid : Prop := fnExactUnderRow.holds Try.pinned (OpenSpec.ofChange fnExactUnderSpec)

/-- ITS FALSE NEIGHBOUR: 'it returns false'. Refute it at one input. -/
def fnExactUnderWrong : ChangeSpec := { name := "fnExactUnder", fn := fun _ => fun
  | [d1, d2, d3] => { results := [.lit (.bool false)], args := [d1, d2, d3] }
  | _ => none }
def FnExactUnderWrongFalsely : Prop := fnExactUnderRow.holds Try.pinned (OpenSpec.ofChange fnExactUnderWrong)

/-- 'laws.FnExactLeftOf': WHATEVER THE INPUT: true; the input reads as it did. -/
def fnExactLeftOfSpec : ChangeSpec := { name := "fnExactLeftOf", fn := fun _ => fun
  | [d1, d2, d3] => { results := [.lit (.bool true)], args := [d1, d2, d3] }
  | _ => none }
def fnExactLeftOfRow : OpenClaim := { program := "ytkpogjfaimpkdaa", sum := "d98fc81ff2e82738a88f8645699500aded61474440efc5a51db391270227ce0d", func := "loop.example/g01618/laws.FnExactLeftOf", spec := "fnExactLeftOf", apart := false }
def FnExactLeftOfSaid : Prop := fnExactLeftOfRow.holds Try.pinned (OpenSpec.ofChange fnExactLeftOfSpec)

/-- ITS FALSE NEIGHBOUR: 'it returns false'. Refute it at one input. -/
def fnExactLeftOfWrong : ChangeSpec := { name := "fnExactLeftOf", fn := fun _ => fun
  | [d1, d2, d3] => { results := [.lit (.bool false)], args := [d1, d2, d3] }
  | _ => none }
def FnExactLeftOfWrongFalsely : Prop := fnExactLeftOfRow.holds Try.pinned (OpenSpec.ofChange fnExactLeftOfWrong)

/-- 'laws.FnExactKidRank': WHATEVER THE INPUT: true; the input reads as it did. -/
def fnExactKidRankSpec : ChangeSpec := { name := "fnExactKidRank", fn := fun _ => fun
  | [d1, d2] => { results := [.lit (.bool true)], args := [d1, d2] }
  | _ => none }
def fnExactKidRankRow : OpenClaim := { program := "ytkpogjfaimpkdaa", sum := "d98fc81ff2e82738a88f8645699500aded61474440efc5a51db391270227ce0d", func := "loop.example/g01618/laws.FnExactKidRank", spec := "fnExactKidRank", apart := false }
def FnExactKidRankSaid : Prop := fnExactKidRankRow.holds Try.pinned (OpenSpec.ofChange fnExactKidRankSpec)

/-- ITS FALSE NEIGHBOUR: 'it returns false'. Refute it at one input. -/
def fnExactKidRankWrong : ChangeSpec := { name := "fnExactKidRank", fn := fun _ => fun
  | [d1, d2] => { results := [.lit (.bool false)], args := [d1, d2] }
  | _ => none }
def FnExactKidRankWrongFalsely : Prop := fnExactKidRankRow.holds Try.pinned (OpenSpec.ofChange fnExactKidRankWrong)

/- THE SECOND FORM. 'bulk': how many values and letters a reading holds, each counted each time it is reached (what is shared counts as often as it is met; a slice's spare places count too). A statement '..UptoSaid' is the law's where the arguments, and the package variables that the reading takes, are together of bulk at most 1048576: NARROWER than '..Said'. Prove '..Said' where nothing that the law and all that it calls make is longer than what came in: it says more and counts as full. Else prove '..UptoSaid'. A law counts once. -/
mutual
def uptoBulk {H : Type} : DataW H → Nat
  | .lit (.string bytes) => bytes.length + 1
  | .lit _ => 1
  | .nil => 1
  | .ptr d => uptoBulk d + 1
  | .slice elems spare => uptoBulkAll elems + uptoBulkAll spare + 1
  | .agg parts => uptoBulkAll parts + 1
  | .iface _ d => uptoBulk d + 1
  | .map entries => uptoBulkEntries entries + 1
  | .held _ => 1
def uptoBulkAll {H : Type} : List (DataW H) → Nat
  | [] => 0
  | d :: r => uptoBulk d + uptoBulkAll r
def uptoBulkEntries {H : Type} : List (Lit × DataW H) → Nat
  | [] => 0
  | x :: r => uptoBulkEntry x + uptoBulkEntries r
def uptoBulkEntry {H : Type} : Lit × DataW H → Nat
  | (.string bytes, d) => bytes.length + uptoBulk d + 1
  | (_, d) => uptoBulk d + 1
 end
def uptoSmall : (H : Type) → List (DataW H) → Bool := fun _ ds => decide (uptoBulkAll ds ≤ 1048576)
def OpenSpec.upto (s : _root_.Go.ChangeSpec) : _root_.Go.OpenSpec := { _root_.Go.OpenSpec.ofChange s with cond := some uptoSmall }

/-- 'laws.FnKin', WHERE WHAT IT READS IS OF BULK AT MOST 1048576: true; the input reads as it did. -/
def fnKinUptoRow : OpenClaim := { program := "ytkpogjfaimpkdaa", sum := "d98fc81ff2e82738a88f8645699500aded61474440efc5a51db391270227ce0d", func := "loop.example/g01618/laws.FnKin", spec := "fnKin", apart := false, narrowed := true }
def FnKinUptoSaid : Prop := fnKinUptoRow.holds Try.pinned (OpenSpec.upto fnKinSpec)

/-- 'laws.FnKids', WHERE WHAT IT READS IS OF BULK AT MOST 1048576: true; the input reads as it did. -/
def fnKidsUptoRow : OpenClaim := { program := "ytkpogjfaimpkdaa", sum := "d98fc81ff2e82738a88f8645699500aded61474440efc5a51db391270227ce0d", func := "loop.example/g01618/laws.FnKids", spec := "fnKids", apart := false, narrowed := true }
def FnKidsUptoSaid : Prop := fnKidsUptoRow.holds Try.pinned (OpenSpec.upto fnKidsSpec)

/-- 'laws.FnIndex', WHERE WHAT IT READS IS OF BULK AT MOST 1048576: true; the input reads as it did. -/
def fnIndexUptoRow : OpenClaim := { program := "ytkpogjfaimpkdaa", sum := "d98fc81ff2e82738a88f8645699500aded61474440efc5a51db391270227ce0d", func := "loop.example/g01618/laws.FnIndex", spec := "fnIndex", apart := false, narrowed := true }
def FnIndexUptoSaid : Prop := fnIndexUptoRow.holds Try.pinned (OpenSpec.upto fnIndexSpec)

/-- 'laws.FnExactPostOrder', WHERE WHAT IT READS IS OF BULK AT MOST 1048576: true; the input reads as it did. -/
def fnExactPostOrderUptoRow : OpenClaim := { program := "ytkpogjfaimpkdaa", sum := "d98fc81ff2e82738a88f8645699500aded61474440efc5a51db391270227ce0d", func := "loop.example/g01618/laws.FnExactPostOrder", spec := "fnExactPostOrder", recurses := true, apart := false, narrowed := true }
def FnExactPostOrderUptoSaid : Prop := fnExactPostOrderUptoRow.holds Try.pinned (OpenSpec.upto fnExactPostOrderSpec)

/-- 'laws.FnExactRankOf', WHERE WHAT IT READS IS OF BULK AT MOST 1048576: true; the input reads as it did. -/
def fnExactRankOfUptoRow : OpenClaim := { program := "ytkpogjfaimpkdaa", sum := "d98fc81ff2e82738a88f8645699500aded61474440efc5a51db391270227ce0d", func := "loop.example/g01618/laws.FnExactRankOf", spec := "fnExactRankOf", recurses := true, apart := false, narrowed := true }
def FnExactRankOfUptoSaid : Prop := fnExactRankOfUptoRow.holds Try.pinned (OpenSpec.upto fnExactRankOfSpec)

/-- 'laws.FnExactLeftLeaf', WHERE WHAT IT READS IS OF BULK AT MOST 1048576: true; the input reads as it did. -/
def fnExactLeftLeafUptoRow : OpenClaim := { program := "ytkpogjfaimpkdaa", sum := "d98fc81ff2e82738a88f8645699500aded61474440efc5a51db391270227ce0d", func := "loop.example/g01618/laws.FnExactLeftLeaf", spec := "fnExactLeftLeaf", recurses := true, apart := false, narrowed := true }
def FnExactLeftLeafUptoSaid : Prop := fnExactLeftLeafUptoRow.holds Try.pinned (OpenSpec.upto fnExactLeftLeafSpec)

/-- 'laws.FnExactKeyRoots', WHERE WHAT IT READS IS OF BULK AT MOST 1048576: true; the input reads as it did. -/
def fnExactKeyRootsUptoRow : OpenClaim := { program := "ytkpogjfaimpkdaa", sum := "d98fc81ff2e82738a88f8645699500aded61474440efc5a51db391270227ce0d", func := "loop.example/g01618/laws.FnExactKeyRoots", spec := "fnExactKeyRoots", recurses := true, apart := false, narrowed := true }
def FnExactKeyRootsUptoSaid : Prop := fnExactKeyRootsUptoRow.holds Try.pinned (OpenSpec.upto fnExactKeyRootsSpec)

/-- 'laws.FnExactUnder', WHERE WHAT IT READS IS OF BULK AT MOST 1048576: true; the input reads as it did. -/
def fnExactUnderUptoRow : OpenClaim := { program := "ytkpogjfaimpkdaa", sum := "d98fc81ff2e82738a88f8645699500aded61474440efc5a51db391270227ce0d", func := "loop.example/g01618/laws.FnExactUnder", spec := "fnExactUnder", apart := false, narrowed := true }
def FnExactUnderUptoSaid : Prop := fnExactUnderUptoRow.holds Try.pinned (OpenSpec.upto fnExactUnderSpec)

/-- 'laws.FnExactLeftOf', WHERE WHAT IT READS IS OF BULK AT MOST 1048576: true; the input reads as it did. -/
def fnExactLeftOfUptoRow : OpenClaim := { program := "ytkpogjfaimpkdaa", sum := "d98fc81ff2e82738a88f8645699500aded61474440efc5a51db391270227ce0d", func := "loop.example/g01618/laws.FnExactLeftOf", spec := "fnExactLeftOf", apart := false, narrowed := true }
def FnExactLeftOfUptoSaid : Prop := fnExactLeftOfUptoRow.holds Try.pinned (OpenSpec.upto fnExactLeftOfSpec)

/-- 'laws.FnExactKidRank', WHERE WHAT IT READS IS OF BULK AT MOST 1048576: true; the input reads as it did. -/
def fnExactKidRankUptoRow : OpenClaim := { program := "ytkpogjfaimpkdaa", sum := "d98fc81ff2e82738a88f8645699500aded61474440efc5a51db391270227ce0d", func := "loop.example/g01618/laws.FnExactKidRank", spec := "fnExactKidRank", apart := false, narrowed := true }
def FnExactKidRankUptoSaid : Prop := fnExactKidRankUptoRow.holds Try.pinned (OpenSpec.upto fnExactKidRankSpec)

end Rows
end Go.Proofs.Ytkpogjfaimpkdaa
