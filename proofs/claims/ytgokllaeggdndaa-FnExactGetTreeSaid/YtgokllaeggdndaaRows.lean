/-
  No cell of these rows narrows 'for every input' (looked for: loops, veiled, ifaces, maps, wideKeys, modest, calm, conditions, laid).
  DERIVED. THE GIVEN ROWS OF THIS SEAT. 9 by the template 'for every input the law returns true; each argument reads behind the call as it read before'; 0 by the template 'total and deterministic' (their statements: YtgokllaeggdndaaTotals.lean).
  GIVEN WITH THE SEED: the statements are not yours to turn. If you find one false, say at which input.
  Laid BY PROGRAM, IN A SANDBOX (cutbox-rows.mjs): the forced cells as the released guide's own fill.sh prints them over the translation c81ffd63a6e1a4bf… (all of the seat's roots in one cut). By AI agents, Wed Nov 11 2026. No macro, syntax, notation, axiom, sorry.
-/
import Derived.Test.YtgokllaeggdndaaChecked
import GoSem.Claim
import GoSem.ClaimJoined
import GoSem.ClaimMapViews
import Derived.JoinedTies
import Derived.KernelRfl
namespace Go.Proofs.Ytgokllaeggdndaa
/- THE CELL 'sum', in the pinned program and in every row, IS THE sha256 OF THE DUMP (.gsa) THAT YtgokllaeggdndaaProg.lean LOADS. Nothing in Lean hashes anything: it is a label: what it is worth is what the hold of that sum in a sandbox is worth. -/
noncomputable def Try.pinned : Pinned := { name := "ytgokllaeggdndaa", sum := "c81ffd63a6e1a4bfbacd7236328ca8ef8a3029a2597cfd4809eb89e77fafce90", checked := Try.checked }
namespace Rows
def none {H : Type} : Left H := { results := [], args := [] }

/-- 'laws.FnExactTreeOk': WHATEVER THE INPUT: true; the input reads as it did. -/
def fnExactTreeOkSpec : ChangeSpec := { name := "fnExactTreeOk", fn := fun _ => fun
  | [d] => { results := [.lit (.bool true)], args := [d] }
  | _ => none }
def fnExactTreeOkRow : OpenClaim := { program := "ytgokllaeggdndaa", sum := "c81ffd63a6e1a4bfbacd7236328ca8ef8a3029a2597cfd4809eb89e77fafce90", func := "loop.example/g01618/laws.FnExactTreeOk", spec := "fnExactTreeOk", apart := false }
def FnExactTreeOkSaid : Prop := fnExactTreeOkRow.holds Try.pinned (OpenSpec.ofChange fnExactTreeOkSpec)

/-- ITS FALSE NEIGHBOUR: 'it returns false'. Refute it at one input. -/
def fnExactTreeOkWrong : ChangeSpec := { name := "fnExactTreeOk", fn := fun _ => fun
  | [d] => { results := [.lit (.bool false)], args := [d] }
  | _ => none }
def FnExactTreeOkWrongFalsely : Prop := fnExactTreeOkRow.holds Try.pinned (OpenSpec.ofChange fnExactTreeOkWrong)

/-- 'laws.FnExactEndOf': WHATEVER THE INPUT: true; the input reads as it did. -/
def fnExactEndOfSpec : ChangeSpec := { name := "fnExactEndOf", fn := fun _ => fun
  | [d1, d2] => { results := [.lit (.bool true)], args := [d1, d2] }
  | _ => none }
def fnExactEndOfRow : OpenClaim := { program := "ytgokllaeggdndaa", sum := "c81ffd63a6e1a4bfbacd7236328ca8ef8a3029a2597cfd4809eb89e77fafce90", func := "loop.example/g01618/laws.FnExactEndOf", spec := "fnExactEndOf", apart := false }
def FnExactEndOfSaid : Prop := fnExactEndOfRow.holds Try.pinned (OpenSpec.ofChange fnExactEndOfSpec)

/-- ITS FALSE NEIGHBOUR: 'it returns false'. Refute it at one input. -/
def fnExactEndOfWrong : ChangeSpec := { name := "fnExactEndOf", fn := fun _ => fun
  | [d1, d2] => { results := [.lit (.bool false)], args := [d1, d2] }
  | _ => none }
def FnExactEndOfWrongFalsely : Prop := fnExactEndOfRow.holds Try.pinned (OpenSpec.ofChange fnExactEndOfWrong)

/-- 'laws.FnExactSubTree': WHATEVER THE INPUT: true; the input reads as it did. -/
def fnExactSubTreeSpec : ChangeSpec := { name := "fnExactSubTree", fn := fun _ => fun
  | [d1, d2] => { results := [.lit (.bool true)], args := [d1, d2] }
  | _ => none }
def fnExactSubTreeRow : OpenClaim := { program := "ytgokllaeggdndaa", sum := "c81ffd63a6e1a4bfbacd7236328ca8ef8a3029a2597cfd4809eb89e77fafce90", func := "loop.example/g01618/laws.FnExactSubTree", spec := "fnExactSubTree", apart := false }
def FnExactSubTreeSaid : Prop := fnExactSubTreeRow.holds Try.pinned (OpenSpec.ofChange fnExactSubTreeSpec)

/-- ITS FALSE NEIGHBOUR: 'it returns false'. Refute it at one input. -/
def fnExactSubTreeWrong : ChangeSpec := { name := "fnExactSubTree", fn := fun _ => fun
  | [d1, d2] => { results := [.lit (.bool false)], args := [d1, d2] }
  | _ => none }
def FnExactSubTreeWrongFalsely : Prop := fnExactSubTreeRow.holds Try.pinned (OpenSpec.ofChange fnExactSubTreeWrong)

/-- 'laws.FnExactParentOf': WHATEVER THE INPUT: true; the input reads as it did. -/
def fnExactParentOfSpec : ChangeSpec := { name := "fnExactParentOf", fn := fun _ => fun
  | [d1, d2] => { results := [.lit (.bool true)], args := [d1, d2] }
  | _ => none }
def fnExactParentOfRow : OpenClaim := { program := "ytgokllaeggdndaa", sum := "c81ffd63a6e1a4bfbacd7236328ca8ef8a3029a2597cfd4809eb89e77fafce90", func := "loop.example/g01618/laws.FnExactParentOf", spec := "fnExactParentOf", apart := false }
def FnExactParentOfSaid : Prop := fnExactParentOfRow.holds Try.pinned (OpenSpec.ofChange fnExactParentOfSpec)

/-- ITS FALSE NEIGHBOUR: 'it returns false'. Refute it at one input. -/
def fnExactParentOfWrong : ChangeSpec := { name := "fnExactParentOf", fn := fun _ => fun
  | [d1, d2] => { results := [.lit (.bool false)], args := [d1, d2] }
  | _ => none }
def FnExactParentOfWrongFalsely : Prop := fnExactParentOfRow.holds Try.pinned (OpenSpec.ofChange fnExactParentOfWrong)

/-- 'laws.FnExactKidsOf': WHATEVER THE INPUT: true; the input reads as it did. -/
def fnExactKidsOfSpec : ChangeSpec := { name := "fnExactKidsOf", fn := fun _ => fun
  | [d1, d2] => { results := [.lit (.bool true)], args := [d1, d2] }
  | _ => none }
def fnExactKidsOfRow : OpenClaim := { program := "ytgokllaeggdndaa", sum := "c81ffd63a6e1a4bfbacd7236328ca8ef8a3029a2597cfd4809eb89e77fafce90", func := "loop.example/g01618/laws.FnExactKidsOf", spec := "fnExactKidsOf", apart := false }
def FnExactKidsOfSaid : Prop := fnExactKidsOfRow.holds Try.pinned (OpenSpec.ofChange fnExactKidsOfSpec)

/-- ITS FALSE NEIGHBOUR: 'it returns false'. Refute it at one input. -/
def fnExactKidsOfWrong : ChangeSpec := { name := "fnExactKidsOf", fn := fun _ => fun
  | [d1, d2] => { results := [.lit (.bool false)], args := [d1, d2] }
  | _ => none }
def FnExactKidsOfWrongFalsely : Prop := fnExactKidsOfRow.holds Try.pinned (OpenSpec.ofChange fnExactKidsOfWrong)

/-- 'laws.FnExactHeightOf': WHATEVER THE INPUT: true; the input reads as it did. -/
def fnExactHeightOfSpec : ChangeSpec := { name := "fnExactHeightOf", fn := fun _ => fun
  | [d] => { results := [.lit (.bool true)], args := [d] }
  | _ => none }
def fnExactHeightOfRow : OpenClaim := { program := "ytgokllaeggdndaa", sum := "c81ffd63a6e1a4bfbacd7236328ca8ef8a3029a2597cfd4809eb89e77fafce90", func := "loop.example/g01618/laws.FnExactHeightOf", spec := "fnExactHeightOf", apart := false }
def FnExactHeightOfSaid : Prop := fnExactHeightOfRow.holds Try.pinned (OpenSpec.ofChange fnExactHeightOfSpec)

/-- ITS FALSE NEIGHBOUR: 'it returns false'. Refute it at one input. -/
def fnExactHeightOfWrong : ChangeSpec := { name := "fnExactHeightOf", fn := fun _ => fun
  | [d] => { results := [.lit (.bool false)], args := [d] }
  | _ => none }
def FnExactHeightOfWrongFalsely : Prop := fnExactHeightOfRow.holds Try.pinned (OpenSpec.ofChange fnExactHeightOfWrong)

/-- 'laws.FnExactLeavesOf': WHATEVER THE INPUT: true; the input reads as it did. -/
def fnExactLeavesOfSpec : ChangeSpec := { name := "fnExactLeavesOf", fn := fun _ => fun
  | [d] => { results := [.lit (.bool true)], args := [d] }
  | _ => none }
def fnExactLeavesOfRow : OpenClaim := { program := "ytgokllaeggdndaa", sum := "c81ffd63a6e1a4bfbacd7236328ca8ef8a3029a2597cfd4809eb89e77fafce90", func := "loop.example/g01618/laws.FnExactLeavesOf", spec := "fnExactLeavesOf", apart := false }
def FnExactLeavesOfSaid : Prop := fnExactLeavesOfRow.holds Try.pinned (OpenSpec.ofChange fnExactLeavesOfSpec)

/-- ITS FALSE NEIGHBOUR: 'it returns false'. Refute it at one input. -/
def fnExactLeavesOfWrong : ChangeSpec := { name := "fnExactLeavesOf", fn := fun _ => fun
  | [d] => { results := [.lit (.bool false)], args := [d] }
  | _ => none }
def FnExactLeavesOfWrongFalsely : Prop := fnExactLeavesOfRow.holds Try.pinned (OpenSpec.ofChange fnExactLeavesOfWrong)

/-- 'laws.FnExactPutTree': WHATEVER THE INPUT: true; the input reads as it did. -/
def fnExactPutTreeSpec : ChangeSpec := { name := "fnExactPutTree", fn := fun _ => fun
  | [d] => { results := [.lit (.bool true)], args := [d] }
  | _ => none }
def fnExactPutTreeRow : OpenClaim := { program := "ytgokllaeggdndaa", sum := "c81ffd63a6e1a4bfbacd7236328ca8ef8a3029a2597cfd4809eb89e77fafce90", func := "loop.example/g01618/laws.FnExactPutTree", spec := "fnExactPutTree", apart := false }
def FnExactPutTreeSaid : Prop := fnExactPutTreeRow.holds Try.pinned (OpenSpec.ofChange fnExactPutTreeSpec)

/-- ITS FALSE NEIGHBOUR: 'it returns false'. Refute it at one input. -/
def fnExactPutTreeWrong : ChangeSpec := { name := "fnExactPutTree", fn := fun _ => fun
  | [d] => { results := [.lit (.bool false)], args := [d] }
  | _ => none }
def FnExactPutTreeWrongFalsely : Prop := fnExactPutTreeRow.holds Try.pinned (OpenSpec.ofChange fnExactPutTreeWrong)

/-- 'laws.FnExactGetTree': WHATEVER THE INPUT: true; the input reads as it did. -/
def fnExactGetTreeSpec : ChangeSpec := { name := "fnExactGetTree", fn := fun _ => fun
  | [d] => { results := [.lit (.bool true)], args := [d] }
  | _ => none }
def fnExactGetTreeRow : OpenClaim := { program := "ytgokllaeggdndaa", sum := "c81ffd63a6e1a4bfbacd7236328ca8ef8a3029a2597cfd4809eb89e77fafce90", func := "loop.example/g01618/laws.FnExactGetTree", spec := "fnExactGetTree", apart := false }
def FnExactGetTreeSaid : Prop := fnExactGetTreeRow.holds Try.pinned (OpenSpec.ofChange fnExactGetTreeSpec)

/-- ITS FALSE NEIGHBOUR: 'it returns false'. Refute it at one input. -/
def fnExactGetTreeWrong : ChangeSpec := { name := "fnExactGetTree", fn := fun _ => fun
  | [d] => { results := [.lit (.bool false)], args := [d] }
  | _ => none }
def FnExactGetTreeWrongFalsely : Prop := fnExactGetTreeRow.holds Try.pinned (OpenSpec.ofChange fnExactGetTreeWrong)

/- THE SECOND FORM. 'bulk': how many values and letters a reading holds, each counted each time it is reached (what is shared counts as often as it is met; a slice's spare places count too). A statement '..UptoSaid' is the law's where the arguments, and the package variables that the reading takes, are together of bulk at most 1048576: NARROWER than '..Said'. Prove '..Said' where nothing that the law and all that it calls make is longer than what came in: it says more and counts as full. Else prove '..UptoSaid'. A law counts once. -/
mutual
def uptoBulk {H : Type} : DataW H → Nat
  | .lit (.string bytes) => bytes.length + 1
  | .lit _ => 1
  | .nil => 1
  | .ptr d => uptoBulk d + 1
  | .slice elems spare => uptoBulkAll elems + uptoBulkAll spare + 1
  | .agg parts => uptoBulkAll parts + 1
  | .iface _ d => uptoBulk d + 1
  | .map entries => uptoBulkEntries entries + 1
  | .held _ => 1
def uptoBulkAll {H : Type} : List (DataW H) → Nat
  | [] => 0
  | d :: r => uptoBulk d + uptoBulkAll r
def uptoBulkEntries {H : Type} : List (Lit × DataW H) → Nat
  | [] => 0
  | x :: r => uptoBulkEntry x + uptoBulkEntries r
def uptoBulkEntry {H : Type} : Lit × DataW H → Nat
  | (.string bytes, d) => bytes.length + uptoBulk d + 1
  | (_, d) => uptoBulk d + 1
 end
def uptoSmall : (H : Type) → List (DataW H) → Bool := fun _ ds => decide (uptoBulkAll ds ≤ 1048576)
def OpenSpec.upto (s : _root_.Go.ChangeSpec) : _root_.Go.OpenSpec := { _root_.Go.OpenSpec.ofChange s with cond := some uptoSmall }

/-- 'laws.FnExactTreeOk', WHERE WHAT IT READS IS OF BULK AT MOST 1048576: true; the input reads as it did. -/
def fnExactTreeOkUptoRow : OpenClaim := { program := "ytgokllaeggdndaa", sum := "c81ffd63a6e1a4bfbacd7236328ca8ef8a3029a2597cfd4809eb89e77fafce90", func := "loop.example/g01618/laws.FnExactTreeOk", spec := "fnExactTreeOk", apart := false, narrowed := true }
def FnExactTreeOkUptoSaid : Prop := fnExactTreeOkUptoRow.holds Try.pinned (OpenSpec.upto fnExactTreeOkSpec)

/-- 'laws.FnExactEndOf', WHERE WHAT IT READS IS OF BULK AT MOST 1048576: true; the input reads as it did. -/
def fnExactEndOfUptoRow : OpenClaim := { program := "ytgokllaeggdndaa", sum := "c81ffd63a6e1a4bfbacd7236328ca8ef8a3029a2597cfd4809eb89e77fafce90", func := "loop.example/g01618/laws.FnExactEndOf", spec := "fnExactEndOf", apart := false, narrowed := true }
def FnExactEndOfUptoSaid : Prop := fnExactEndOfUptoRow.holds Try.pinned (OpenSpec.upto fnExactEndOfSpec)

/-- 'laws.FnExactSubTree', WHERE WHAT IT READS IS OF BULK AT MOST 1048576: true; the input reads as it did. -/
def fnExactSubTreeUptoRow : OpenClaim := { program := "ytgokllaeggdndaa", sum := "c81ffd63a6e1a4bfbacd7236328ca8ef8a3029a2597cfd4809eb89e77fafce90", func := "loop.example/g01618/laws.FnExactSubTree", spec := "fnExactSubTree", apart := false, narrowed := true }
def FnExactSubTreeUptoSaid : Prop := fnExactSubTreeUptoRow.holds Try.pinned (OpenSpec.upto fnExactSubTreeSpec)

/-- 'laws.FnExactParentOf', WHERE WHAT IT READS IS OF BULK AT MOST 1048576: true; the input reads as it did. -/
def fnExactParentOfUptoRow : OpenClaim := { program := "ytgokllaeggdndaa", sum := "c81ffd63a6e1a4bfbacd7236328ca8ef8a3029a2597cfd4809eb89e77fafce90", func := "loop.example/g01618/laws.FnExactParentOf", spec := "fnExactParentOf", apart := false, narrowed := true }
def FnExactParentOfUptoSaid : Prop := fnExactParentOfUptoRow.holds Try.pinned (OpenSpec.upto fnExactParentOfSpec)

/-- 'laws.FnExactKidsOf', WHERE WHAT IT READS IS OF BULK AT MOST 1048576: true; the input reads as it did. -/
def fnExactKidsOfUptoRow : OpenClaim := { program := "ytgokllaeggdndaa", sum := "c81ffd63a6e1a4bfbacd7236328ca8ef8a3029a2597cfd4809eb89e77fafce90", func := "loop.example/g01618/laws.FnExactKidsOf", spec := "fnExactKidsOf", apart := false, narrowed := true }
def FnExactKidsOfUptoSaid : Prop := fnExactKidsOfUptoRow.holds Try.pinned (OpenSpec.upto fnExactKidsOfSpec)

/-- 'laws.FnExactHeightOf', WHERE WHAT IT READS IS OF BULK AT MOST 1048576: true; the input reads as it did. -/
def fnExactHeightOfUptoRow : OpenClaim := { program := "ytgokllaeggdndaa", sum := "c81ffd63a6e1a4bfbacd7236328ca8ef8a3029a2597cfd4809eb89e77fafce90", func := "loop.example/g01618/laws.FnExactHeightOf", spec := "fnExactHeightOf", apart := false, narrowed := true }
def FnExactHeightOfUptoSaid : Prop := fnExactHeightOfUptoRow.holds Try.pinned (OpenSpec.upto fnExactHeightOfSpec)

/-- 'laws.FnExactLeavesOf', WHERE WHAT IT READS IS OF BULK AT MOST 1048576: true; the input reads as it did. -/
def fnExactLeavesOfUptoRow : OpenClaim := { program := "ytgokllaeggdndaa", sum := "c81ffd63a6e1a4bfbacd7236328ca8ef8a3029a2597cfd4809eb89e77fafce90", func := "loop.example/g01618/laws.FnExactLeavesOf", spec := "fnExactLeavesOf", apart := false, narrowed := true }
def FnExactLeavesOfUptoSaid : Prop := fnExactLeavesOfUptoRow.holds Try.pinned (OpenSpec.upto fnExactLeavesOfSpec)

/-- 'laws.FnExactPutTree', WHERE WHAT IT READS IS OF BULK AT MOST 1048576: true; the input reads as it did. -/
def fnExactPutTreeUptoRow : OpenClaim := { program := "ytgokllaeggdndaa", sum := "c81ffd63a6e1a4bfbacd7236328ca8ef8a3029a2597cfd4809eb89e77fafce90", func := "loop.example/g01618/laws.FnExactPutTree", spec := "fnExactPutTree", apart := false, narrowed := true }
def FnExactPutTreeUptoSaid : Prop := fnExactPutTreeUptoRow.holds Try.pinned (OpenSpec.upto fnExactPutTreeSpec)

/-- 'laws.FnExactGetTree', WHERE WHAT IT READS IS OF BULK AT MOST 1048576: true; the input reads as it did. -/
def fnExactGetTreeUptoRow : OpenClaim := { program := "ytgokllaeggdndaa", sum := "c81ffd63a6e1a4bfbacd7236328ca8ef8a3029a2597cfd4809eb89e77fafce90", func := "loop.example/g01618/laws.FnExactGetTree", spec := "fnExactGetTree", apart := false, narrowed := true }
def FnExactGetTreeUptoSaid : Prop := fnExactGetTreeUptoRow.holds Try.pinned (OpenSpec.upto fnExactGetTreeSpec)

end Rows
end Go.Proofs.Ytgokllaeggdndaa
