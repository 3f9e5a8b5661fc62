/-
  NARROWER THAN 'FOR EVERY INPUT', by the rows' own cells (each row's printed sentence says how): FnOps: laid · FnExactCodeName: laid.
  DERIVED. THE GIVEN ROWS OF THIS SEAT. 2 by the template 'for every input the law returns true; each argument reads behind the call as it read before'; 0 by the template 'total and deterministic' (their statements: YtofpcedpmbecgaaDoorTotals.lean).
  GIVEN WITH THE SEED: the statements are not yours to turn. If you find one false, say at which input.
  Laid BY PROGRAM, IN A SANDBOX (cutbox-rows.mjs): the forced cells as the released guide's own fill.sh prints them over the translation 07c6f5f83c77721c… (all of the seat's roots in one cut). By AI agents, Wed Nov 11 2026. No macro, syntax, notation, axiom, sorry.
-/
import Derived.Test.YtofpcedpmbecgaaDoorChecked
import GoSem.Claim
import GoSem.ClaimJoined
import GoSem.ClaimMapViews
import Derived.JoinedTies
import Derived.KernelRfl
namespace Go.Proofs.YtofpcedpmbecgaaDoor
/- THE CELL 'sum', in the pinned program and in every row, IS THE sha256 OF THE DUMP (.gsa) THAT YtofpcedpmbecgaaDoorProg.lean LOADS. Nothing in Lean hashes anything: it is a label: what it is worth is what the hold of that sum in a sandbox is worth. -/
noncomputable def Tryd.pinned : Pinned := { name := "ytofpcedpmbecgaadoor", sum := "07c6f5f83c77721c533221369c406c34389fa3ff0b01a7dee8d114c1edc02a9d", checked := Tryd.checked }
namespace Rows
def none {H : Type} : Left H := { results := [], args := [] }

/- WHAT THE LISTED PACKAGE-LEVEL VARIABLES READ AS WHEN THE CALL BEGINS. Each datum BY PROGRAM (the guide's laid-datum.mjs) off the statement by which the dump's own 'gosem.cut.vars' lays the variable. In a bare row this is a premise. The card (YtofpcedpmbecgaaDoorCards.lean) ties it to the program's text. -/
def laid_loop_example_g01618_impl_opCodes {H : Type} : DataW H := .agg [.lit (.string [111, 107]), .lit (.string [107, 105, 110, 100]), .lit (.string [112, 97, 116, 104]), .lit (.string [108, 97, 98, 101, 108]), .lit (.string [114, 111, 111, 116]), .lit (.string [114, 97, 110, 103, 101]), .lit (.string [115, 105, 122, 101]), .lit (.string [100, 101, 112, 116, 104])]

/-- 'laws.FnOps': WHATEVER THE INPUT: true; the input reads as it did. -/
def fnOpsSpec : ChangeSpec := { name := "fnOps", vars := ["loop.example/g01618/impl.opCodes"], fn := fun _ => fun
  | [d, g1] => { results := [.lit (.bool true)], args := [d], vars := [g1] }
  | _ => none }
def fnOpsRow : OpenClaim := { program := "ytofpcedpmbecgaadoor", sum := "07c6f5f83c77721c533221369c406c34389fa3ff0b01a7dee8d114c1edc02a9d", func := "loop.example/g01618/laws.FnOps", spec := "fnOps", named := ["loop.example/g01618/impl.opCodes"], apart := false, laid := [("loop.example/g01618/impl.opCodes", laid_loop_example_g01618_impl_opCodes)] }
def FnOpsSaid : Prop := fnOpsRow.holds Tryd.pinned (OpenSpec.ofChange fnOpsSpec)

/-- ITS FALSE NEIGHBOUR: 'it returns false'. Refute it at one input. -/
def fnOpsWrong : ChangeSpec := { name := "fnOps", vars := ["loop.example/g01618/impl.opCodes"], fn := fun _ => fun
  | [d, g1] => { results := [.lit (.bool false)], args := [d], vars := [g1] }
  | _ => none }
def FnOpsWrongFalsely : Prop := fnOpsRow.holds Tryd.pinned (OpenSpec.ofChange fnOpsWrong)

/-- 'laws.FnExactCodeName': WHATEVER THE INPUT: true; the input reads as it did. -/
def fnExactCodeNameSpec : ChangeSpec := { name := "fnExactCodeName", vars := ["loop.example/g01618/impl.opCodes"], fn := fun _ => fun
  | [d, g1] => { results := [.lit (.bool true)], args := [d], vars := [g1] }
  | _ => none }
def fnExactCodeNameRow : OpenClaim := { program := "ytofpcedpmbecgaadoor", sum := "07c6f5f83c77721c533221369c406c34389fa3ff0b01a7dee8d114c1edc02a9d", func := "loop.example/g01618/laws.FnExactCodeName", spec := "fnExactCodeName", named := ["loop.example/g01618/impl.opCodes"], apart := false, laid := [("loop.example/g01618/impl.opCodes", laid_loop_example_g01618_impl_opCodes)] }
def FnExactCodeNameSaid : Prop := fnExactCodeNameRow.holds Tryd.pinned (OpenSpec.ofChange fnExactCodeNameSpec)

/-- ITS FALSE NEIGHBOUR: 'it returns false'. Refute it at one input. -/
def fnExactCodeNameWrong : ChangeSpec := { name := "fnExactCodeName", vars := ["loop.example/g01618/impl.opCodes"], fn := fun _ => fun
  | [d, g1] => { results := [.lit (.bool false)], args := [d], vars := [g1] }
  | _ => none }
def FnExactCodeNameWrongFalsely : Prop := fnExactCodeNameRow.holds Tryd.pinned (OpenSpec.ofChange fnExactCodeNameWrong)

/- THE SECOND FORM. 'bulk': how many values and letters a reading holds, each counted each time it is reached (what is shared counts as often as it is met; a slice's spare places count too). A statement '..UptoSaid' is the law's where the arguments, and the package variables that the reading takes, are together of bulk at most 1048576: NARROWER than '..Said'. Prove '..Said' where nothing that the law and all that it calls make is longer than what came in: it says more and counts as full. Else prove '..UptoSaid'. A law counts once. -/
mutual
def uptoBulk {H : Type} : DataW H → Nat
  | .lit (.string bytes) => bytes.length + 1
  | .lit _ => 1
  | .nil => 1
  | .ptr d => uptoBulk d + 1
  | .slice elems spare => uptoBulkAll elems + uptoBulkAll spare + 1
  | .agg parts => uptoBulkAll parts + 1
  | .iface _ d => uptoBulk d + 1
  | .map entries => uptoBulkEntries entries + 1
  | .held _ => 1
def uptoBulkAll {H : Type} : List (DataW H) → Nat
  | [] => 0
  | d :: r => uptoBulk d + uptoBulkAll r
def uptoBulkEntries {H : Type} : List (Lit × DataW H) → Nat
  | [] => 0
  | x :: r => uptoBulkEntry x + uptoBulkEntries r
def uptoBulkEntry {H : Type} : Lit × DataW H → Nat
  | (.string bytes, d) => bytes.length + uptoBulk d + 1
  | (_, d) => uptoBulk d + 1
 end
def uptoSmall : (H : Type) → List (DataW H) → Bool := fun _ ds => decide (uptoBulkAll ds ≤ 1048576)
def OpenSpec.upto (s : _root_.Go.ChangeSpec) : _root_.Go.OpenSpec := { _root_.Go.OpenSpec.ofChange s with cond := some uptoSmall }

/-- 'laws.FnOps', WHERE WHAT IT READS IS OF BULK AT MOST 1048576: true; the input reads as it did. -/
def fnOpsUptoRow : OpenClaim := { program := "ytofpcedpmbecgaadoor", sum := "07c6f5f83c77721c533221369c406c34389fa3ff0b01a7dee8d114c1edc02a9d", func := "loop.example/g01618/laws.FnOps", spec := "fnOps", named := ["loop.example/g01618/impl.opCodes"], apart := false, laid := [("loop.example/g01618/impl.opCodes", laid_loop_example_g01618_impl_opCodes)], narrowed := true }
def FnOpsUptoSaid : Prop := fnOpsUptoRow.holds Tryd.pinned (OpenSpec.upto fnOpsSpec)

/-- 'laws.FnExactCodeName', WHERE WHAT IT READS IS OF BULK AT MOST 1048576: true; the input reads as it did. -/
def fnExactCodeNameUptoRow : OpenClaim := { program := "ytofpcedpmbecgaadoor", sum := "07c6f5f83c77721c533221369c406c34389fa3ff0b01a7dee8d114c1edc02a9d", func := "loop.example/g01618/laws.FnExactCodeName", spec := "fnExactCodeName", named := ["loop.example/g01618/impl.opCodes"], apart := false, laid := [("loop.example/g01618/impl.opCodes", laid_loop_example_g01618_impl_opCodes)], narrowed := true }
def FnExactCodeNameUptoSaid : Prop := fnExactCodeNameUptoRow.holds Tryd.pinned (OpenSpec.upto fnExactCodeNameSpec)

end Rows
end Go.Proofs.YtofpcedpmbecgaaDoor
