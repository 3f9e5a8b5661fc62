/- Texts of one claim laid into one file, in build order: Tab, Kit, Codes13, InS, CodeNS, CodeNI, ExCodeName. -/
import Derived.Below
import Derived.Deep.DeepHandedRow
import Derived.Deep.RegionLaw
import Derived.Lib.Hide
import Derived.Lib.LaidTab
import Derived.Test.YtofpcedpmbecgaaDoorRows
import Derived.WalkKit
import Derived.WalkLawsBesides
import Derived.WalkSpells
/- A package-level table of strings: what a row's listed datum says of the variable's cells. Over any program. -/
namespace Go.Proofs.YtofpcedpmbecgaaDoor.Tab
open Go.RowKit
set_option linter.unusedVariables false

/-- the table as a row lists it -/
def strsData {H : Type} (ss : List (List UInt8)) : DataW H := .agg (ss.map fun s => .lit (.string s))

/-- the variable NAME holds just these strings -/
def StrsAre (P : Program) (w : World) (name : String) (ss : List (List UInt8)) : Prop := w.var? P name = some (ss.map fun s => Value.string ⟨s.toArray⟩).toArray

theorem cells_of_strs {H : Type} {enc : TypeId × Value → H} {P : Program} {w : World} {base : Nat} {sp : Nat → Bool} {held : Bool} {fuel : Nat} {t e : TypeId} {n : Nat} {cs : List Value} {ss : List (List UInt8)} {p : List MemPlace}
    (ht : P.underlying t = some (.array n e)) (he : P.underlying e = some .string) (hce : P.cellsOf e = 1) (hct : P.cellsOf t = n)
    (h : DataW.trod enc P w base sp held fuel t cs = some (strsData ss, p)) : cs = ss.map fun s => Value.string ⟨s.toArray⟩ := by
  cases fuel with
  | zero => simp [DataW.trod] at h
  | succ fuel =>
    simp only [DataW.trod, ht, hce, hct, Nat.mul_one] at h
    split at h
    · rename_i hl
      obtain ⟨xs, hm, hx⟩ := Option.map_eq_some_iff.1 h
      have hxs : xs.map (·.1) = ss.map fun s => (DataW.lit (.string s) : DataW H) := by
        have := congrArg Prod.fst hx
        simpa [strsData] using this
      have hxl : xs.length = n := by simpa using Lib.mapM_length hm
      have hzl : ss.length = n := by
        have := congrArg List.length hxs
        simp at this
        omega
      apply List.ext_getElem?
      intro i
      by_cases hi : i < n
      · obtain ⟨b, hb, hf⟩ := Lib.mapM_at hm i i (by simp [hi])
        obtain ⟨z, hc, rfl, _⟩ := DataW.trod_string he hf
        have h1 : cs[i]? = some (.string z) := by
          have := congrArg (·[0]?) hc
          simpa [List.getElem?_take, List.getElem?_drop] using this
        have h2 : (xs.map (·.1))[i]? = some (DataW.lit (.string z.data.toList) : DataW H) := by simp [hb]
        rw [hxs] at h2
        simp only [List.getElem?_map, Option.map_eq_some_iff, DataW.lit.injEq, Lit.string.injEq] at h2
        obtain ⟨z', hz', rfl⟩ := h2
        simp [h1, hz']
      · rw [List.getElem?_eq_none (by omega), List.getElem?_eq_none (by simp; omega)]
    · cases h

/-- from the row's condition: the table stands first on the list -/
theorem strsAre_of_head {P : Program} {W : World} {name : String} {ss : List (List UInt8)} {rest : List (String × DataW Unit)} {g : Nat} {t e : TypeId} {n : Nat}
    (hg : P.globalNamed name = some g) (hty : (P.globals[g]?).map (·.type) = some t) (ht : P.underlying t = some (.array n e)) (he : P.underlying e = some .string) (hce : P.cellsOf e = 1) (hct : P.cellsOf t = n)
    (h : laidMet P ((name, strsData ss) :: rest) W) : StrsAre P W name ss := by
  obtain ⟨ps, ⟨g', t', cs, fuel, p, q, hg', ht', hvar, hd, _, _⟩, _⟩ := h
  obtain rfl := Option.some.inj (hg.symm.trans hg')
  obtain rfl := Option.some.inj (hty.symm.trans ht')
  unfold StrsAre
  rw [hvar, ← cells_of_strs ht he hce hct hd]

/-- what a walk reads at index i of the table -/
theorem StrsAre.cell {P : Program} {W : World} {name : String} {ss : List (List UInt8)} {g : Nat} (h : StrsAre P W name ss) (hg : P.globalNamed name = some g) (i : Nat) (hi : i < ss.length) :
    W.cell? ⟨g, i, none⟩ = some (.string ⟨(ss.getD i []).toArray⟩) := by
  have := World.var?_cell hg h i
  simpa [List.getD, hi] using this

theorem StrsAre.below {P : Program} {w w' : World} {name : String} {ss : List (List UInt8)} (h : StrsAre P w name ss) (hb : Below w.heap.size w w') : StrsAre P w' name ss := by
  unfold StrsAre World.var? at *
  cases hg : P.globalNamed name with
  | none => simp [hg] at h
  | some g =>
    simp only [hg, Option.bind_some] at h ⊢
    have hlt : g < w.heap.size := by
      rcases Nat.lt_or_ge g w.heap.size with h' | h'
      · exact h'
      · rw [Array.getElem?_eq_none h'] at h; simp at h
    rw [hb.block g hlt]
    exact h

end Go.Proofs.YtofpcedpmbecgaaDoor.Tab

/- Small facts over any program: a string of one byte, sums of strings. -/
namespace Go.Proofs.YtofpcedpmbecgaaDoor.Kit
open Go.RowKit

theorem ret_bool {a b : Bool} (h : a = b) : Ending.returned (.bool a) = .returned (.bool b) := by rw [h]
end Go.Proofs.YtofpcedpmbecgaaDoor.Kit

/- Contracts (Codes13). -/
namespace Go.Proofs.YtofpcedpmbecgaaDoor
open Go.RowKit
set_option linter.unusedVariables false

def OpCode.bytes : List (List UInt8) := [[111, 107], [107, 105, 110, 100], [112, 97, 116, 104], [108, 97, 98, 101, 108], [114, 111, 111, 116], [114, 97, 110, 103, 101], [115, 105, 122, 101], [100, 101, 112, 116, 104]]
/-- the name of a code -/
def OpCode.name (n : Int) : ByteArray := if 0 ≤ n ∧ n ≤ 7 then ⟨(OpCode.bytes.getD n.toNat []).toArray⟩ else ⟨#[]⟩
theorem OpCode.name_no {n : Int} (h : ¬ (0 ≤ n ∧ n ≤ 7)) : OpCode.name n = ⟨#[]⟩ := if_neg h

/-- the table of codes stands -/
def HasOpCodes (w : World) : Prop := Tab.StrsAre Tryd.prog w "loop.example/g01618/impl.opCodes" OpCode.bytes
theorem HasOpCodes.below {w w' : World} (h : HasOpCodes w) (hb : Below w.heap.size w w') : HasOpCodes w' := Tab.StrsAre.below h hb

theorem gCodes13 : Tryd.prog.globalNamed "loop.example/g01618/impl.opCodes" = some 0 := by kernel_rfl
theorem gCodesType13 : (Tryd.prog.globals[0]?).map (·.type) = some 56 := by kernel_rfl
theorem cellsCodes13 : Tryd.prog.cellsOf 56 = 8 := by kernel_rfl
theorem cellsCode13 : Tryd.prog.cellsOf 9 = 1 := by kernel_rfl
theorem codesData13 : (Rows.laid_loop_example_g01618_impl_opCodes : DataW Unit) = Tab.strsData OpCode.bytes := by kernel_rfl
theorem hasOpCodes {w : World} {rest : List (String × DataW Unit)} (h : laidMet Tryd.prog (("loop.example/g01618/impl.opCodes", Rows.laid_loop_example_g01618_impl_opCodes) :: rest) w) : HasOpCodes w := by
  rw [codesData13] at h
  exact Tab.strsAre_of_head gCodes13 gCodesType13 Tryd.underlying56 Tryd.underlying9 cellsCode13 cellsCodes13 h
/-- the eight cells -/
theorem HasOpCodes.cell {w : World} (h : HasOpCodes w) (i : Nat) (hi : i < 8) : w.cell? ⟨0, i, none⟩ = some (.string (OpCode.name i)) := by
  have e := Tab.StrsAre.cell h gCodes13 i hi
  rw [e]
  have h : i = 0 ∨ i = 1 ∨ i = 2 ∨ i = 3 ∨ i = 4 ∨ i = 5 ∨ i = 6 ∨ i = 7 := by omega
  rcases h with rfl | rfl | rfl | rfl | rfl | rfl | rfl | rfl <;> rfl

end Go.Proofs.YtofpcedpmbecgaaDoor

/- Contracts (InS). -/
namespace Go.Proofs.YtofpcedpmbecgaaDoor
open Go.RowKit
set_option linter.unusedVariables false

set_option maxHeartbeats 400000 in
theorem l1In_any (x a b : Int) (w : World) :
    Calls Tryd.prog 31 #[.int .i64 x, .int .i64 a, .int .i64 b] w fun e w' => e = .returned (.bool (decide (a ≤ x ∧ x ≤ b))) ∧ w = w' := by
  go_enter Tryd.func31, Tryd.ntmps31
  go_wp2
  all_goals go_ret
  all_goals exact ⟨Kit.ret_bool (by simp; try omega), rfl⟩

end Go.Proofs.YtofpcedpmbecgaaDoor

/- Contracts (CodeNS). -/
namespace Go.Proofs.YtofpcedpmbecgaaDoor
open Go.RowKit
set_option linter.unusedVariables false

set_option maxHeartbeats 400000 in
theorem specCodeName_no (n : Int) (h : ¬ (0 ≤ n ∧ n ≤ 7)) (w : World) :
    Calls Tryd.prog 14 #[.int .i64 n] w fun e w' => e = .returned (.string ⟨#[]⟩) ∧ Below w.heap.size w w' := by
  have h' : decide (0 ≤ n ∧ n ≤ 7) = false := by simpa using h
  clear h
  go_enter Tryd.func14, Tryd.ntmps14
  go_wp2_with fail
  refine (l1In_any _ _ _ _).mono ?_
  rintro e w' ⟨rfl, rfl⟩
  rw [h']
  go_wp2
  go_ret
  exact ⟨rfl, Below.refl _ _⟩

set_option maxHeartbeats 400000 in
theorem specCodeName_yes (n : Nat) (hn : n < 8) (w : World) :
    Calls Tryd.prog 14 #[.int .i64 n] w fun e w' => e = .returned (.string (OpCode.name n)) ∧ Below w.heap.size w w' := by
  have hc : n = 0 ∨ n = 1 ∨ n = 2 ∨ n = 3 ∨ n = 4 ∨ n = 5 ∨ n = 6 ∨ n = 7 := by omega
  rcases hc with rfl | rfl | rfl | rfl | rfl | rfl | rfl | rfl
  all_goals
    go_enter Tryd.func14, Tryd.ntmps14
    go_wp2_with fail
    refine (l1In_any _ _ _ _).mono ?_
    rintro e w' ⟨rfl, rfl⟩
    go_wp2
    go_ret
    exact ⟨rfl, (Below.refl _ _).alloc (Nat.le_refl _) _⟩

theorem specCodeName_any (n : Int) (w : World) :
    Calls Tryd.prog 14 #[.int .i64 n] w fun e w' => e = .returned (.string (OpCode.name n)) ∧ Below w.heap.size w w' := by
  by_cases h : 0 ≤ n ∧ n ≤ 7
  · obtain ⟨m, rfl⟩ := Int.eq_ofNat_of_zero_le h.1
    exact specCodeName_yes m (by omega) w
  · rw [OpCode.name_no h]
    exact specCodeName_no n h w

end Go.Proofs.YtofpcedpmbecgaaDoor

/- Contracts (CodeNI). -/
namespace Go.Proofs.YtofpcedpmbecgaaDoor
open Go.RowKit
set_option linter.unusedVariables false

set_option maxHeartbeats 400000 in
theorem implCodeName_any (n : Int) (w : World) (ht : HasOpCodes w) :
    Calls Tryd.prog 10 #[.int .i64 n] w fun e w' => e = .returned (.string (OpCode.name n)) ∧ w = w' := by
  by_cases h0 : n < 0
  · have hf := OpCode.name_no (n := n) (by omega)
    have e0 : decide (n < 0) = true := by simpa using h0
    clear ht h0
    go_enter Tryd.func10, Tryd.ntmps10
    go_wp2
    go_ret
    exact ⟨by rw [hf]; rfl, rfl⟩
  · have e0 : decide (n < 0) = false := by simpa using h0
    by_cases h1 : 7 < n
    · have hf := OpCode.name_no (n := n) (by omega)
      have e1 : decide (7 < n) = true := by simpa using h1
      clear ht h0 h1
      go_enter Tryd.func10, Tryd.ntmps10
      go_wp2
      go_ret
      exact ⟨by rw [hf]; rfl, rfl⟩
    · have e1 : decide (7 < n) = false := by simpa using h1
      obtain ⟨m, rfl⟩ := Int.eq_ofNat_of_zero_le (show 0 ≤ n by omega)
      have hcell := ht.cell m (by omega)
      have hm : m < 8 := by omega
      clear ht h0 h1
      go_enter Tryd.func10, Tryd.ntmps10
      go_wp2
      go_ret
      exact ⟨rfl, rfl⟩

end Go.Proofs.YtofpcedpmbecgaaDoor

/- Contracts (ExCodeName). -/
namespace Go.Proofs.YtofpcedpmbecgaaDoor
open Go.RowKit
set_option linter.unusedVariables false

set_option maxHeartbeats 400000 in
theorem exactCodeName_walk (n : Int) (hn : (Lit.int .i64 n).wf = true) (w : World) (hL : laidMetH Tryd.prog Rows.fnExactCodeNameRow.laid w) :
    Calls Tryd.prog 4 #[.int .i64 n] w fun e w' => e = .returned (.bool true) ∧ Below w.heap.size w w' := by
  have hL' : laidMet Tryd.prog Rows.fnExactCodeNameRow.laid w := hL
  have ht : HasOpCodes w := hasOpCodes hL'
  clear hn hL hL'
  go_enter Tryd.func4, Tryd.ntmps4
  go_wp2_with fail
  refine (specCodeName_any n _).mono ?_
  rintro e w1 ⟨rfl, hb1⟩
  have ht1 := ht.below hb1
  go_wp2_with fail
  refine (implCodeName_any n _ ht1).mono ?_
  rintro e w2 ⟨rfl, rfl⟩
  go_wp2
  go_ret
  exact ⟨rfl, hb1⟩

end Go.Proofs.YtofpcedpmbecgaaDoor
