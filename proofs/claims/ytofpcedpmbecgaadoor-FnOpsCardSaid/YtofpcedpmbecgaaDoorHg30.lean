/- Texts of one claim laid into one file, in build order: Tab, Codes13, CodeNI, DelX. -/
import Derived.Test.YtofpcedpmbecgaaDoorHg1
import Derived.Test.YtofpcedpmbecgaaDoorHg12
import Derived.Test.YtofpcedpmbecgaaDoorHg8
import Derived.Below
import Derived.Lib.LaidTab
import Derived.Outline
import Derived.Test.YtofpcedpmbecgaaDoorRows
/- A package-level table of strings: what a row's listed datum says of the variable's cells. Over any program. -/
namespace Go.Proofs.YtofpcedpmbecgaaDoor.Tab
open Go.RowKit
set_option linter.unusedVariables false

/-- the table as a row lists it -/
def strsData {H : Type} (ss : List (List UInt8)) : DataW H := .agg (ss.map fun s => .lit (.string s))

/-- the variable NAME holds just these strings -/
def StrsAre (P : Program) (w : World) (name : String) (ss : List (List UInt8)) : Prop := w.var? P name = some (ss.map fun s => Value.string ⟨s.toArray⟩).toArray

theorem cells_of_strs {H : Type} {enc : TypeId × Value → H} {P : Program} {w : World} {base : Nat} {sp : Nat → Bool} {held : Bool} {fuel : Nat} {t e : TypeId} {n : Nat} {cs : List Value} {ss : List (List UInt8)} {p : List MemPlace}
    (ht : P.underlying t = some (.array n e)) (he : P.underlying e = some .string) (hce : P.cellsOf e = 1) (hct : P.cellsOf t = n)
    (h : DataW.trod enc P w base sp held fuel t cs = some (strsData ss, p)) : cs = ss.map fun s => Value.string ⟨s.toArray⟩ := by
  cases fuel with
  | zero => simp [DataW.trod] at h
  | succ fuel =>
    simp only [DataW.trod, ht, hce, hct, Nat.mul_one] at h
    split at h
    · rename_i hl
      obtain ⟨xs, hm, hx⟩ := Option.map_eq_some_iff.1 h
      have hxs : xs.map (·.1) = ss.map fun s => (DataW.lit (.string s) : DataW H) := by
        have := congrArg Prod.fst hx
        simpa [strsData] using this
      have hxl : xs.length = n := by simpa using Lib.mapM_length hm
      have hzl : ss.length = n := by
        have := congrArg List.length hxs
        simp at this
        omega
      apply List.ext_getElem?
      intro i
      by_cases hi : i < n
      · obtain ⟨b, hb, hf⟩ := Lib.mapM_at hm i i (by simp [hi])
        obtain ⟨z, hc, rfl, _⟩ := DataW.trod_string he hf
        have h1 : cs[i]? = some (.string z) := by
          have := congrArg (·[0]?) hc
          simpa [List.getElem?_take, List.getElem?_drop] using this
        have h2 : (xs.map (·.1))[i]? = some (DataW.lit (.string z.data.toList) : DataW H) := by simp [hb]
        rw [hxs] at h2
        simp only [List.getElem?_map, Option.map_eq_some_iff, DataW.lit.injEq, Lit.string.injEq] at h2
        obtain ⟨z', hz', rfl⟩ := h2
        simp [h1, hz']
      · rw [List.getElem?_eq_none (by omega), List.getElem?_eq_none (by simp; omega)]
    · cases h

/-- from the row's condition: the table stands first on the list -/
theorem strsAre_of_head {P : Program} {W : World} {name : String} {ss : List (List UInt8)} {rest : List (String × DataW Unit)} {g : Nat} {t e : TypeId} {n : Nat}
    (hg : P.globalNamed name = some g) (hty : (P.globals[g]?).map (·.type) = some t) (ht : P.underlying t = some (.array n e)) (he : P.underlying e = some .string) (hce : P.cellsOf e = 1) (hct : P.cellsOf t = n)
    (h : laidMet P ((name, strsData ss) :: rest) W) : StrsAre P W name ss := by
  obtain ⟨ps, ⟨g', t', cs, fuel, p, q, hg', ht', hvar, hd, _, _⟩, _⟩ := h
  obtain rfl := Option.some.inj (hg.symm.trans hg')
  obtain rfl := Option.some.inj (hty.symm.trans ht')
  unfold StrsAre
  rw [hvar, ← cells_of_strs ht he hce hct hd]

/-- what a walk reads at index i of the table -/
theorem StrsAre.cell {P : Program} {W : World} {name : String} {ss : List (List UInt8)} {g : Nat} (h : StrsAre P W name ss) (hg : P.globalNamed name = some g) (i : Nat) (hi : i < ss.length) :
    W.cell? ⟨g, i, none⟩ = some (.string ⟨(ss.getD i []).toArray⟩) := by
  have := World.var?_cell hg h i
  simpa [List.getD, hi] using this

theorem StrsAre.below {P : Program} {w w' : World} {name : String} {ss : List (List UInt8)} (h : StrsAre P w name ss) (hb : Below w.heap.size w w') : StrsAre P w' name ss := by
  unfold StrsAre World.var? at *
  cases hg : P.globalNamed name with
  | none => simp [hg] at h
  | some g =>
    simp only [hg, Option.bind_some] at h ⊢
    have hlt : g < w.heap.size := by
      rcases Nat.lt_or_ge g w.heap.size with h' | h'
      · exact h'
      · rw [Array.getElem?_eq_none h'] at h; simp at h
    rw [hb.block g hlt]
    exact h

end Go.Proofs.YtofpcedpmbecgaaDoor.Tab

/- Contracts (Codes13). -/
namespace Go.Proofs.YtofpcedpmbecgaaDoor
open Go.RowKit
set_option linter.unusedVariables false

def OpCode.bytes : List (List UInt8) := [[111, 107], [107, 105, 110, 100], [112, 97, 116, 104], [108, 97, 98, 101, 108], [114, 111, 111, 116], [114, 97, 110, 103, 101], [115, 105, 122, 101], [100, 101, 112, 116, 104]]
/-- the name of a code -/
def OpCode.name (n : Int) : ByteArray := if 0 ≤ n ∧ n ≤ 7 then ⟨(OpCode.bytes.getD n.toNat []).toArray⟩ else ⟨#[]⟩
theorem OpCode.name_no {n : Int} (h : ¬ (0 ≤ n ∧ n ≤ 7)) : OpCode.name n = ⟨#[]⟩ := if_neg h

/-- the table of codes stands -/
def HasOpCodes (w : World) : Prop := Tab.StrsAre Tryd.prog w "loop.example/g01618/impl.opCodes" OpCode.bytes
theorem HasOpCodes.below {w w' : World} (h : HasOpCodes w) (hb : Below w.heap.size w w') : HasOpCodes w' := Tab.StrsAre.below h hb

theorem gCodes13 : Tryd.prog.globalNamed "loop.example/g01618/impl.opCodes" = some 0 := by kernel_rfl
theorem gCodesType13 : (Tryd.prog.globals[0]?).map (·.type) = some 56 := by kernel_rfl
theorem cellsCodes13 : Tryd.prog.cellsOf 56 = 8 := by kernel_rfl
theorem cellsCode13 : Tryd.prog.cellsOf 9 = 1 := by kernel_rfl
theorem codesData13 : (Rows.laid_loop_example_g01618_impl_opCodes : DataW Unit) = Tab.strsData OpCode.bytes := by kernel_rfl
theorem hasOpCodes {w : World} {rest : List (String × DataW Unit)} (h : laidMet Tryd.prog (("loop.example/g01618/impl.opCodes", Rows.laid_loop_example_g01618_impl_opCodes) :: rest) w) : HasOpCodes w := by
  rw [codesData13] at h
  exact Tab.strsAre_of_head gCodes13 gCodesType13 Tryd.underlying56 Tryd.underlying9 cellsCode13 cellsCodes13 h
/-- the eight cells -/
theorem HasOpCodes.cell {w : World} (h : HasOpCodes w) (i : Nat) (hi : i < 8) : w.cell? ⟨0, i, none⟩ = some (.string (OpCode.name i)) := by
  have e := Tab.StrsAre.cell h gCodes13 i hi
  rw [e]
  have h : i = 0 ∨ i = 1 ∨ i = 2 ∨ i = 3 ∨ i = 4 ∨ i = 5 ∨ i = 6 ∨ i = 7 := by omega
  rcases h with rfl | rfl | rfl | rfl | rfl | rfl | rfl | rfl <;> rfl

end Go.Proofs.YtofpcedpmbecgaaDoor

/- Contracts (CodeNI). -/
namespace Go.Proofs.YtofpcedpmbecgaaDoor
open Go.RowKit
set_option linter.unusedVariables false

set_option maxHeartbeats 400000 in
theorem implCodeName_any (n : Int) (w : World) (ht : HasOpCodes w) :
    Calls Tryd.prog 10 #[.int .i64 n] w fun e w' => e = .returned (.string (OpCode.name n)) ∧ w = w' := by
  by_cases h0 : n < 0
  · have hf := OpCode.name_no (n := n) (by omega)
    have e0 : decide (n < 0) = true := by simpa using h0
    clear ht h0
    go_enter Tryd.func10, Tryd.ntmps10
    go_wp2
    go_ret
    exact ⟨by rw [hf]; rfl, rfl⟩
  · have e0 : decide (n < 0) = false := by simpa using h0
    by_cases h1 : 7 < n
    · have hf := OpCode.name_no (n := n) (by omega)
      have e1 : decide (7 < n) = true := by simpa using h1
      clear ht h0 h1
      go_enter Tryd.func10, Tryd.ntmps10
      go_wp2
      go_ret
      exact ⟨by rw [hf]; rfl, rfl⟩
    · have e1 : decide (7 < n) = false := by simpa using h1
      obtain ⟨m, rfl⟩ := Int.eq_ofNat_of_zero_le (show 0 ≤ n by omega)
      have hcell := ht.cell m (by omega)
      have hm : m < 8 := by omega
      clear ht h0 h1
      go_enter Tryd.func10, Tryd.ntmps10
      go_wp2
      go_ret
      exact ⟨rfl, rfl⟩

end Go.Proofs.YtofpcedpmbecgaaDoor

/- Contracts (DelX). -/
namespace Go.Proofs.YtofpcedpmbecgaaDoor
open Go.RowKit
set_option linter.unusedVariables false

/-- two trees and the costs, as nine cells at the head of a block; the rows that they name -/
structure SD (g : Nat) (a0 a1 b0 b1 k0 k1 k2 : Addr) (ca0 ca1 cb0 cb1 ck0 ck1 ck2 : Nat) (xs ys : Tr) (k : Co) (w : World) : Prop where
  h0 : w.cell? ⟨g, 0, none⟩ = some (.slice (some a0) xs.length ca0)
  h1 : w.cell? ⟨g, 1, none⟩ = some (.slice (some a1) xs.length ca1)
  h3 : w.cell? ⟨g, 3, none⟩ = some (.slice (some b0) ys.length cb0)
  h4 : w.cell? ⟨g, 4, none⟩ = some (.slice (some b1) ys.length cb1)
  h6 : w.cell? ⟨g, 6, none⟩ = some (.slice (some k0) 6 ck0)
  h7 : w.cell? ⟨g, 7, none⟩ = some (.slice (some k1) 6 ck1)
  h8 : w.cell? ⟨g, 8, none⟩ = some (.slice (some k2) 36 ck2)
  ra0 : ∀ x, x < xs.length → w.cell? (a0.add x) = some (.int .i64 (Tr.xa xs x))
  ra1 : ∀ x, x < xs.length → w.cell? (a1.add x) = some (.int .i64 (Tr.la xs x))
  rb0 : ∀ y, y < ys.length → w.cell? (b0.add y) = some (.int .i64 (Tr.xa ys y))
  rb1 : ∀ y, y < ys.length → w.cell? (b1.add y) = some (.int .i64 (Tr.la ys y))
  rk0 : ∀ u, u < 6 → w.cell? (k0.add u) = some (.int .i64 (Zs.at k.d u))
  rk1 : ∀ u, u < 6 → w.cell? (k1.add u) = some (.int .i64 (Zs.at k.i u))
  rk2 : ∀ u, u < 36 → w.cell? (k2.add u) = some (.int .i64 (Zs.at k.r u))
section
variable {g : Nat} {a0 a1 b0 b1 k0 k1 k2 : Addr} {ca0 ca1 cb0 cb1 ck0 ck1 ck2 : Nat} {xs ys : Tr} {k : Co} {w w' : World}
/-- the labels, as they are read -/
theorem SD.la0 (h : SD g a0 a1 b0 b1 k0 k1 k2 ca0 ca1 cb0 cb1 ck0 ck1 ck2 xs ys k w) (hx : Tr.ok xs = true) {x : Nat} (hxl : x < xs.length) : ∃ u : Nat, u < 6 ∧ Tr.xa xs x = (u : Int) ∧ w.cell? (a0.add x) = some (.int .i64 (u : Int)) := by
  obtain ⟨u, hu, e⟩ := Tr.xa_lab hx hxl
  exact ⟨u, hu, e, by rw [h.ra0 x hxl, e]⟩
theorem SD.lb0 (h : SD g a0 a1 b0 b1 k0 k1 k2 ca0 ca1 cb0 cb1 ck0 ck1 ck2 xs ys k w) (hy : Tr.ok ys = true) {y : Nat} (hyl : y < ys.length) : ∃ u : Nat, u < 6 ∧ Tr.xa ys y = (u : Int) ∧ w.cell? (b0.add y) = some (.int .i64 (u : Int)) := by
  obtain ⟨u, hu, e⟩ := Tr.xa_lab hy hyl
  exact ⟨u, hu, e, by rw [h.rb0 y hyl, e]⟩
theorem SD.drawn (h : SD g a0 a1 b0 b1 k0 k1 k2 ca0 ca1 cb0 cb1 ck0 ck1 ck2 xs ys k w) (hd : Drawn w w') : SD g a0 a1 b0 b1 k0 k1 k2 ca0 ca1 cb0 cb1 ck0 ck1 ck2 xs ys k w' := by obtain ⟨m, rfl⟩ := hd; exact ⟨h.h0, h.h1, h.h3, h.h4, h.h6, h.h7, h.h8, h.ra0, h.ra1, h.rb0, h.rb1, h.rk0, h.rk1, h.rk2⟩
end
set_option maxHeartbeats 800000 in
set_option maxRecDepth 100000 in
theorem sidesDel_any (g : Nat) (a0 a1 b0 b1 k0 k1 k2 : Addr) (ca0 ca1 cb0 cb1 ck0 ck1 ck2 : Nat) (xs ys : Tr) (k : Co) (w : World) (h : SD g a0 a1 b0 b1 k0 k1 k2 ca0 ca1 cb0 cb1 ck0 ck1 ck2 xs ys k w) (hx : Tr.ok xs = true) (hk : Co.ok k = true) (x : Nat) (hxl : x < xs.length) :
    Calls Tryd.prog 62 #[.pointer (some ⟨g, 0, none⟩), .int .i64 x] w fun e w' => e = .returned (.int .i64 (Co.del k (Tr.xa xs x))) ∧ Drawn w w' := by
  obtain ⟨u, hu, e, c1⟩ := h.la0 hx hxl
  have c2 := h.rk0 u hu
  have Hv := Lib.hid (show Co.del k (Tr.xa xs x) = Zs.at k.d u by rw [e]; exact Co.del_at hk hu)
  have c3 := h.h0
  have c4 := h.h6
  have b1 : (0 : Int) ≤ (x : Int) := by omega
  have b2 : (x : Int) < (xs.length : Int) := by omega
  have b3 : (0 : Int) ≤ (u : Int) := by omega
  have b4 : (u : Int) < 6 := by omega
  clear h e hx hk
  go_enter Tryd.func62, Tryd.ntmps62
  go_wp2_with fail
  go_quiet (fail)
  go_wp2
  go_ret
  exact ⟨Kit.ret_int Hv.out.symm, (Drawn.refl _).drewN _⟩
set_option maxHeartbeats 800000 in
set_option maxRecDepth 100000 in
theorem sidesIns_any (g : Nat) (a0 a1 b0 b1 k0 k1 k2 : Addr) (ca0 ca1 cb0 cb1 ck0 ck1 ck2 : Nat) (xs ys : Tr) (k : Co) (w : World) (h : SD g a0 a1 b0 b1 k0 k1 k2 ca0 ca1 cb0 cb1 ck0 ck1 ck2 xs ys k w) (hy : Tr.ok ys = true) (hk : Co.ok k = true) (y : Nat) (hyl : y < ys.length) :
    Calls Tryd.prog 63 #[.pointer (some ⟨g, 0, none⟩), .int .i64 y] w fun e w' => e = .returned (.int .i64 (Co.ins k (Tr.xa ys y))) ∧ Drawn w w' := by
  obtain ⟨u, hu, e, c1⟩ := h.lb0 hy hyl
  have c2 := h.rk1 u hu
  have Hv := Lib.hid (show Co.ins k (Tr.xa ys y) = Zs.at k.i u by rw [e]; exact Co.ins_at hk hu)
  have c3 := h.h3
  have c4 := h.h7
  have b1 : (0 : Int) ≤ (y : Int) := by omega
  have b2 : (y : Int) < (ys.length : Int) := by omega
  have b3 : (0 : Int) ≤ (u : Int) := by omega
  have b4 : (u : Int) < 6 := by omega
  clear h e hy hk
  go_enter Tryd.func63, Tryd.ntmps63
  go_wp2_with fail
  go_quiet (fail)
  go_wp2
  go_ret
  exact ⟨Kit.ret_int Hv.out.symm, (Drawn.refl _).drewN _⟩
set_option maxHeartbeats 800000 in
set_option maxRecDepth 100000 in
theorem sidesRel_any (g : Nat) (a0 a1 b0 b1 k0 k1 k2 : Addr) (ca0 ca1 cb0 cb1 ck0 ck1 ck2 : Nat) (xs ys : Tr) (k : Co) (w : World) (h : SD g a0 a1 b0 b1 k0 k1 k2 ca0 ca1 cb0 cb1 ck0 ck1 ck2 xs ys k w) (hx : Tr.ok xs = true) (hy : Tr.ok ys = true) (hk : Co.ok k = true) (x y : Nat) (hxl : x < xs.length) (hyl : y < ys.length) :
    Calls Tryd.prog 33 #[.pointer (some ⟨g, 0, none⟩), .int .i64 x, .int .i64 y] w fun e w' => e = .returned (.int .i64 (Co.rel k (Tr.xa xs x) (Tr.xa ys y))) ∧ Drawn w w' := by
  obtain ⟨u, hu, e, c1⟩ := h.la0 hx hxl
  obtain ⟨v, hv, e', c1'⟩ := h.lb0 hy hyl
  obtain ⟨p, hp⟩ : ∃ p, p = u * 6 + v := ⟨_, rfl⟩
  have c2 := h.rk2 p (by omega)
  have Hv := Lib.hid (show Co.rel k (Tr.xa xs x) (Tr.xa ys y) = Zs.at k.r p by rw [e, e', hp]; exact Co.rel_at hk hu hv)
  have c3 := h.h0
  have c4 := h.h3
  have c5 := h.h8
  have a3 : (u : Int) * 6 + (v : Int) = (p : Int) := by omega
  have b1 : (0 : Int) ≤ (x : Int) := by omega
  have b2 : (x : Int) < (xs.length : Int) := by omega
  have b3 : (0 : Int) ≤ (p : Int) := by omega
  have b4 : (p : Int) < 36 := by omega
  have b5 : (0 : Int) ≤ (y : Int) := by omega
  have b6 : (y : Int) < (ys.length : Int) := by omega
  clear h e e' hx hy hk hp
  go_enter Tryd.func33, Tryd.ntmps33
  go_wp2_with fail
  go_quiet (first | (go_at_call 35; exact quiet_same ((relIndex_any _ _ _ (by omega) (by omega) (by omega) (by omega)).mono fun e w' ⟨h1, h2⟩ => ⟨by rw [h1, a3], h2⟩)))
  go_wp2
  go_ret
  exact ⟨Kit.ret_int Hv.out.symm, (Drawn.refl _).drewN _⟩

section
variable {B : Nat} {D : DtD} {xs ys : Tr} {k : Co} {F : Nat → Nat → Int} {T : List Int} {w : World}
theorem DT.sd (h : DT B D xs ys k F T w) (hx : Tr.ok xs = true) (hy : Tr.ok ys = true) : SD D.g D.a0 D.a1 D.b0 D.b1 D.k0 D.k1 D.k2 D.ca0 D.ca1 D.cb0 D.cb1 D.ck0 D.ck1 D.ck2 xs ys k w :=
  ⟨h.h0, h.h1, h.h3, h.h4, h.h6, h.h7, h.h8, h.ra0.at_, fun x hl => (h.ra1.at_ x hl).trans (by rw [Tr.la_up hx hl]), h.rb0.at_, fun y hl => (h.rb1.at_ y hl).trans (by rw [Tr.la_up hy hl]), h.rk0.at_, h.rk1.at_, h.rk2.at_⟩
theorem DT.la0 (h : DT B D xs ys k F T w) (hx : Tr.ok xs = true) {x : Nat} (hxl : x < xs.length) : ∃ u : Nat, u < 6 ∧ Tr.xa xs x = (u : Int) ∧ w.cell? (D.a0.add x) = some (.int .i64 (u : Int)) := by
  obtain ⟨u, hu, e⟩ := Tr.xa_lab hx hxl
  have := h.ra0.at_ x hxl
  exact ⟨u, hu, e, by rw [this, ← e]; rfl⟩
theorem DT.lb0 (h : DT B D xs ys k F T w) (hy : Tr.ok ys = true) {y : Nat} (hyl : y < ys.length) : ∃ u : Nat, u < 6 ∧ Tr.xa ys y = (u : Int) ∧ w.cell? (D.b0.add y) = some (.int .i64 (u : Int)) := by
  obtain ⟨u, hu, e⟩ := Tr.xa_lab hy hyl
  have := h.rb0.at_ y hyl
  exact ⟨u, hu, e, by rw [this, ← e]; rfl⟩
end
theorem distDel_any (B : Nat) (D : DtD) (xs ys : Tr) (k : Co) (F : Nat → Nat → Int) (T : List Int) (w : World) (h : DT B D xs ys k F T w) (hx : Tr.ok xs = true) (hy : Tr.ok ys = true) (hk : Co.ok k = true) (x : Nat) (hxl : x < xs.length) :
    Calls Tryd.prog 62 #[.pointer (some ⟨D.g, 0, none⟩), .int .i64 x] w fun e w' => e = .returned (.int .i64 (Co.del k (Tr.xa xs x))) ∧ Drawn w w' := sidesDel_any _ _ _ _ _ _ _ _ _ _ _ _ _ _ _ _ _ _ _ (h.sd hx hy) hx hk x hxl
theorem distIns_any (B : Nat) (D : DtD) (xs ys : Tr) (k : Co) (F : Nat → Nat → Int) (T : List Int) (w : World) (h : DT B D xs ys k F T w) (hx : Tr.ok xs = true) (hy : Tr.ok ys = true) (hk : Co.ok k = true) (y : Nat) (hyl : y < ys.length) :
    Calls Tryd.prog 63 #[.pointer (some ⟨D.g, 0, none⟩), .int .i64 y] w fun e w' => e = .returned (.int .i64 (Co.ins k (Tr.xa ys y))) ∧ Drawn w w' := sidesIns_any _ _ _ _ _ _ _ _ _ _ _ _ _ _ _ _ _ _ _ (h.sd hx hy) hy hk y hyl
theorem distRel_any (B : Nat) (D : DtD) (xs ys : Tr) (k : Co) (F : Nat → Nat → Int) (T : List Int) (w : World) (h : DT B D xs ys k F T w) (hx : Tr.ok xs = true) (hy : Tr.ok ys = true) (hk : Co.ok k = true) (x y : Nat) (hxl : x < xs.length) (hyl : y < ys.length) :
    Calls Tryd.prog 33 #[.pointer (some ⟨D.g, 0, none⟩), .int .i64 x, .int .i64 y] w fun e w' => e = .returned (.int .i64 (Co.rel k (Tr.xa xs x) (Tr.xa ys y))) ∧ Drawn w w' := sidesRel_any _ _ _ _ _ _ _ _ _ _ _ _ _ _ _ _ _ _ _ (h.sd hx hy) hx hy hk x y hxl hyl

end Go.Proofs.YtofpcedpmbecgaaDoor
