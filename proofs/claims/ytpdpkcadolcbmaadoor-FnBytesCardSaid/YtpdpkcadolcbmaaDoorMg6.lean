/- Texts of one claim laid into one file, in build order: NdSm, SameS, Tab, Codes, CodeI, SmI, SameCI, GetM, OwnB, GetTI, Three2, GetCI, GetCS, DecNum. -/
import Derived.Test.YtpdpkcadolcbmaaDoorMg5
import Derived.Below
import Derived.BigQuiet
import Derived.Deep.QuietTactic
import Derived.Deep.RegionHeld3
import Derived.Laws.ResultCell
import Derived.Lib.AtoiAll
import Derived.Lib.ItoaLen
import Derived.Lib.ItoaMem
import Derived.Lib.LaidTab
import Derived.Lib.Strings
import Derived.Outline
import Derived.StillTailTactics
import Derived.Test.YtpdpkcadolcbmaaDoorRows
/- Two lists of nodes that agree so far. -/
namespace Go.Proofs.YtpdpkcadolcbmaaDoor
open Go.RowKit
set_option linter.unusedVariables false

/-- the first k nodes agree -/
def Tr.same (xs ys : Tr) (k : Nat) : Prop := ∀ j, j < k → Tr.l xs j = Tr.l ys j ∧ Tr.d xs j = Tr.d ys j

end Go.Proofs.YtpdpkcadolcbmaaDoor

/- Contracts (SameS). -/
namespace Go.Proofs.YtpdpkcadolcbmaaDoor
open Go.RowKit
set_option linter.unusedVariables false

set_option maxHeartbeats 800000 in
set_option maxRecDepth 100000 in
theorem specSameTree_any (A A' : Option Addr) (n c n' c' : Nat) (xs ys : Tr) (w : World) (h : NdIn w w.heap.size A n xs) (hn : n ≤ 1048576) (h' : NdIn w w.heap.size A' n' ys) (hn' : n' ≤ 1048576) :
    Calls Tryd.prog 9 #[.slice A n c, .slice A' n' c'] w fun e w' => e = .returned (.bool (decide (xs = ys))) ∧ Drawn w w' := by
  have H := Lib.hid h
  have H' := Lib.hid h'
  clear h h'
  have HL := Lib.hid H.out.1
  have HL' := Lib.hid H'.out.1
  by_cases hnn : n = n'
  · go_enter Tryd.func9, Tryd.ntmps9
    have Hnn := Lib.hid hnn
    have hne : ((n : Int) != (n' : Int)) = false := by simp [hnn]
    clear hnn
    go_wp2
    go_loopw [5] (fun iv wr => ∃ k : Nat, k ≤ n ∧ iv = .int .i64 k ∧ Tr.same xs ys k ∧ Drawn w wr) (fun i _ => n - (intOf i).toNat)
    case atStart => exact ⟨0, by omega, rfl, fun j hj => absurd hj (by omega), Drawn.refl _⟩
    case round =>
      obtain ⟨k, hk, rfl, hsm, hD⟩ := hrel
      have Hsm := Lib.hid hsm
      clear hsm
      by_cases hlt : k < n
      · obtain ⟨ad, rfl, hb, hl, hd⟩ := (H.out.drawn hD).at_ hlt
        obtain ⟨ad', rfl, hb', hl', hd'⟩ := (H'.out.drawn hD).at_ (k := k) (by rw [← Hnn.out]; exact hlt)
        have hlt' : (k : Int) < (n' : Int) := by rw [← Hnn.out]; omega
        have hk0 : (0 : Int) ≤ (k : Int) := by omega
        by_cases hq1 : Tr.l xs k = Tr.l ys k
        · by_cases hq2 : Tr.d xs k = Tr.d ys k
          · have Hq := Lib.hid (And.intro hq1 hq2)
            have q1 : (Tr.l xs k == Tr.l ys k) = true := by simpa using hq1
            have q2 : (Tr.d xs k == Tr.d ys k) = true := by simpa using hq2
            clear hq1 hq2
            go_wp2
            go_quiet (fail)
            go_wp2
            go_roundw
            case rel => exact ⟨k + 1, by omega, by go_num, fun j hj => by
              rcases Nat.lt_succ_iff_lt_or_eq.1 hj with h' | rfl
              · exact Hsm.out j h'
              · exact Hq.out, hD.drewN _⟩
            case measure => simp [intOf]; omega
          · have Hq := Lib.hid hq2
            have q1 : (Tr.l xs k == Tr.l ys k) = true := by simpa using hq1
            have q2 : (Tr.d xs k == Tr.d ys k) = false := by simpa using hq2
            clear hq1 hq2
            go_wp2
            go_quiet (fail)
            go_wp2
            go_ret
            refine ⟨Kit.ret_bool ?_, hD.drewN _⟩
            symm
            rw [decide_eq_false_iff_not]
            rintro rfl
            exact Hq.out rfl
        · have Hq := Lib.hid hq1
          have q1 : (Tr.l xs k == Tr.l ys k) = false := by simpa using hq1
          clear hq1
          go_wp2
          go_quiet (fail)
          go_wp2
          go_ret
          refine ⟨Kit.ret_bool ?_, hD.drewN _⟩
          symm
          rw [decide_eq_false_iff_not]
          rintro rfl
          exact Hq.out rfl
      · obtain rfl : k = n := by omega
        go_wp2
        go_ret
        refine ⟨Kit.ret_bool ?_, hD⟩
        symm
        rw [decide_eq_true_eq]
        exact Tr.ext (by rw [HL.out, HL'.out]; exact Hnn.out) (fun j hj => Hsm.out j (by rw [← HL.out]; exact hj))
  · have hne : ((n : Int) != (n' : Int)) = true := by simp; omega
    have Hq := Lib.hid (show decide (xs = ys) = false by
      rw [decide_eq_false_iff_not]; rintro rfl; exact hnn (HL.out.symm.trans HL'.out))
    clear hnn
    go_enter Tryd.func9, Tryd.ntmps9
    go_wp2
    go_ret
    exact ⟨Kit.ret_bool Hq.out.symm, Drawn.refl _⟩

end Go.Proofs.YtpdpkcadolcbmaaDoor

/- A package-level table of strings: what a row's listed datum says of the variable's cells. Over any program. -/
namespace Go.Proofs.YtpdpkcadolcbmaaDoor.Tab
open Go.RowKit
set_option linter.unusedVariables false

/-- the table as a row lists it -/
def strsData {H : Type} (ss : List (List UInt8)) : DataW H := .agg (ss.map fun s => .lit (.string s))

/-- the variable NAME holds just these strings -/
def StrsAre (P : Program) (w : World) (name : String) (ss : List (List UInt8)) : Prop := w.var? P name = some (ss.map fun s => Value.string ⟨s.toArray⟩).toArray

theorem cells_of_strs {H : Type} {enc : TypeId × Value → H} {P : Program} {w : World} {base : Nat} {sp : Nat → Bool} {held : Bool} {fuel : Nat} {t e : TypeId} {n : Nat} {cs : List Value} {ss : List (List UInt8)} {p : List MemPlace}
    (ht : P.underlying t = some (.array n e)) (he : P.underlying e = some .string) (hce : P.cellsOf e = 1) (hct : P.cellsOf t = n)
    (h : DataW.trod enc P w base sp held fuel t cs = some (strsData ss, p)) : cs = ss.map fun s => Value.string ⟨s.toArray⟩ := by
  cases fuel with
  | zero => simp [DataW.trod] at h
  | succ fuel =>
    simp only [DataW.trod, ht, hce, hct, Nat.mul_one] at h
    split at h
    · rename_i hl
      obtain ⟨xs, hm, hx⟩ := Option.map_eq_some_iff.1 h
      have hxs : xs.map (·.1) = ss.map fun s => (DataW.lit (.string s) : DataW H) := by
        have := congrArg Prod.fst hx
        simpa [strsData] using this
      have hxl : xs.length = n := by simpa using Lib.mapM_length hm
      have hzl : ss.length = n := by
        have := congrArg List.length hxs
        simp at this
        omega
      apply List.ext_getElem?
      intro i
      by_cases hi : i < n
      · obtain ⟨b, hb, hf⟩ := Lib.mapM_at hm i i (by simp [hi])
        obtain ⟨z, hc, rfl, _⟩ := DataW.trod_string he hf
        have h1 : cs[i]? = some (.string z) := by
          have := congrArg (·[0]?) hc
          simpa [List.getElem?_take, List.getElem?_drop] using this
        have h2 : (xs.map (·.1))[i]? = some (DataW.lit (.string z.data.toList) : DataW H) := by simp [hb]
        rw [hxs] at h2
        simp only [List.getElem?_map, Option.map_eq_some_iff, DataW.lit.injEq, Lit.string.injEq] at h2
        obtain ⟨z', hz', rfl⟩ := h2
        simp [h1, hz']
      · rw [List.getElem?_eq_none (by omega), List.getElem?_eq_none (by simp; omega)]
    · cases h

/-- from the row's condition: the table stands first on the list -/
theorem strsAre_of_head {P : Program} {W : World} {name : String} {ss : List (List UInt8)} {rest : List (String × DataW Unit)} {g : Nat} {t e : TypeId} {n : Nat}
    (hg : P.globalNamed name = some g) (hty : (P.globals[g]?).map (·.type) = some t) (ht : P.underlying t = some (.array n e)) (he : P.underlying e = some .string) (hce : P.cellsOf e = 1) (hct : P.cellsOf t = n)
    (h : laidMet P ((name, strsData ss) :: rest) W) : StrsAre P W name ss := by
  obtain ⟨ps, ⟨g', t', cs, fuel, p, q, hg', ht', hvar, hd, _, _⟩, _⟩ := h
  obtain rfl := Option.some.inj (hg.symm.trans hg')
  obtain rfl := Option.some.inj (hty.symm.trans ht')
  unfold StrsAre
  rw [hvar, ← cells_of_strs ht he hce hct hd]

/-- what a walk reads at index i of the table -/
theorem StrsAre.cell {P : Program} {W : World} {name : String} {ss : List (List UInt8)} {g : Nat} (h : StrsAre P W name ss) (hg : P.globalNamed name = some g) (i : Nat) (hi : i < ss.length) :
    W.cell? ⟨g, i, none⟩ = some (.string ⟨(ss.getD i []).toArray⟩) := by
  have := World.var?_cell hg h i
  simpa [List.getD, hi] using this

theorem StrsAre.below {P : Program} {w w' : World} {name : String} {ss : List (List UInt8)} (h : StrsAre P w name ss) (hb : Below w.heap.size w w') : StrsAre P w' name ss := by
  unfold StrsAre World.var? at *
  cases hg : P.globalNamed name with
  | none => simp [hg] at h
  | some g =>
    simp only [hg, Option.bind_some] at h ⊢
    have hlt : g < w.heap.size := by
      rcases Nat.lt_or_ge g w.heap.size with h' | h'
      · exact h'
      · rw [Array.getElem?_eq_none h'] at h; simp at h
    rw [hb.block g hlt]
    exact h

end Go.Proofs.YtpdpkcadolcbmaaDoor.Tab

/- Contracts (Codes). -/
namespace Go.Proofs.YtpdpkcadolcbmaaDoor
open Go.RowKit
set_option linter.unusedVariables false

def TrCode.bytes : List (List UInt8) := [[111, 107], [115, 104, 111, 114, 116], [115, 105, 122, 101], [108, 97, 98, 101, 108], [100, 101, 112, 116, 104], [115, 104, 97, 112, 101], [108, 101, 102, 116]]
/-- the name of a code -/
def TrCode.name (n : Int) : ByteArray := if 0 ≤ n ∧ n ≤ 6 then ⟨(TrCode.bytes.getD n.toNat []).toArray⟩ else ⟨#[]⟩
theorem TrCode.name_no {n : Int} (h : ¬ (0 ≤ n ∧ n ≤ 6)) : TrCode.name n = ⟨#[]⟩ := if_neg h

/-- the table of codes stands -/
def HasCodes (w : World) : Prop := Tab.StrsAre Tryd.prog w "loop.example/g01618/impl.treeCodes" TrCode.bytes
theorem HasCodes.below {w w' : World} (h : HasCodes w) (hb : Below w.heap.size w w') : HasCodes w' := Tab.StrsAre.below h hb

theorem gCodes : Tryd.prog.globalNamed "loop.example/g01618/impl.treeCodes" = some 0 := by kernel_rfl
theorem gCodesType : (Tryd.prog.globals[0]?).map (·.type) = some 55 := by kernel_rfl
theorem cellsCodes : Tryd.prog.cellsOf 55 = 7 := by kernel_rfl
theorem cellsCode : Tryd.prog.cellsOf 9 = 1 := by kernel_rfl
theorem codesData : (Rows.laid_loop_example_g01618_impl_treeCodes : DataW Unit) = Tab.strsData TrCode.bytes := by kernel_rfl
theorem hasCodes {w : World} {rest : List (String × DataW Unit)} (h : laidMet Tryd.prog (("loop.example/g01618/impl.treeCodes", Rows.laid_loop_example_g01618_impl_treeCodes) :: rest) w) : HasCodes w := by
  rw [codesData] at h
  exact Tab.strsAre_of_head gCodes gCodesType Tryd.underlying55 Tryd.underlying9 cellsCode cellsCodes h
/-- the seven cells -/
theorem HasCodes.cell {w : World} (h : HasCodes w) (i : Nat) (hi : i < 7) : w.cell? ⟨0, i, none⟩ = some (.string (TrCode.name i)) := by
  have e := Tab.StrsAre.cell h gCodes i hi
  rw [e]
  have h : i = 0 ∨ i = 1 ∨ i = 2 ∨ i = 3 ∨ i = 4 ∨ i = 5 ∨ i = 6 := by omega
  rcases h with rfl | rfl | rfl | rfl | rfl | rfl | rfl <;> rfl

end Go.Proofs.YtpdpkcadolcbmaaDoor

/- Contracts (CodeI). -/
namespace Go.Proofs.YtpdpkcadolcbmaaDoor
open Go.RowKit
set_option linter.unusedVariables false

set_option maxHeartbeats 400000 in
theorem implTreeCode_any (n : Int) (w : World) (ht : HasCodes w) :
    Calls Tryd.prog 12 #[.int .i64 n] w fun e w' => e = .returned (.string (TrCode.name n)) ∧ w = w' := by
  by_cases h0 : n < 0
  · have hf := TrCode.name_no (n := n) (by omega)
    have e0 : decide (n < 0) = true := by simpa using h0
    clear ht h0
    go_enter Tryd.func12, Tryd.ntmps12
    go_wp2
    go_ret
    exact ⟨by rw [hf]; rfl, rfl⟩
  · have e0 : decide (n < 0) = false := by simpa using h0
    by_cases h1 : 6 < n
    · have hf := TrCode.name_no (n := n) (by omega)
      have e1 : decide (6 < n) = true := by simpa using h1
      clear ht h0 h1
      go_enter Tryd.func12, Tryd.ntmps12
      go_wp2
      go_ret
      exact ⟨by rw [hf]; rfl, rfl⟩
    · have e1 : decide (6 < n) = false := by simpa using h1
      obtain ⟨m, rfl⟩ := Int.eq_ofNat_of_zero_le (show 0 ≤ n by omega)
      have hcell := ht.cell m (by omega)
      have hm : m < 7 := by omega
      clear ht h0 h1
      go_enter Tryd.func12, Tryd.ntmps12
      go_wp2
      go_ret
      exact ⟨rfl, rfl⟩

end Go.Proofs.YtpdpkcadolcbmaaDoor

/- Contracts (SmI). -/
namespace Go.Proofs.YtpdpkcadolcbmaaDoor
open Go.RowKit
set_option linter.unusedVariables false

set_option maxHeartbeats 800000 in
set_option maxRecDepth 100000 in
theorem slEqI_any (A A' : Option Addr) (n c n' c' : Nat) (xs ys : List Int) (w : World) (h : IntIn w w.heap.size A n xs) (h' : IntIn w w.heap.size A' n' ys) (hn : n ≤ 1048576) (hn' : n' ≤ 1048576) :
    Calls Tryd.prog 41 #[.slice A n c, .slice A' n' c'] w fun e w' => e = .returned (.bool (decide (xs = ys))) ∧ Drawn w w' := by
  have H := Lib.hid h
  have H' := Lib.hid h'
  clear h h'
  have HL := Lib.hid H.out.1
  have HL' := Lib.hid H'.out.1
  by_cases hnn : n = n'
  · go_enter Tryd.func41, Tryd.ntmps41
    have Hnn := Lib.hid hnn
    have hne : ((n : Int) != (n' : Int)) = false := by simp [hnn]
    clear hnn
    go_wp2
    go_loopw [13] (fun iv wr => ∃ k : Nat, k ≤ n ∧ iv = .int .i64 k ∧ (∀ j, j < k → Zs.at xs j = Zs.at ys j) ∧ Drawn w wr) (fun i _ => n - (intOf i).toNat)
    case atStart => exact ⟨0, by omega, rfl, fun j hj => absurd hj (by omega), Drawn.refl _⟩
    case round =>
      obtain ⟨k, hk, rfl, hsm, hD⟩ := hrel
      have Hsm := Lib.hid hsm
      clear hsm
      by_cases hlt : k < n
      · obtain ⟨ad, rfl, hb, hl⟩ := (H.out.drawn hD).at_ hlt
        obtain ⟨ad', rfl, hb', hl'⟩ := (H'.out.drawn hD).at_ (k := k) (by rw [← Hnn.out]; exact hlt)
        have hlt' : (k : Int) < (n' : Int) := by rw [← Hnn.out]; omega
        have hk0 : (0 : Int) ≤ (k : Int) := by omega
        by_cases hq1 : Zs.at xs k = Zs.at ys k
        · have Hq := Lib.hid hq1
          have q1 : (Zs.at xs k != Zs.at ys k) = false := by simpa using hq1
          clear hq1
          go_wp2
          go_quiet (fail)
          go_wp2
          go_roundw
          case rel => exact ⟨k + 1, by omega, by go_num, fun j hj => by
            rcases Nat.lt_succ_iff_lt_or_eq.1 hj with h' | rfl
            · exact Hsm.out j h'
            · exact Hq.out, hD.drewN _⟩
          case measure => simp [intOf]; omega
        · have Hq := Lib.hid hq1
          have q1 : (Zs.at xs k != Zs.at ys k) = true := by simpa using hq1
          clear hq1
          go_wp2
          go_quiet (fail)
          go_wp2
          go_ret
          refine ⟨Kit.ret_bool ?_, hD.drewN _⟩
          symm
          rw [decide_eq_false_iff_not]
          rintro rfl
          exact Hq.out rfl
      · obtain rfl : k = n := by omega
        go_wp2
        go_ret
        refine ⟨Kit.ret_bool ?_, hD⟩
        symm
        rw [decide_eq_true_eq]
        exact Zs.ext (by rw [HL.out, HL'.out]; exact Hnn.out) (fun j hj => Hsm.out j (by rw [← HL.out]; exact hj))
  · have hne : ((n : Int) != (n' : Int)) = true := by simp; omega
    have Hq := Lib.hid (show decide (xs = ys) = false by
      rw [decide_eq_false_iff_not]; rintro rfl; exact hnn (HL.out.symm.trans HL'.out))
    clear hnn
    go_enter Tryd.func41, Tryd.ntmps41
    go_wp2
    go_ret
    exact ⟨Kit.ret_bool Hq.out.symm, Drawn.refl _⟩

end Go.Proofs.YtpdpkcadolcbmaaDoor

/- Contracts (SameCI). -/
namespace Go.Proofs.YtpdpkcadolcbmaaDoor
open Go.RowKit
set_option linter.unusedVariables false

set_option maxHeartbeats 1600000 in
set_option maxRecDepth 100000 in
theorem implSameCost_any (A0 A1 A2 B0 B1 B2 : Option Addr) (n0 n1 n2 c0 c1 c2 m0 m1 m2 d0 d1 d2 : Nat) (k l : Co) (w : World) (h : CoIn w w.heap.size A0 A1 A2 n0 n1 n2 k) (h' : CoIn w w.heap.size B0 B1 B2 m0 m1 m2 l)
    (h0 : n0 ≤ 1048576) (h1 : n1 ≤ 1048576) (h2 : n2 ≤ 1048576) (l0 : m0 ≤ 1048576) (l1 : m1 ≤ 1048576) (l2 : m2 ≤ 1048576) :
    Calls Tryd.prog 20 #[.agg #[.slice A0 n0 c0, .slice A1 n1 c1, .slice A2 n2 c2], .agg #[.slice B0 m0 d0, .slice B1 m1 d1, .slice B2 m2 d2]] w fun e w' => e = .returned (.bool (Co.same k l)) ∧ Below w.heap.size w w' := by
  have H := Lib.hid h
  have H' := Lib.hid h'
  clear h h'
  obtain ⟨o1, ho1⟩ : ∃ o, o = Obj.cells #[.slice A0 n0 c0, .slice A1 n1 c1, .slice A2 n2 c2] 35 := ⟨_, rfl⟩
  obtain ⟨o2, ho2⟩ : ∃ o, o = Obj.cells #[.slice B0 m0 d0, .slice B1 m1 d1, .slice B2 m2 d2] 35 := ⟨_, rfl⟩
  have hba := (Below.refl w.heap.size w).alloc (Nat.le_refl _) o1
  have HB := Lib.hid (hba.alloc hba.size o2)
  have hlt : w.heap.size < (w.alloc o1).heap.size := by simp
  have GA := Lib.hid ((show Box3 (w.alloc o1) w.heap.size (.slice A0 n0 c0) (.slice A1 n1 c1) (.slice A2 n2 c2) by rw [ho1]; exact Box3.made _ _ _ _ _).alloc hlt o2)
  have GB := Lib.hid (show Box3 ((w.alloc o1).alloc o2) (w.alloc o1).heap.size (.slice B0 m0 d0) (.slice B1 m1 d1) (.slice B2 m2 d2) by rw [ho2]; exact Box3.made _ _ _ _ _)
  have hs1 : (w.alloc o1).heap.size = w.heap.size + 1 := by simp
  rw [hs1] at GB
  clear hba hlt hs1
  subst ho1
  subst ho2
  have HA := Lib.hid (H.out.to_below HB.out)
  have HA' := Lib.hid (H'.out.to_below HB.out)
  cases e0 : decide (k.d = l.d) with
  | false =>
    have Hf := Lib.hid (show Co.same k l = false by unfold Co.same; rw [e0]; rfl)
    have E0 := Lib.hid e0
    clear e0
    go_enter Tryd.func20, Tryd.ntmps20
    obtain ⟨g0, g1, g2⟩ := GA.out
    obtain ⟨g3, g4, g5⟩ := GB.out
    go_wp2_with fail
    clear g0 g1 g2 g3 g4 g5
    refine (slEqI_any _ _ _ _ _ _ k.d l.d _ HA.out.1 HA'.out.1 h0 l0).mono ?_
    rintro e w1 ⟨rfl, hd⟩
    have HB := Lib.hid (Drawn.below HB.out hd)
    have HA := Lib.hid (HA.out.to_drawn hd)
    have HA' := Lib.hid (HA'.out.to_drawn hd)
    have GA := Lib.hid (GA.out.drawn hd)
    have GB := Lib.hid (GB.out.drawn hd)
    clear hd
    rw [E0.out]
    go_wp2
    go_ret
    exact ⟨Kit.ret_bool Hf.out.symm, HB.out⟩
  | true =>
    cases e1 : decide (k.i = l.i) with
    | false =>
      have Hf := Lib.hid (show Co.same k l = false by unfold Co.same; rw [e0, e1]; rfl)
      have E0 := Lib.hid e0
      have E1 := Lib.hid e1
      clear e0 e1
      go_enter Tryd.func20, Tryd.ntmps20
      obtain ⟨g0, g1, g2⟩ := GA.out
      obtain ⟨g3, g4, g5⟩ := GB.out
      go_wp2_with fail
      clear g0 g1 g2 g3 g4 g5
      refine (slEqI_any _ _ _ _ _ _ k.d l.d _ HA.out.1 HA'.out.1 h0 l0).mono ?_
      rintro e w1 ⟨rfl, hd⟩
      have HB := Lib.hid (Drawn.below HB.out hd)
      have HA := Lib.hid (HA.out.to_drawn hd)
      have HA' := Lib.hid (HA'.out.to_drawn hd)
      have GA := Lib.hid (GA.out.drawn hd)
      have GB := Lib.hid (GB.out.drawn hd)
      clear hd
      rw [E0.out]
      obtain ⟨g0, g1, g2⟩ := GA.out
      obtain ⟨g3, g4, g5⟩ := GB.out
      go_wp2_with fail
      clear g0 g1 g2 g3 g4 g5
      refine (slEqI_any _ _ _ _ _ _ k.i l.i _ HA.out.2.1 HA'.out.2.1 h1 l1).mono ?_
      rintro e w2 ⟨rfl, hd⟩
      have HB := Lib.hid (Drawn.below HB.out hd)
      have HA := Lib.hid (HA.out.to_drawn hd)
      have HA' := Lib.hid (HA'.out.to_drawn hd)
      have GA := Lib.hid (GA.out.drawn hd)
      have GB := Lib.hid (GB.out.drawn hd)
      clear hd
      rw [E1.out]
      go_wp2
      go_ret
      exact ⟨Kit.ret_bool Hf.out.symm, HB.out⟩
    | true =>
      have Hf := Lib.hid (show Co.same k l = decide (k.r = l.r) by unfold Co.same; rw [e0, e1]; rfl)
      have E0 := Lib.hid e0
      have E1 := Lib.hid e1
      have E2 := Lib.hid (show decide (k.r = l.r) = Co.same k l from Hf.out.symm)
      clear e0 e1
      go_enter Tryd.func20, Tryd.ntmps20
      obtain ⟨g0, g1, g2⟩ := GA.out
      obtain ⟨g3, g4, g5⟩ := GB.out
      go_wp2_with fail
      clear g0 g1 g2 g3 g4 g5
      refine (slEqI_any _ _ _ _ _ _ k.d l.d _ HA.out.1 HA'.out.1 h0 l0).mono ?_
      rintro e w1 ⟨rfl, hd⟩
      have HB := Lib.hid (Drawn.below HB.out hd)
      have HA := Lib.hid (HA.out.to_drawn hd)
      have HA' := Lib.hid (HA'.out.to_drawn hd)
      have GA := Lib.hid (GA.out.drawn hd)
      have GB := Lib.hid (GB.out.drawn hd)
      clear hd
      rw [E0.out]
      obtain ⟨g0, g1, g2⟩ := GA.out
      obtain ⟨g3, g4, g5⟩ := GB.out
      go_wp2_with fail
      clear g0 g1 g2 g3 g4 g5
      refine (slEqI_any _ _ _ _ _ _ k.i l.i _ HA.out.2.1 HA'.out.2.1 h1 l1).mono ?_
      rintro e w2 ⟨rfl, hd⟩
      have HB := Lib.hid (Drawn.below HB.out hd)
      have HA := Lib.hid (HA.out.to_drawn hd)
      have HA' := Lib.hid (HA'.out.to_drawn hd)
      have GA := Lib.hid (GA.out.drawn hd)
      have GB := Lib.hid (GB.out.drawn hd)
      clear hd
      rw [E1.out]
      obtain ⟨g0, g1, g2⟩ := GA.out
      obtain ⟨g3, g4, g5⟩ := GB.out
      go_wp2_with fail
      clear g0 g1 g2 g3 g4 g5
      refine (slEqI_any _ _ _ _ _ _ k.r l.r _ HA.out.2.2 HA'.out.2.2 h2 l2).mono ?_
      rintro e w3 ⟨rfl, hd⟩
      have HB := Lib.hid (Drawn.below HB.out hd)
      have HA := Lib.hid (HA.out.to_drawn hd)
      have HA' := Lib.hid (HA'.out.to_drawn hd)
      have GA := Lib.hid (GA.out.drawn hd)
      have GB := Lib.hid (GB.out.drawn hd)
      clear hd
      rw [E2.out]
      go_wp2
      go_ret
      exact ⟨rfl, HB.out⟩

end Go.Proofs.YtpdpkcadolcbmaaDoor

/- Contracts (GetM). -/
namespace Go.Proofs.YtpdpkcadolcbmaaDoor
open Go.RowKit
set_option linter.unusedVariables false

/-- up to n numbers at the head of t, and what follows them; it stops where none begins -/
def Zs.getTo : Nat → ByteArray → List Int × ByteArray
  | 0, t => ([], t)
  | n + 1, t => if Num.rvK t = 0 then ([], t) else ((Num.rvN t : Int) :: (Zs.getTo n (Num.rest t (Num.rvK t))).1, (Zs.getTo n (Num.rest t (Num.rvK t))).2)
theorem Zs.getTo_no {t : ByteArray} (h : Num.rvK t = 0) (n : Nat) : Zs.getTo n t = ([], t) := by
  cases n with
  | zero => rfl
  | succ n => unfold Zs.getTo; rw [if_pos h]
theorem Zs.getTo_yes {t : ByteArray} (h : ¬ Num.rvK t = 0) (n : Nat) : Zs.getTo (n + 1) t = ((Num.rvN t : Int) :: (Zs.getTo n (Num.rest t (Num.rvK t))).1, (Zs.getTo n (Num.rest t (Num.rvK t))).2) := by
  show (if _ then _ else _) = _
  rw [if_neg h]
theorem Zs.getTo_len (n : Nat) (t : ByteArray) : (Zs.getTo n t).1.length ≤ n := by
  induction n generalizing t with
  | zero => exact Nat.le_refl 0
  | succ n ih =>
    by_cases h : Num.rvK t = 0
    · rw [Zs.getTo_no h]; simp
    · rw [Zs.getTo_yes h]
      have := ih (Num.rest t (Num.rvK t))
      simp; omega
theorem Zs.getTo_size (n : Nat) (t : ByteArray) : (Zs.getTo n t).2.size ≤ t.size := by
  induction n generalizing t with
  | zero => exact Nat.le_refl _
  | succ n ih =>
    by_cases h : Num.rvK t = 0
    · rw [Zs.getTo_no h]; exact Nat.le_refl _
    · rw [Zs.getTo_yes h]
      have := ih (Num.rest t (Num.rvK t))
      rw [Num.rest_size] at this
      simp only
      omega
theorem Zs.getTo_add (a b : Nat) (t : ByteArray) : Zs.getTo (a + b) t = ((Zs.getTo a t).1 ++ (Zs.getTo b (Zs.getTo a t).2).1, (Zs.getTo b (Zs.getTo a t).2).2) := by
  induction a generalizing t with
  | zero => simp [Zs.getTo]
  | succ a ih =>
    by_cases h : Num.rvK t = 0
    · rw [Zs.getTo_no h, Zs.getTo_no h, Zs.getTo_no h]; rfl
    · rw [show a + 1 + b = a + b + 1 by omega, Zs.getTo_yes h, Zs.getTo_yes h, ih]
      rfl
def Co.read (s : ByteArray) : Co × ByteArray :=
  (⟨(Zs.getTo 6 s).1, (Zs.getTo 6 (Zs.getTo 6 s).2).1, (Zs.getTo 36 (Zs.getTo 6 (Zs.getTo 6 s).2).2).1⟩, (Zs.getTo 36 (Zs.getTo 6 (Zs.getTo 6 s).2).2).2)
def Co.none : Co := ⟨[], [], []⟩
def Co.get (s : ByteArray) : Co × Bool := if (Co.read s).2.size = 0 ∧ Co.ok (Co.read s).1 = true then ((Co.read s).1, true) else (Co.none, false)
theorem Co.get_yes {s : ByteArray} (h0 : (Co.read s).2.size = 0) (h1 : Co.ok (Co.read s).1 = true) : Co.get s = ((Co.read s).1, true) := by unfold Co.get; rw [if_pos ⟨h0, h1⟩]
theorem Co.get_left {s : ByteArray} (h0 : ¬ (Co.read s).2.size = 0) : Co.get s = (Co.none, false) := by unfold Co.get; rw [if_neg (fun e => h0 e.1)]
theorem Co.get_bad {s : ByteArray} (h1 : Co.ok (Co.read s).1 = false) : Co.get s = (Co.none, false) := by unfold Co.get; rw [if_neg (fun e => by rw [h1] at e; exact absurd e.2 (by decide))]
theorem Co.read_lens (s : ByteArray) : (Co.read s).1.d.length ≤ 6 ∧ (Co.read s).1.i.length ≤ 6 ∧ (Co.read s).1.r.length ≤ 36 := by
  unfold Co.read
  generalize hq : Zs.getTo 6 s = q
  generalize hp : Zs.getTo 6 q.2 = p
  generalize ho : Zs.getTo 36 p.2 = o
  have h1 := Zs.getTo_len 6 s
  have h2 := Zs.getTo_len 6 q.2
  have h3 := Zs.getTo_len 36 p.2
  rw [hq] at h1
  rw [hp] at h2
  rw [ho] at h3
  exact ⟨h1, h2, h3⟩
theorem Co.get_len (s : ByteArray) : (Co.get s).1.d.length ≤ 36 ∧ (Co.get s).1.i.length ≤ 36 ∧ (Co.get s).1.r.length ≤ 36 := by
  have h := Co.read_lens s
  unfold Co.get
  generalize Co.read s = q at h ⊢
  split
  · exact ⟨Nat.le_trans h.1 (by decide), Nat.le_trans h.2.1 (by decide), h.2.2⟩
  · exact ⟨Nat.zero_le _, Nat.zero_le _, Nat.zero_le _⟩
theorem Co.read_all (s : ByteArray) : Zs.getTo 48 s = (Co.all (Co.read s).1, (Co.read s).2) := by
  have e := Zs.getTo_add 6 42 s
  have e2 := Zs.getTo_add 6 36 (Zs.getTo 6 s).2
  unfold Co.read
  generalize Zs.getTo 6 s = q at e e2 ⊢
  generalize Zs.getTo 6 q.2 = p at e e2 ⊢
  generalize Zs.getTo 36 p.2 = o at e e2 ⊢
  have e3 : Zs.getTo 42 q.2 = (p.1 ++ o.1, o.2) := e2
  have e4 : Zs.getTo 48 s = (q.1 ++ (Zs.getTo 42 q.2).1, (Zs.getTo 42 q.2).2) := e
  rw [e4, e3]
  simp only [Co.all, List.append_assoc]
/-- too few numbers -/
theorem Co.get_few {s : ByteArray} (h : (Zs.getTo 48 s).1.length ≠ 48) : Co.get s = (Co.none, false) := by
  cases h1 : Co.ok (Co.read s).1 with
  | false => exact Co.get_bad h1
  | true =>
    have hl := Co.ok_len h1
    rw [Co.read_all] at h
    simp only [Co.all, List.length_append] at h
    omega
/-- all numbers: where the three tables lie -/
theorem Co.read_cut {s : ByteArray} {L : List Int} {r : ByteArray} (h : Zs.getTo 48 s = (L, r)) (hl : L.length = 48) : Co.read s = (⟨L.take 6, (L.take 12).drop 6, L.drop 12⟩, r) := by
  have ha := Co.read_all s
  rw [h] at ha
  obtain ⟨hd, hi, hr⟩ := Co.read_lens s
  rcases hq : Co.read s with ⟨⟨d, i, e⟩, q⟩
  rw [hq] at ha hd hi hr
  simp only [Co.all, Prod.mk.injEq] at ha hd hi hr
  obtain ⟨h1, h2⟩ := ha
  have hs : d.length + i.length + e.length = 48 := by rw [← hl, h1]; simp only [List.length_append]
  have l0 : d.length = 6 := by omega
  have l1 : i.length = 6 := by omega
  have x0 : L.take 6 = d := by
    rw [h1, List.append_assoc, List.take_append_of_le_length (by omega)]
    exact List.take_of_length_le (by omega)
  have x2 : L.drop 12 = e := by
    rw [h1, List.drop_append, List.drop_of_length_le (by rw [List.length_append]; omega), List.length_append]
    simp [l0, l1]
  have x1 : (L.take 12).drop 6 = i := by
    rw [h1, List.take_append_of_le_length (by rw [List.length_append]; omega), List.take_of_length_le (by rw [List.length_append]; omega), List.drop_append, List.drop_of_length_le (by omega), l0]
    simp
  rw [x0, x1, x2, h2]

end Go.Proofs.YtpdpkcadolcbmaaDoor

/- Contracts (OwnB). -/
namespace Go.Proofs.YtpdpkcadolcbmaaDoor
open Go.RowKit
set_option linter.unusedVariables false

/-- the answer is a cost of the call's own and a Bool -/
def OwnCoB (r : Co × Bool) (w : World) (e : Ending) (w' : World) : Prop :=
  ∃ A0 A1 A2 c0 c1 c2, e = .returned (.tuple #[.agg #[.slice A0 r.1.d.length c0, .slice A1 r.1.i.length c1, .slice A2 r.1.r.length c2], .bool r.2]) ∧ OwnC w' w.heap.size A0 A1 A2 c0 c1 c2 r.1 ∧ Below w.heap.size w w'
theorem OwnC.nil (w : World) (base : Nat) : OwnC w base none none none 0 0 0 Co.none := ⟨own_nil, own_nil, own_nil, .inl rfl, .inl rfl, .inl rfl⟩

end Go.Proofs.YtpdpkcadolcbmaaDoor

/- Contracts (GetTI). -/
namespace Go.Proofs.YtpdpkcadolcbmaaDoor
open Go.RowKit
set_option linter.unusedVariables false

theorem info_intG : (Tryd.prog.info? 3).map (fun i => (i.zero, i.size, i.bytes)) = some (some (.int .i64 0), 1, 8) := by kernel_rfl
set_option maxHeartbeats 1600000 in
set_option maxRecDepth 100000 in
theorem getTable_any (s : ByteArray) (hs : s.size ≤ maxLen) (m : Nat) (hm : m ≤ 1000) (w : World) :
    Calls Tryd.prog 32 #[.string s, .int .i64 m] w fun e w' => ∃ A c, e = .returned (.tuple #[.slice A (Zs.getTo m s).1.length c, .string (Zs.getTo m s).2]) ∧ w'.ownsRow w.heap.size 3 1 (.slice A (Zs.getTo m s).1.length c) (Zs.getTo m s).1.length (ints (Zs.getTo m s).1) ∧ Below w.heap.size w w' := by
  obtain ⟨i0, hi, hz0, hz1, hz2⟩ := info_parts info_intG
  have Hi := Lib.hid hi
  clear hi
  obtain ⟨G, hG⟩ : ∃ G, G = Zs.getTo m s := ⟨_, rfl⟩
  rw [← hG]
  have HG := Lib.hid hG
  clear hG
  have Hs := Lib.hid hs
  clear hs
  go_enter Tryd.func32, Tryd.ntmps32
  go_wp2
  go_loopw [10, 6, 0] (fun iv tv sv wr => ∃ (k : Nat) (acc : List Int) (t : ByteArray), k ≤ m ∧ iv = .int .i64 k ∧ acc.length = k ∧ wr.ownsRow w.heap.size 3 1 tv k (ints acc) ∧ sv = .string t ∧ t.size ≤ maxLen ∧ G = (acc ++ (Zs.getTo (m - k) t).1, (Zs.getTo (m - k) t).2) ∧ Below w.heap.size w wr) (fun i _ _ _ => m - (intOf i).toNat)
  case atStart => exact ⟨0, [], s, Nat.zero_le _, rfl, rfl, own_nil, rfl, Hs.out, HG.out, Below.refl _ _⟩
  case round =>
    clear Hs
    obtain ⟨k, acc, t, hk, rfl, hlen, hown, rfl, ht, hI, hB⟩ := hrel
    have HL := Lib.hid hlen
    have Ho := Lib.hid hown
    have HT := Lib.hid ht
    have HI := Lib.hid hI
    have HB := Lib.hid hB
    clear hlen hown ht hI hB
    obtain ⟨A', c', rfl⟩ := own_slice Ho.out
    by_cases hlt : k < m
    · by_cases h1 : Num.rvK t = 0
      · have HR := Lib.hid (show G = (acc, t) by rw [HI.out, Zs.getTo_no h1]; simp)
        have e0 : ((Num.rvK t : Int) == 0) = true := by rw [h1]; rfl
        clear h1
        go_wp2_with fail
        refine (implReadVar_any t HT.out _).mono ?_
        rintro e w2 ⟨rfl, hb⟩
        have Ho := Lib.hid (own_below Ho.out hb)
        have HB := Lib.hid (HB.out.trans (hb.mono HB.out.size))
        clear hb
        go_wp2
        go_ret2
        refine ⟨A', c', ?_, ?_, HB.out⟩
        · rw [HR.out, HL.out]; rfl
        · rw [HR.out, HL.out]; exact Ho.out
      · have hkl := Num.rvK_le t
        have HN := Lib.hid (show G = ((acc ++ [(Num.rvN t : Int)]) ++ (Zs.getTo (m - (k + 1)) (Num.rest t (Num.rvK t))).1, (Zs.getTo (m - (k + 1)) (Num.rest t (Num.rvK t))).2) by
          rw [HI.out, show m - k = (m - (k + 1)) + 1 by omega, Zs.getTo_yes h1]; simp)
        have HTR := Lib.hid (show (Num.rest t (Num.rvK t)).size ≤ maxLen by rw [Num.rest_size]; have := HT.out; omega)
        have e0 : ((Num.rvK t : Int) == 0) = false := beq_eq_false_iff_ne.2 (by omega)
        have hkt : Num.rvK t ≤ t.size := hkl.2
        have htm : t.size ≤ 9223372036854775807 := HT.out
        clear h1 hkl
        go_wp2_with fail
        refine (implReadVar_any t HT.out _).mono ?_
        rintro e w2 ⟨rfl, hb⟩
        have Ho := Lib.hid (own_below Ho.out hb)
        have HB := Lib.hid (HB.out.trans (hb.mono HB.out.size))
        clear hb
        have hsx := HB.out.size
        go_wp2_with (at_builtin; go_loud (refine append_int w2 rfl _ _ 33 rfl w.heap.size 3 i0 Tryd.underlying33 Hi.out hz0 hz1 hz2 (.slice A' k c') k acc rfl Ho.out HL.out.symm (Num.rvN t : Int) rfl (by rw [HL.out]; omega) hsx ?_); intro v' w3 hown hgrow)
        rw [List.length_append, HL.out] at hown
        have Ho' := Lib.hid hown
        have HB' := Lib.hid ((HB.out.alloc hsx (.cells #[.int .i64 (Num.rvN t : Int)] 3)).grown hgrow (by simp; omega) (fun b hb => (Ho.out.lt b hb).1))
        clear hown hgrow
        go_wp2
        go_roundw
        case rel => exact ⟨k + 1, acc ++ [(Num.rvN t : Int)], Num.rest t (Num.rvK t), by omega, by go_num, by simp [HL.out], Ho'.out, rfl, HTR.out, HN.out, HB'.out⟩
        case measure => simp [intOf]; omega
    · obtain rfl : k = m := by omega
      have HR := Lib.hid (show G = (acc, t) by rw [HI.out, Nat.sub_self]; simp [Zs.getTo])
      go_wp2
      go_ret2
      refine ⟨A', c', ?_, ?_, HB.out⟩
      · rw [HR.out, HL.out]; rfl
      · rw [HR.out, HL.out]; exact Ho.out

end Go.Proofs.YtpdpkcadolcbmaaDoor

/- Contracts (Three2). -/
namespace Go.Proofs.YtpdpkcadolcbmaaDoor
open Go.RowKit
set_option linter.unusedVariables false

theorem Apart.of_new {v v' : Value} {w w' : World} {base size n n' : Nat} {e e' : TypeId} {ys ys' : List Value} (h : w.ownsRow base e size v n ys) (h' : w'.ownsRow w.heap.size e' size v' n' ys') : Apart v v' := by
  rcases hb : v.ownBlock with _ | g
  · exact .inl hb
  · refine .inr fun e => ?_
    have h1 := (h.lt g hb).2
    rw [hb] at e
    have h2 := (h'.lt g e.symm).1
    omega
theorem Three.put0 {w0 w w' : World} {g n0 n1 n2 n' : Nat} {L0 L1 L2 L' : List Int} {v0 v1 v2 v' : Value} (hg : w0.heap.size ≤ g) (h : ThreeAt w0 g n0 n1 n2 L0 L1 L2 v0 v1 v2 w)
    (hb : Below w.heap.size w w') (hown : w'.ownsRow w.heap.size 3 1 v' n' (ints L')) :
    ThreeAt w0 g n' n1 n2 L' L1 L2 v' v1 v2 (w'.setCell ⟨g, 0, none⟩ v') := by
  obtain ⟨hx, hf, o0, o1, o2, a01, a02, a12, hB, hgl⟩ := h
  have hgw : g < w'.heap.size := by have := hb.size; omega
  have hgs := Kit.grown_set w' g 0 v'
  have keep : ∀ {v : Value} {n : Nat} {ys : List Value}, w'.ownsRow (g + 1) 3 1 v n ys → (w'.setCell ⟨g, 0, none⟩ v').ownsRow (g + 1) 3 1 v n ys := fun k => own_grown k hgs (fun b hb => by injection hb with hb; omega)
  obtain ⟨b0, b1, b2⟩ := hx.below hb hgl
  refine ⟨⟨?_, ?_, ?_⟩, fun off => ?_, ?_, ?_, ?_, (Apart.of_new o1 hown).symm, (Apart.of_new o2 hown).symm, a12, (hB.trans (hb.mono hB.size)).setCell (by exact hg) _, by simpa using hgw⟩
  · exact World.cell?_setCell_same' _ _ _ (by rw [b0]; rfl)
  · rw [World.cell?_setCell_other _ _ _ _ (fun e => by injection e with e1 e2; omega)]; exact b1
  · rw [World.cell?_setCell_other _ _ _ _ (fun e => by injection e with e1 e2; omega)]; exact b2
  · rw [World.frozen?_setCell]
    have e := hb.block g hgl
    have := hf off
    unfold World.frozen? at this ⊢
    simp only [e]
    exact this
  · exact keep (own_base hown (by omega))
  · exact keep (own_below o1 hb)
  · exact keep (own_below o2 hb)
theorem Three.put1 {w0 w w' : World} {g n0 n1 n2 n' : Nat} {L0 L1 L2 L' : List Int} {v0 v1 v2 v' : Value} (hg : w0.heap.size ≤ g) (h : ThreeAt w0 g n0 n1 n2 L0 L1 L2 v0 v1 v2 w)
    (hb : Below w.heap.size w w') (hown : w'.ownsRow w.heap.size 3 1 v' n' (ints L')) :
    ThreeAt w0 g n0 n' n2 L0 L' L2 v0 v' v2 (w'.setCell ⟨g, 1, none⟩ v') := by
  obtain ⟨hx, hf, o0, o1, o2, a01, a02, a12, hB, hgl⟩ := h
  have hgw : g < w'.heap.size := by have := hb.size; omega
  have hgs := Kit.grown_set w' g 1 v'
  have keep : ∀ {v : Value} {n : Nat} {ys : List Value}, w'.ownsRow (g + 1) 3 1 v n ys → (w'.setCell ⟨g, 1, none⟩ v').ownsRow (g + 1) 3 1 v n ys := fun k => own_grown k hgs (fun b hb => by injection hb with hb; omega)
  obtain ⟨b0, b1, b2⟩ := hx.below hb hgl
  refine ⟨⟨?_, ?_, ?_⟩, fun off => ?_, ?_, ?_, ?_, (Apart.of_new o0 hown), a02, (Apart.of_new o2 hown).symm, (hB.trans (hb.mono hB.size)).setCell (by exact hg) _, by simpa using hgw⟩
  · rw [World.cell?_setCell_other _ _ _ _ (fun e => by injection e with e1 e2; omega)]; exact b0
  · exact World.cell?_setCell_same' _ _ _ (by rw [b1]; rfl)
  · rw [World.cell?_setCell_other _ _ _ _ (fun e => by injection e with e1 e2; omega)]; exact b2
  · rw [World.frozen?_setCell]
    have e := hb.block g hgl
    have := hf off
    unfold World.frozen? at this ⊢
    simp only [e]
    exact this
  · exact keep (own_below o0 hb)
  · exact keep (own_base hown (by omega))
  · exact keep (own_below o2 hb)
theorem Three.put2 {w0 w w' : World} {g n0 n1 n2 n' : Nat} {L0 L1 L2 L' : List Int} {v0 v1 v2 v' : Value} (hg : w0.heap.size ≤ g) (h : ThreeAt w0 g n0 n1 n2 L0 L1 L2 v0 v1 v2 w)
    (hb : Below w.heap.size w w') (hown : w'.ownsRow w.heap.size 3 1 v' n' (ints L')) :
    ThreeAt w0 g n0 n1 n' L0 L1 L' v0 v1 v' (w'.setCell ⟨g, 2, none⟩ v') := by
  obtain ⟨hx, hf, o0, o1, o2, a01, a02, a12, hB, hgl⟩ := h
  have hgw : g < w'.heap.size := by have := hb.size; omega
  have hgs := Kit.grown_set w' g 2 v'
  have keep : ∀ {v : Value} {n : Nat} {ys : List Value}, w'.ownsRow (g + 1) 3 1 v n ys → (w'.setCell ⟨g, 2, none⟩ v').ownsRow (g + 1) 3 1 v n ys := fun k => own_grown k hgs (fun b hb => by injection hb with hb; omega)
  obtain ⟨b0, b1, b2⟩ := hx.below hb hgl
  refine ⟨⟨?_, ?_, ?_⟩, fun off => ?_, ?_, ?_, ?_, a01, (Apart.of_new o0 hown), (Apart.of_new o1 hown), (hB.trans (hb.mono hB.size)).setCell (by exact hg) _, by simpa using hgw⟩
  · rw [World.cell?_setCell_other _ _ _ _ (fun e => by injection e with e1 e2; omega)]; exact b0
  · rw [World.cell?_setCell_other _ _ _ _ (fun e => by injection e with e1 e2; omega)]; exact b1
  · exact World.cell?_setCell_same' _ _ _ (by rw [b2]; rfl)
  · rw [World.frozen?_setCell]
    have e := hb.block g hgl
    have := hf off
    unfold World.frozen? at this ⊢
    simp only [e]
    exact this
  · exact keep (own_below o0 hb)
  · exact keep (own_below o1 hb)
  · exact keep (own_base hown (by omega))

end Go.Proofs.YtpdpkcadolcbmaaDoor

/- Contracts (GetCI). -/
namespace Go.Proofs.YtpdpkcadolcbmaaDoor
open Go.RowKit
set_option linter.unusedVariables false

set_option maxHeartbeats 1600000 in
set_option maxRecDepth 100000 in
theorem implGetCost_any (s : ByteArray) (hs : s.size ≤ maxLen) (w : World) :
    Calls Tryd.prog 14 #[.string s] w (OwnCoB (Co.get s) w) := by
  obtain ⟨q0, h0⟩ : ∃ q, q = Zs.getTo 6 s := ⟨_, rfl⟩
  obtain ⟨q1, h1⟩ : ∃ q, q = Zs.getTo 6 q0.2 := ⟨_, rfl⟩
  obtain ⟨q2, h2⟩ : ∃ q, q = Zs.getTo 36 q1.2 := ⟨_, rfl⟩
  have hR : Co.read s = (⟨q0.1, q1.1, q2.1⟩, q2.2) := by rw [h2, h1, h0]; rfl
  have s0 : q0.2.size ≤ maxLen := by rw [h0]; exact Nat.le_trans (Zs.getTo_size 6 s) hs
  have s1 : q1.2.size ≤ maxLen := by rw [h1]; exact Nat.le_trans (Zs.getTo_size 6 _) s0
  have l0 : q0.1.length ≤ 36 := by have := Zs.getTo_len 6 s; rw [← h0] at this; omega
  have l1 : q1.1.length ≤ 36 := by have := Zs.getTo_len 6 q0.2; rw [← h1] at this; omega
  have l2 : q2.1.length ≤ 36 := by have := Zs.getTo_len 36 q1.2; rw [← h2] at this; omega
  have T0 := Lib.hid fun w => getTable_any s hs 6 (by decide) w
  have T1 := Lib.hid fun w => getTable_any q0.2 s0 6 (by decide) w
  have T2 := Lib.hid fun w => getTable_any q1.2 s1 36 (by decide) w
  rw [← h0] at T0
  rw [← h1] at T1
  rw [← h2] at T2
  have HLN := Lib.hid (show q0.1.length ≤ 1048576 ∧ q1.1.length ≤ 1048576 ∧ q2.1.length ≤ 1048576 from ⟨by omega, by omega, by omega⟩)
  clear h0 h1 h2 s0 s1 l0 l1 l2 hs
  obtain ⟨q0, t0⟩ := q0
  obtain ⟨q1, t1⟩ := q1
  obtain ⟨q2, t2⟩ := q2
  simp only at T0 T1 T2 HLN hR
  have HR := Lib.hid hR
  obtain ⟨N0, e0⟩ : ∃ N, N = q0.length := ⟨_, rfl⟩
  obtain ⟨N1, e1⟩ : ∃ N, N = q1.length := ⟨_, rfl⟩
  obtain ⟨N2, e2⟩ : ∃ N, N = q2.length := ⟨_, rfl⟩
  rw [← e0] at T0
  rw [← e1] at T1
  rw [← e2] at T2
  rw [← e0, ← e1, ← e2] at HLN
  have HE := Lib.hid (And.intro e0 (And.intro e1 e2))
  clear hR e0 e1 e2
  obtain ⟨wz, hwz⟩ : ∃ wz, wz = w.alloc (.cells #[.slice none 0 0, .slice none 0 0, .slice none 0 0] 35) := ⟨_, rfl⟩
  have HX := Lib.hid (show Box3 wz w.heap.size (.slice none 0 0) (.slice none 0 0) (.slice none 0 0) by rw [hwz]; exact Box3.made _ _ _ _ _)
  have HF := Lib.hid (show ∀ off, wz.frozen? ⟨w.heap.size, off, none⟩ = false by rw [hwz]; exact fun off => by simp)
  have HB := Lib.hid (show Below w.heap.size w wz by rw [hwz]; exact (Below.refl _ _).alloc (Nat.le_refl _) _)
  have HS := Lib.hid (show wz.heap.size = w.heap.size + 1 by rw [hwz]; simp)
  go_enter Tryd.func14, Tryd.ntmps14
  go_wp2_with fail
  rw [← hwz]
  clear hwz
  refine (T0.out _).mono ?_
  rintro e w1 ⟨B0, d0, rfl, o0, b0⟩
  go_wp2_with fail
  refine (T1.out _).mono ?_
  rintro e w2 ⟨B1, d1, rfl, o1, b1⟩
  go_wp2_with fail
  refine (T2.out _).mono ?_
  rintro e w3 ⟨B2, d2, rfl, o2, b2⟩
  have z0 := b0.size
  have z1 := b1.size
  have z2 := b2.size
  have zs := HS.out
  have b03 : Below wz.heap.size wz w3 := b0.trans ((b1.mono (by omega)).trans (b2.mono (by omega)))
  obtain ⟨wc, hwc⟩ : ∃ wc, wc = w3.alloc (.cells #[.slice B0 N0 d0, .slice B1 N1 d1, .slice B2 N2 d2] 35) := ⟨_, rfl⟩
  have hbc : Below w3.heap.size w3 wc := by rw [hwc]; exact (Below.refl _ _).alloc (Nat.le_refl _) _
  have zc := hbc.size
  have hzc : wc.heap.size = w3.heap.size + 1 := by rw [hwc]; simp
  obtain ⟨g, eg⟩ : ∃ g, g = w3.heap.size := ⟨_, rfl⟩
  have HC := Lib.hid (show Box3 wc g (.slice B0 N0 d0) (.slice B1 N1 d1) (.slice B2 N2 d2) by rw [hwc, eg]; exact Box3.made _ _ _ _ _)
  have HO := Lib.hid (show OwnC wc (w.heap.size + 1) B0 B1 B2 d0 d1 d2 ⟨q0, q1, q2⟩ by
    unfold OwnC
    simp only
    rw [← HE.out.1, ← HE.out.2.1, ← HE.out.2.2]
    exact ⟨own_base (own_below (own_below (own_below o0 b1) b2) hbc) (by omega), own_base (own_below (own_below o1 b2) hbc) (by omega), own_base (own_below o2 hbc) (by omega), Apart.of_new o0 o1, Apart.of_new o0 (own_base o2 z1), Apart.of_new o1 o2⟩)
  have HX := Lib.hid (HX.out.below (b03.trans (hbc.mono (by omega))) (by omega))
  have HF := Lib.hid (free_below (b03.trans (hbc.mono (by omega))) (by omega) HF.out)
  have HB := Lib.hid (HB.out.trans ((b03.trans (hbc.mono (by omega))).mono (by omega)))
  have HZ := Lib.hid (show w.heap.size < wc.heap.size ∧ g < wc.heap.size ∧ ¬ w.heap.size = g by omega)
  clear b03 hbc zc hzc z0 z1 z2 zs o0 o1 o2 b0 b1 b2
  have keep : ∀ (wq : World) (v : Value) (n : Nat) (ys : List Value) (u0 u1 u2 : Value), wq.ownsRow (w.heap.size + 1) 3 1 v n ys → (((wq.setCell ⟨w.heap.size, 0, none⟩ u0).setCell ⟨w.heap.size, 1, none⟩ u1).setCell ⟨w.heap.size, 2, none⟩ u2).ownsRow w.heap.size 3 1 v n ys := fun _ _ _ _ _ _ _ k =>
    own_base (own_grown (own_grown (own_grown k (Kit.grown_set _ _ _ _) (fun b hb => by injection hb with hb; omega)) (Kit.grown_set _ _ _ _) (fun b hb => by injection hb with hb; omega)) (Kit.grown_set _ _ _ _) (fun b hb => by injection hb with hb; omega)) (by omega)
  have KP := Lib.hid keep
  clear keep
  have HIN : ∀ {wq : World}, OwnC wq (w.heap.size + 1) B0 B1 B2 d0 d1 d2 ⟨q0, q1, q2⟩ → CoIn wq wq.heap.size B0 B1 B2 N0 N1 N2 ⟨q0, q1, q2⟩ := fun h => by rw [HE.out.1, HE.out.2.1, HE.out.2.2]; exact h.to_in
  by_cases hq : t2.toList = []
  · have HQ0 := Lib.hid (show t2.size = 0 by rw [← ByteArray.size_data, ← Array.length_toList, ← ByteArray.toList_eq, hq]; rfl)
    have hq' : t2.toList = [] := hq
    go_wp2_with fail
    rw [← hwc, ← eg]
    clear hwc hq hq' eg
    refine (implCostOk_any _ _ _ _ _ _ _ _ _ ⟨q0, q1, q2⟩ _ (HIN HO.out) HLN.out.1 HLN.out.2.1 HLN.out.2.2).mono ?_
    rintro e w4 ⟨rfl, hb⟩
    have HO := Lib.hid (HO.out.below hb)
    have HX := Lib.hid (HX.out.below hb HZ.out.1)
    have HC := Lib.hid (HC.out.below hb HZ.out.2.1)
    have HF := Lib.hid (free_below hb HZ.out.1 HF.out)
    have HB := Lib.hid (HB.out.trans (hb.mono HB.out.size))
    clear hb
    obtain ⟨x0, x1, x2⟩ := HX.out
    obtain ⟨y0, y1, y2⟩ := HC.out
    have f0 := HF.out 0
    have f1 := HF.out 1
    have f2 := HF.out 2
    cases hok : Co.ok ⟨q0, q1, q2⟩ with
    | false =>
      have Hf := Lib.hid (show Co.get s = (Co.none, false) from Co.get_bad (by rw [HR.out]; exact hok))
      clear hok
      go_wp2
      refine bodyPost_ret (v := .tuple #[.agg #[.slice none 0 0, .slice none 0 0, .slice none 0 0], .bool false]) ?_ rfl ?_
      · rw [results_cell_tmp rfl]
        go_simp
      · rw [Hf.out]
        exact ⟨none, none, none, 0, 0, 0, rfl, OwnC.nil _ _, ((HB.out.setCell (Nat.le_refl _) _).setCell (Nat.le_refl _) _).setCell (Nat.le_refl _) _⟩
    | true =>
      have Hf := Lib.hid (show Co.get s = (⟨q0, q1, q2⟩, true) by rw [Co.get_yes (by rw [HR.out]; exact HQ0.out) (by rw [HR.out]; exact hok), HR.out])
      have HNE := Lib.hid HZ.out.2.2
      clear hok
      go_wp2
      refine bodyPost_ret (v := .tuple #[.agg #[.slice B0 N0 d0, .slice B1 N1 d1, .slice B2 N2 d2], .bool true]) ?_ rfl ?_
      · rw [results_cell_tmp rfl]
        go_simp
      · rw [Hf.out]
        unfold OwnCoB OwnC
        simp only
        rw [← HE.out.1, ← HE.out.2.1, ← HE.out.2.2]
        have ho := HO.out
        unfold OwnC at ho
        simp only at ho
        rw [← HE.out.1, ← HE.out.2.1, ← HE.out.2.2] at ho
        exact ⟨B0, B1, B2, d0, d1, d2, rfl, ⟨KP.out _ _ _ _ _ _ _ ho.1, KP.out _ _ _ _ _ _ _ ho.2.1, KP.out _ _ _ _ _ _ _ ho.2.2.1, ho.2.2.2⟩, ((HB.out.setCell (Nat.le_refl _) _).setCell (Nat.le_refl _) _).setCell (Nat.le_refl _) _⟩
  · have Hf := Lib.hid (show Co.get s = (Co.none, false) from Co.get_left (by rw [HR.out]; intro e; exact hq (by rw [ByteArray.toList_eq]; exact List.eq_nil_of_length_eq_zero (by rw [Array.length_toList]; exact e))))
    obtain ⟨x0, x1, x2⟩ := HX.out
    have f0 := HF.out 0
    have f1 := HF.out 1
    have f2 := HF.out 2
    rw [hwc] at x0 x1 x2 f0 f1 f2
    go_wp2
    rw [← hwc]
    refine bodyPost_ret (v := .tuple #[.agg #[.slice none 0 0, .slice none 0 0, .slice none 0 0], .bool false]) ?_ rfl ?_
    · rw [results_cell_tmp rfl]
      go_simp
    · rw [Hf.out]
      exact ⟨none, none, none, 0, 0, 0, rfl, OwnC.nil _ _, ((HB.out.setCell (Nat.le_refl _) _).setCell (Nat.le_refl _) _).setCell (Nat.le_refl _) _⟩

end Go.Proofs.YtpdpkcadolcbmaaDoor

/- Contracts (GetCS). -/
namespace Go.Proofs.YtpdpkcadolcbmaaDoor
open Go.RowKit
set_option linter.unusedVariables false

theorem info_intGS : (Tryd.prog.info? 3).map (fun i => (i.zero, i.size, i.bytes)) = some (some (.int .i64 0), 1, 8) := by kernel_rfl
set_option maxHeartbeats 64000000 in
set_option maxRecDepth 100000 in
theorem specGetCost_any (s : ByteArray) (hs : s.size ≤ maxLen) (w : World) :
    Calls Tryd.prog 17 #[.string s] w (OwnCoB (Co.get s) w) := by
  have hs' : s.size ≤ 9223372036854775807 := hs
  have Hs := Lib.hid hs
  clear hs
  obtain ⟨i0, hi, hz0, hz1, hz2⟩ := info_parts info_intGS
  have Hi := Lib.hid hi
  clear hi
  obtain ⟨G, hG⟩ : ∃ G, G = Zs.getTo 48 s := ⟨_, rfl⟩
  have HG := Lib.hid hG
  clear hG
  obtain ⟨wz, hwz⟩ : ∃ wz, wz = w.alloc (.cells #[.slice none 0 0, .slice none 0 0, .slice none 0 0] 35) := ⟨_, rfl⟩
  have HX := Lib.hid (show Box3 wz w.heap.size (.slice none 0 0) (.slice none 0 0) (.slice none 0 0) by rw [hwz]; exact Box3.made _ _ _ _ _)
  have HF := Lib.hid (show ∀ off, wz.frozen? ⟨w.heap.size, off, none⟩ = false by rw [hwz]; exact fun off => by simp)
  have HBZ := Lib.hid (show Below w.heap.size w wz by rw [hwz]; exact (Below.refl _ _).alloc (Nat.le_refl _) _)
  have HS := Lib.hid (show wz.heap.size = w.heap.size + 1 by rw [hwz]; simp)
  obtain ⟨wl, hwl⟩ : ∃ wl, wl = wz.alloc (.cells #[] 3) := ⟨_, rfl⟩
  have Ho := Lib.hid (show wl.ownsRow wz.heap.size 3 1 (.slice (some ⟨w.heap.size + 1, 0, none⟩) 0 0) 0 (ints []) by rw [← HS.out]; rw [hwl]; exact World.ownsRow_lit (base := wz.heap.size) (e := 3) (size := 1) wz #[] 0 (Nat.le_refl _) (Nat.zero_le _) rfl)
  have HB := Lib.hid (show Below wz.heap.size wz wl by rw [hwl]; exact (Below.refl _ _).alloc (Nat.le_refl _) _)
  go_enter Tryd.func17, Tryd.ntmps17
  go_wp2_with fail
  rw [← hwz]
  rw [← hwl]
  clear hwl hwz
  go_loopw [7, 4, 5] (fun iv ov av wr => ∃ (k p : Nat) (acc : List Int), k ≤ 48 ∧ iv = .int .i64 k ∧ av = .int .i64 p ∧ p ≤ s.size ∧ acc.length = k ∧ wr.ownsRow wz.heap.size 3 1 ov k (ints acc) ∧ G = (acc ++ (Zs.getTo (48 - k) (Num.rest s p)).1, (Zs.getTo (48 - k) (Num.rest s p)).2) ∧ Below wz.heap.size wz wr) (fun i _ _ _ => 48 - (intOf i).toNat)
  case atStart => exact ⟨0, 0, [], Nat.zero_le _, rfl, rfl, Nat.zero_le _, rfl, Ho.out, by rw [Num.rest_zero]; exact HG.out, HB.out⟩
  case round =>
    clear Ho HB
    obtain ⟨k, p, acc, hk, rfl, rfl, hp, hlen, hown, hI, hB⟩ := hrel
    have HL := Lib.hid hlen
    have Ho := Lib.hid hown
    have HB := Lib.hid hB
    have HI := Lib.hid hI
    clear hlen hown hB hI
    obtain ⟨A', c', rfl⟩ := own_slice Ho.out
    by_cases hlt : k < 48
    · have k0 : decide ((k : Int) < 48) = true := by simp; omega
      by_cases h1 : Num.rvK (Num.rest s p) = 0
      · have Hf := Lib.hid (show Co.get s = (Co.none, false) from Co.get_few (by rw [← HG.out, HI.out, Zs.getTo_no h1]; simp [HL.out]; omega))
        have h1x := Lib.hid h1
        clear h1
        go_wp2_with fail
        refine (l4Num_no s p hp Hs.out h1x.out _).mono ?_
        rintro e w4 ⟨rfl, hb⟩
        have hzz := HS.out
        have hzr := HB.out.size
        have hb0 := HB.out.trans (hb.mono hzr)
        have HX := Lib.hid (HX.out.below hb0 (by omega))
        have HF := Lib.hid (free_below hb0 (by omega) HF.out)
        have HB := Lib.hid (HBZ.out.trans (hb0.mono HBZ.out.size))
        clear hb hb0 hzz hzr
        obtain ⟨x0, x1, x2⟩ := HX.out
        have f0 := HF.out 0
        have f1 := HF.out 1
        have f2 := HF.out 2
        go_wp2
        (try simp only [Exit.inBlock, Exit.then])
        refine bodyPost_ret (v := .tuple #[.agg #[.slice none 0 0, .slice none 0 0, .slice none 0 0], .bool false]) ?_ rfl ?_
        · rw [results_cell_tmp rfl]
          go_simp
        · rw [Hf.out]
          exact ⟨none, none, none, 0, 0, 0, rfl, OwnC.nil _ _, ((HB.out.setCell (Nat.le_refl _) _).setCell (Nat.le_refl _) _).setCell (Nat.le_refl _) _⟩
      · have h1x := Lib.hid h1
        obtain ⟨p1, hp1⟩ : ∃ p1, p1 = p + Num.rvK (Num.rest s p) := ⟨_, rfl⟩
        have hp1' : p1 ≤ s.size := by
          have := (Num.rvK_le (Num.rest s p)).2
          rw [Num.rest_size] at this
          omega
        have Hp1 := Lib.hid hp1
        have ep1 : decide ((p1 : Int) < 0) = false := by simp
        obtain ⟨V, hV⟩ : ∃ V : Int, V = (Num.rvN (Num.rest s p) : Int) := ⟨_, rfl⟩
        have HV := Lib.hid hV
        have HN := Lib.hid (show G = ((acc ++ [V]) ++ (Zs.getTo (48 - (k + 1)) (Num.rest s p1)).1, (Zs.getTo (48 - (k + 1)) (Num.rest s p1)).2) by
          rw [HI.out, show 48 - k = (48 - (k + 1)) + 1 by omega, Zs.getTo_yes h1, Tr.at_eq hp1, hV]; simp)
        clear h1 hp1 hV
        go_wp2_with fail
        refine (l4Num_yes s p p1 hp Hs.out h1x.out Hp1.out _).mono ?_
        rintro e w4 ⟨rfl, hb⟩
        have Ho := Lib.hid (own_below Ho.out hb)
        have HB := Lib.hid (HB.out.trans (hb.mono HB.out.size))
        clear hb
        rw [← HV.out]
        have hsx := HB.out.size
        go_wp2_with (at_builtin; go_loud (refine append_int w4 rfl _ _ 33 rfl wz.heap.size 3 i0 Tryd.underlying33 Hi.out hz0 hz1 hz2 (.slice A' k c') k acc rfl Ho.out HL.out.symm V rfl (by rw [HL.out]; omega) hsx ?_); intro v' w6 hown hgrow)
        rw [List.length_append, HL.out] at hown
        have Ho' := Lib.hid hown
        have HB' := Lib.hid ((HB.out.alloc hsx (.cells #[.int .i64 V] 3)).grown hgrow (by simp; omega) (fun b hb => (Ho.out.lt b hb).1))
        clear hown hgrow
        go_wp2
        go_roundw
        case rel => exact ⟨k + 1, p1, acc ++ [V], by omega, by go_num, rfl, hp1', by simp [HL.out], Ho'.out, HN.out, HB'.out⟩
        case measure => simp [intOf]; omega
    · obtain rfl : k = 48 := by omega
      have k0 : decide (((48 : Nat) : Int) < 48) = false := rfl
      have HR := Lib.hid (show G = (acc, Num.rest s p) by rw [HI.out]; simp [Zs.getTo])
      have hc := own_cap Ho.out
      obtain ⟨g, rfl, hg0, hg1⟩ := own_form Ho.out (by omega)
      have HIN := Lib.hid (IntIn.of_own Ho.out)
      have hc0 : (6 : Int) ≤ (c' : Int) := by omega
      have hc1 : (12 : Int) ≤ (c' : Int) := by omega
      have hc2 : (48 : Int) ≤ (c' : Int) := by omega
      have hw0 : IntKind.i64.wrap (2 * 6) = 12 := by decide
      have hw1 : IntKind.i64.wrap 12 = 12 := by decide
      have hm0 : ¬ c' = 0 := by omega
      have hm1 : ¬ c' = 6 := by omega
      have hm2 : ¬ c' = 12 := by omega
      have HP := Lib.hid fun (wq : World) (hq : BelS wr wq) => IntIn.below HIN.out hq
      obtain ⟨D0, eD0⟩ : ∃ D, D = (acc.take (0 + 6)).drop 0 := ⟨_, rfl⟩
      obtain ⟨D1, eD1⟩ : ∃ D, D = (acc.take (6 + 6)).drop 6 := ⟨_, rfl⟩
      obtain ⟨D2, eD2⟩ : ∃ D, D = (acc.take (12 + 36)).drop 12 := ⟨_, rfl⟩
      have HP0 := Lib.hid fun (wq : World) (hq : BelS wr wq) => (show IntIn wq wr.heap.size (some ⟨g, 0, none⟩) 6 D0 from eD0 ▸ IntIn.part (k := 0) (m := 6) (HP.out wq hq) (by decide) (by decide))
      have HP1 := Lib.hid fun (wq : World) (hq : BelS wr wq) => (show IntIn wq wr.heap.size (some ⟨g, 6, none⟩) 6 D1 from eD1 ▸ IntIn.part (k := 6) (m := 6) (HP.out wq hq) (by decide) (by decide))
      have HP2 := Lib.hid fun (wq : World) (hq : BelS wr wq) => (show IntIn wq wr.heap.size (some ⟨g, 12, none⟩) 36 D2 from eD2 ▸ IntIn.part (k := 12) (m := 36) (HP.out wq hq) (by decide) (by decide))
      have HDS := Lib.hid (And.intro eD0 (And.intro eD1 eD2))
      clear eD0 eD1 eD2
      obtain ⟨R, hR⟩ : ∃ R : Act → World → Prop, R = fun a wq => ∃ (j36 j41 j48 : Value) (G0 G1 G2 g10 e0 e1 e2 : Nat), a = ⟨#[Value.string s, undef, .pointer (some ⟨w.heap.size, 0, none⟩), u3, .slice (some ⟨g, 0, none⟩) 48 c', .int .i64 p, .int .i64 6, .int .i64 48, u8, u9, .pointer (some ⟨g10, 0, none⟩), .slice (some ⟨w.heap.size + 1, 0, none⟩) 0 0, .int .i64 48, .int .i64 6, .int .i64 12, .int .i64 6, .int .i64 6, .int .i64 36, .int .i64 48, .bool false, u20, u21, u22, u23, u24, u25, u26, u27, u28, u29, u30, u31, u32, u33, u34, u35, j36, .slice (some ⟨g, 0, none⟩) 48 c', .int .i64 6, .slice (some ⟨g, 0, none⟩) 6 c', .slice (some ⟨G0, 0, none⟩) 6 e0, j41, .slice (some ⟨g, 0, none⟩) 48 c', .int .i64 6, .int .i64 6, .int .i64 12, .slice (some ⟨g, 6, none⟩) 6 (c' - 6), .slice (some ⟨G1, 0, none⟩) 6 e1, j48, .slice (some ⟨g, 0, none⟩) 48 c', .int .i64 6, .int .i64 12, .slice (some ⟨g, 12, none⟩) 36 (c' - 12), .slice (some ⟨G2, 0, none⟩) 36 e2, .agg #[.slice (some ⟨G0, 0, none⟩) 6 e0, .slice (some ⟨G1, 0, none⟩) 6 e1, .slice (some ⟨G2, 0, none⟩) 36 e2], undef, undef, undef, undef, undef, undef, undef, undef, undef, undef, undef], []⟩ ∧ DoneS wr wq D0 D1 D2 g10 G0 G1 G2 e0 e1 e2 := ⟨_, rfl⟩
      have HRI := Lib.hid (show ∀ (j36 j41 j48 : Value) (G0 G1 G2 g10 e0 e1 e2 : Nat) (wq : World), DoneS wr wq D0 D1 D2 g10 G0 G1 G2 e0 e1 e2 → R ⟨#[Value.string s, undef, .pointer (some ⟨w.heap.size, 0, none⟩), u3, .slice (some ⟨g, 0, none⟩) 48 c', .int .i64 p, .int .i64 6, .int .i64 48, u8, u9, .pointer (some ⟨g10, 0, none⟩), .slice (some ⟨w.heap.size + 1, 0, none⟩) 0 0, .int .i64 48, .int .i64 6, .int .i64 12, .int .i64 6, .int .i64 6, .int .i64 36, .int .i64 48, .bool false, u20, u21, u22, u23, u24, u25, u26, u27, u28, u29, u30, u31, u32, u33, u34, u35, j36, .slice (some ⟨g, 0, none⟩) 48 c', .int .i64 6, .slice (some ⟨g, 0, none⟩) 6 c', .slice (some ⟨G0, 0, none⟩) 6 e0, j41, .slice (some ⟨g, 0, none⟩) 48 c', .int .i64 6, .int .i64 6, .int .i64 12, .slice (some ⟨g, 6, none⟩) 6 (c' - 6), .slice (some ⟨G1, 0, none⟩) 6 e1, j48, .slice (some ⟨g, 0, none⟩) 48 c', .int .i64 6, .int .i64 12, .slice (some ⟨g, 12, none⟩) 36 (c' - 12), .slice (some ⟨G2, 0, none⟩) 36 e2, .agg #[.slice (some ⟨G0, 0, none⟩) 6 e0, .slice (some ⟨G1, 0, none⟩) 6 e1, .slice (some ⟨G2, 0, none⟩) 36 e2], undef, undef, undef, undef, undef, undef, undef, undef, undef, undef, undef], []⟩ wq by rw [hR]; exact fun j36 j41 j48 G0 G1 G2 g10 e0 e1 e2 wq h => ⟨j36, j41, j48, G0, G1, G2, g10, e0, e1, e2, rfl, h⟩)
      have HRE := Lib.hid (show ∀ a wq, R a wq → ∃ (j36 j41 j48 : Value) (G0 G1 G2 g10 e0 e1 e2 : Nat), a = ⟨#[Value.string s, undef, .pointer (some ⟨w.heap.size, 0, none⟩), u3, .slice (some ⟨g, 0, none⟩) 48 c', .int .i64 p, .int .i64 6, .int .i64 48, u8, u9, .pointer (some ⟨g10, 0, none⟩), .slice (some ⟨w.heap.size + 1, 0, none⟩) 0 0, .int .i64 48, .int .i64 6, .int .i64 12, .int .i64 6, .int .i64 6, .int .i64 36, .int .i64 48, .bool false, u20, u21, u22, u23, u24, u25, u26, u27, u28, u29, u30, u31, u32, u33, u34, u35, j36, .slice (some ⟨g, 0, none⟩) 48 c', .int .i64 6, .slice (some ⟨g, 0, none⟩) 6 c', .slice (some ⟨G0, 0, none⟩) 6 e0, j41, .slice (some ⟨g, 0, none⟩) 48 c', .int .i64 6, .int .i64 6, .int .i64 12, .slice (some ⟨g, 6, none⟩) 6 (c' - 6), .slice (some ⟨G1, 0, none⟩) 6 e1, j48, .slice (some ⟨g, 0, none⟩) 48 c', .int .i64 6, .int .i64 12, .slice (some ⟨g, 12, none⟩) 36 (c' - 12), .slice (some ⟨G2, 0, none⟩) 36 e2, .agg #[.slice (some ⟨G0, 0, none⟩) 6 e0, .slice (some ⟨G1, 0, none⟩) 6 e1, .slice (some ⟨G2, 0, none⟩) 36 e2], undef, undef, undef, undef, undef, undef, undef, undef, undef, undef, undef], []⟩ ∧ DoneS wr wq D0 D1 D2 g10 G0 G1 G2 e0 e1 e2 by rw [hR]; exact fun a wq h => h)
      clear hR
      go_wp2_with fail
      refine region_cut R ?_ ?_
      rotate_left
      clear HX HF HBZ HS HG HI HL HR Ho HIN HB HDS HRE hs' Hs hp hk hlt k0
      have S0 := Lib.hid (show BelS wr wr.drew from (Below.refl _ _).drew)
      · go_region_held3 (fun wq => BelS wr wq) (first | (with_reducible assumption) | (with_reducible exact S0.out) | (with_reducible refine BelS.alloc_drew ?_ _; with_reducible assumption) | (with_reducible refine BelS.alloc' ?_ _; with_reducible assumption) | (with_reducible exact BelS.alloc' s2 _) | (with_reducible refine BelS.set3 s2 ?_ _ _ _; have := s0.le; have := s1.le; omega)) (first | ((fail_if_success (have := o0)); refine step_append_fresh _ rfl _ _ 33 rfl 3 i0 Tryd.underlying33 Hi.out hz0 hz1 hz2 _ 6 _ rfl (some ⟨g, 0, none⟩) _ rfl (HP0.out _ (by with_reducible assumption)) (by decide) (by decide) ?_; intro G0 e0 w5 hG0 o0 hg; have hb := (Below.refl _ _).grown hg (Nat.le_refl _) (fun _ hk => by cases hk); have s0 : BelS wr w5 := BelS.on (by with_reducible assumption) hb; (try simp at hG0); have HG0 := Lib.hid hG0; clear hG0; have y0 := (o0.lt G0 rfl).2; (try ((first | (with_reducible have zz0 := Zero3.on (Zero3.drew (Zero3.new rfl)) hg) | (with_reducible have zz0 := Zero3.on (Zero3.drew (Zero3.alloc (Zero3.new rfl) _)) hg) | (with_reducible have zz0 := Zero3.on (Zero3.drew (Zero3.alloc (Zero3.alloc (Zero3.new rfl) _) _)) hg) | (with_reducible have zz0 := Zero3.on (Zero3.drew (Zero3.alloc (Zero3.alloc (Zero3.alloc (Zero3.new rfl) _) _) _)) hg) | (with_reducible have zz0 := Zero3.on (Zero3.drew (Zero3.alloc (Zero3.alloc (Zero3.alloc (Zero3.alloc (Zero3.new rfl) _) _) _) _)) hg)); (try simp only [World.size_alloc] at zz0); (try rw [World.size_drew] at zz0); obtain ⟨zc00, zc01, zc02, zf00, zf01, zf02⟩ := Zero3.cells zz0)); clear hg) | ((fail_if_success (have := o1)); refine step_append_fresh _ rfl _ _ 33 rfl 3 i0 Tryd.underlying33 Hi.out hz0 hz1 hz2 _ 6 _ rfl (some ⟨g, 6, none⟩) _ rfl (HP1.out _ (by with_reducible assumption)) (by decide) (by decide) ?_; intro G1 e1 w6 hG1 o1 hg; have hb := (Below.refl _ _).grown hg (Nat.le_refl _) (fun _ hk => by cases hk); have s1 : BelS wr w6 := BelS.on (by with_reducible assumption) hb; (try simp at hG1); have HG1 := Lib.hid hG1; clear hG1; have y1 := (o1.lt G1 rfl).2; (first | (with_reducible have o0 := own_below (o0) hb) | (with_reducible have o0 := own_below (World.ownsRow.alloc (o0) _) hb) | (with_reducible have o0 := own_below (World.ownsRow.alloc (World.ownsRow.alloc (o0) _) _) hb) | (with_reducible have o0 := own_below (World.ownsRow.alloc (World.ownsRow.alloc (World.ownsRow.alloc (o0) _) _) _) hb) | (with_reducible have o0 := own_below (World.ownsRow.alloc (World.ownsRow.alloc (World.ownsRow.alloc (World.ownsRow.alloc (o0) _) _) _) _) hb)); (try ((first | (with_reducible have zz1 := Zero3.on (Zero3.new rfl) hg) | (with_reducible have zz1 := Zero3.on (Zero3.alloc (Zero3.new rfl) _) hg) | (with_reducible have zz1 := Zero3.on (Zero3.alloc (Zero3.alloc (Zero3.new rfl) _) _) hg) | (with_reducible have zz1 := Zero3.on (Zero3.alloc (Zero3.alloc (Zero3.alloc (Zero3.new rfl) _) _) _) hg) | (with_reducible have zz1 := Zero3.on (Zero3.alloc (Zero3.alloc (Zero3.alloc (Zero3.alloc (Zero3.new rfl) _) _) _) _) hg) | (with_reducible have zz1 := Zero3.on (zz0) hg) | (with_reducible have zz1 := Zero3.on (Zero3.alloc (zz0) _) hg) | (with_reducible have zz1 := Zero3.on (Zero3.alloc (Zero3.alloc (zz0) _) _) hg) | (with_reducible have zz1 := Zero3.on (Zero3.alloc (Zero3.alloc (Zero3.alloc (zz0) _) _) _) hg)); (try simp only [World.size_alloc] at zz1); (try rw [World.size_drew] at zz1); obtain ⟨zc10, zc11, zc12, zf10, zf11, zf12⟩ := Zero3.cells zz1)); clear hg) | ((fail_if_success (have := o2)); refine step_append_fresh _ rfl _ _ 33 rfl 3 i0 Tryd.underlying33 Hi.out hz0 hz1 hz2 _ 36 _ rfl (some ⟨g, 12, none⟩) _ rfl (HP2.out _ (by with_reducible assumption)) (by decide) (by decide) ?_; intro G2 e2 w7 hG2 o2 hg; have hb := (Below.refl _ _).grown hg (Nat.le_refl _) (fun _ hk => by cases hk); have s2 : BelS wr w7 := BelS.on (by with_reducible assumption) hb; (try simp at hG2); have HG2 := Lib.hid hG2; clear hG2; have y2 := (o2.lt G2 rfl).2; (first | (with_reducible have o0 := own_below (o0) hb) | (with_reducible have o0 := own_below (World.ownsRow.alloc (o0) _) hb) | (with_reducible have o0 := own_below (World.ownsRow.alloc (World.ownsRow.alloc (o0) _) _) hb) | (with_reducible have o0 := own_below (World.ownsRow.alloc (World.ownsRow.alloc (World.ownsRow.alloc (o0) _) _) _) hb) | (with_reducible have o0 := own_below (World.ownsRow.alloc (World.ownsRow.alloc (World.ownsRow.alloc (World.ownsRow.alloc (o0) _) _) _) _) hb)); (first | (with_reducible have o1 := own_below (o1) hb) | (with_reducible have o1 := own_below (World.ownsRow.alloc (o1) _) hb) | (with_reducible have o1 := own_below (World.ownsRow.alloc (World.ownsRow.alloc (o1) _) _) hb) | (with_reducible have o1 := own_below (World.ownsRow.alloc (World.ownsRow.alloc (World.ownsRow.alloc (o1) _) _) _) hb) | (with_reducible have o1 := own_below (World.ownsRow.alloc (World.ownsRow.alloc (World.ownsRow.alloc (World.ownsRow.alloc (o1) _) _) _) _) hb)); (try ((first | (with_reducible have zz2 := Zero3.on (Zero3.new rfl) hg) | (with_reducible have zz2 := Zero3.on (Zero3.alloc (Zero3.new rfl) _) hg) | (with_reducible have zz2 := Zero3.on (Zero3.alloc (Zero3.alloc (Zero3.new rfl) _) _) hg) | (with_reducible have zz2 := Zero3.on (Zero3.alloc (Zero3.alloc (Zero3.alloc (Zero3.new rfl) _) _) _) hg) | (with_reducible have zz2 := Zero3.on (Zero3.alloc (Zero3.alloc (Zero3.alloc (Zero3.alloc (Zero3.new rfl) _) _) _) _) hg) | (with_reducible have zz2 := Zero3.on (zz1) hg) | (with_reducible have zz2 := Zero3.on (Zero3.alloc (zz1) _) hg) | (with_reducible have zz2 := Zero3.on (Zero3.alloc (Zero3.alloc (zz1) _) _) hg) | (with_reducible have zz2 := Zero3.on (Zero3.alloc (Zero3.alloc (Zero3.alloc (zz1) _) _) _) hg) | (with_reducible have zz2 := Zero3.on (zz0) hg) | (with_reducible have zz2 := Zero3.on (Zero3.alloc (zz0) _) hg) | (with_reducible have zz2 := Zero3.on (Zero3.alloc (Zero3.alloc (zz0) _) _) hg) | (with_reducible have zz2 := Zero3.on (Zero3.alloc (Zero3.alloc (Zero3.alloc (zz0) _) _) _) hg)); (try simp only [World.size_alloc] at zz2); (try rw [World.size_drew] at zz2); obtain ⟨zc20, zc21, zc22, zf20, zf21, zf22⟩ := Zero3.cells zz2)); clear hg))
        all_goals
          with_reducible refine ⟨rfl, ?_⟩
          have l0 := s0.le
          have l1 := s1.le
          have x0 := HG0.out
          have x1 := HG1.out
          have x2 := HG2.out
          first
          | (have hz := DoneS.stored o0 o1 o2 (by omega) s2 zz2 (by omega) (by omega)
             with_reducible exact HRI.out _ _ _ _ _ _ _ _ _ _ _ hz)
          | (have hz := DoneS.made o0 o1 o2 (by omega) s2
             with_reducible exact HRI.out _ _ _ _ _ _ _ _ _ _ _ hz)
      · intro a wq hRa
        obtain ⟨j36, j41, j48, G0, G1, G2, g10, e0, e1, e2, rfl, hbox, o0, o1, o2, hne, hbel, hg10, hgl⟩ := HRE.out a wq hRa
        clear hRa HRE HRI HP HP0 HP1 HP2 HIN Ho hm0 hm1 hm2 hc0 hc1 hc2 hw0 hw1
        have hacc := HL.out
        have hD2 : D2 = acc.drop 12 := by rw [HDS.out.2.2, List.take_of_length_le (by omega)]
        have hD0 : D0 = acc.take 6 := by rw [HDS.out.1]; rfl
        have hD1 : D1 = (acc.take 12).drop 6 := HDS.out.2.1
        have l0 : D0.length = 6 := by rw [hD0, List.length_take]; omega
        have l1 : D1.length = 6 := by rw [hD1, List.length_drop, List.length_take]; omega
        have l2 : D2.length = 36 := by rw [hD2, List.length_drop]; omega
        have HRD := Lib.hid (show Co.read s = (⟨D0, D1, D2⟩, Num.rest s p) by rw [Co.read_cut (by rw [← HG.out]; exact HR.out) hacc, hD0, hD1, hD2])
        have hzs := HS.out
        have hzr := HB.out.size
        have hb0 : Below wz.heap.size wz wq := HB.out.trans (hbel.mono hzr)
        have HX := Lib.hid (HX.out.below hb0 (by omega))
        have HF := Lib.hid (free_below hb0 (by omega) HF.out)
        have HB := Lib.hid (HBZ.out.trans (hb0.mono HBZ.out.size))
        have HC := Lib.hid hbox
        have HO := Lib.hid (show OwnC wq (w.heap.size + 1) (some ⟨G0, 0, none⟩) (some ⟨G1, 0, none⟩) (some ⟨G2, 0, none⟩) e0 e1 e2 ⟨D0, D1, D2⟩ by
          unfold OwnC
          simp only
          rw [l0, l1, l2]
          exact ⟨own_base o0 (by omega), own_base o1 (by omega), own_base o2 (by omega), .inr (by simp [Value.ownBlock]; omega), .inr (by simp [Value.ownBlock]; omega), .inr (by simp [Value.ownBlock]; omega)⟩)
        have HZ := Lib.hid (show w.heap.size < wq.heap.size ∧ g10 < wq.heap.size ∧ ¬ w.heap.size = g10 from ⟨by have := hb0.size; omega, hgl, by omega⟩)
        have HLL := Lib.hid (And.intro l0 (And.intro l1 l2))
        have HQS := Lib.hid (Num.rest_size s p)
        clear hbox o0 o1 o2 hne hbel hg10 hgl hacc hD0 hD1 hD2 l0 l1 l2 hzs hzr hb0 HS HBZ HDS HI HL HR HG hk hlt
        have keep : ∀ (wq : World) (v : Value) (n : Nat) (ys : List Value) (u0 u1 u2 : Value), wq.ownsRow (w.heap.size + 1) 3 1 v n ys → (((wq.setCell ⟨w.heap.size, 0, none⟩ u0).setCell ⟨w.heap.size, 1, none⟩ u1).setCell ⟨w.heap.size, 2, none⟩ u2).ownsRow w.heap.size 3 1 v n ys := fun _ _ _ _ _ _ _ k =>
          own_base (own_grown (own_grown (own_grown k (Kit.grown_set _ _ _ _) (fun b hb => by injection hb with hb; omega)) (Kit.grown_set _ _ _ _) (fun b hb => by injection hb with hb; omega)) (Kit.grown_set _ _ _ _) (fun b hb => by injection hb with hb; omega)) (by omega)
        have KP := Lib.hid keep
        clear keep
        have HIN := Lib.hid (show ∀ (wq : World), OwnC wq (w.heap.size + 1) (some ⟨G0, 0, none⟩) (some ⟨G1, 0, none⟩) (some ⟨G2, 0, none⟩) e0 e1 e2 ⟨D0, D1, D2⟩ → CoIn wq wq.heap.size (some ⟨G0, 0, none⟩) (some ⟨G1, 0, none⟩) (some ⟨G2, 0, none⟩) 6 6 36 ⟨D0, D1, D2⟩ from fun wq h => by
          have h := h.to_in
          simp only at h
          rw [HLL.out.1, HLL.out.2.1, HLL.out.2.2] at h
          exact h)
        by_cases hq : p = s.size
        · have q0 : ((p : Int) != (s.size : Int)) = false := by simp [hq]
          have HQ0 := Lib.hid (show (Num.rest s p).size = 0 by rw [HQS.out]; omega)
          clear hq
          obtain ⟨y0, y1, y2⟩ := HC.out
          go_wp2_with fail
          clear y0 y1 y2 q0
          refine (specCostOk_any _ _ _ _ _ _ _ _ _ ⟨D0, D1, D2⟩ _ (HIN.out _ HO.out) (by decide) (by decide) (by decide)).mono ?_
          rintro e w4 ⟨rfl, hb⟩
          have HO := Lib.hid (HO.out.below hb)
          have HX := Lib.hid (HX.out.below hb HZ.out.1)
          have HC := Lib.hid (HC.out.below hb HZ.out.2.1)
          have HF := Lib.hid (free_below hb HZ.out.1 HF.out)
          have HB := Lib.hid (HB.out.trans (hb.mono HB.out.size))
          clear hb
          obtain ⟨x0, x1, x2⟩ := HX.out
          obtain ⟨y0, y1, y2⟩ := HC.out
          have f0 := HF.out 0
          have f1 := HF.out 1
          have f2 := HF.out 2
          cases hok : Co.ok ⟨D0, D1, D2⟩ with
          | false =>
            have Hf := Lib.hid (show Co.get s = (Co.none, false) from Co.get_bad (by rw [HRD.out]; exact hok))
            clear hok
            go_wp2
            refine bodyPost_ret (v := .tuple #[.agg #[.slice none 0 0, .slice none 0 0, .slice none 0 0], .bool false]) ?_ rfl ?_
            · rw [results_cell_tmp rfl]
              go_simp
            · rw [Hf.out]
              exact ⟨none, none, none, 0, 0, 0, rfl, OwnC.nil _ _, ((HB.out.setCell (Nat.le_refl _) _).setCell (Nat.le_refl _) _).setCell (Nat.le_refl _) _⟩
          | true =>
            have Hf := Lib.hid (show Co.get s = (⟨D0, D1, D2⟩, true) by rw [Co.get_yes (by rw [HRD.out]; exact HQ0.out) (by rw [HRD.out]; exact hok), HRD.out])
            have HNE := Lib.hid HZ.out.2.2
            clear hok
            go_wp2
            refine bodyPost_ret (v := .tuple #[.agg #[.slice (some ⟨G0, 0, none⟩) 6 e0, .slice (some ⟨G1, 0, none⟩) 6 e1, .slice (some ⟨G2, 0, none⟩) 36 e2], .bool true]) ?_ rfl ?_
            · rw [results_cell_tmp rfl]
              go_simp
            · rw [Hf.out]
              unfold OwnCoB OwnC
              simp only
              have ho := HO.out
              unfold OwnC at ho
              simp only at ho
              rw [HLL.out.1, HLL.out.2.1, HLL.out.2.2] at ho ⊢
              exact ⟨_, _, _, e0, e1, e2, rfl, ⟨KP.out _ _ _ _ _ _ _ ho.1, KP.out _ _ _ _ _ _ _ ho.2.1, KP.out _ _ _ _ _ _ _ ho.2.2.1, ho.2.2.2⟩, ((HB.out.setCell (Nat.le_refl _) _).setCell (Nat.le_refl _) _).setCell (Nat.le_refl _) _⟩
        · have q0 : ((p : Int) != (s.size : Int)) = true := by simp; omega
          have Hf := Lib.hid (show Co.get s = (Co.none, false) from Co.get_left (by rw [HRD.out]; simp only; rw [HQS.out]; omega))
          clear hq
          obtain ⟨x0, x1, x2⟩ := HX.out
          have f0 := HF.out 0
          have f1 := HF.out 1
          have f2 := HF.out 2
          go_wp2
          refine bodyPost_ret (v := .tuple #[.agg #[.slice none 0 0, .slice none 0 0, .slice none 0 0], .bool false]) ?_ rfl ?_
          · rw [results_cell_tmp rfl]
            go_simp
          · rw [Hf.out]
            exact ⟨none, none, none, 0, 0, 0, rfl, OwnC.nil _ _, ((HB.out.setCell (Nat.le_refl _) _).setCell (Nat.le_refl _) _).setCell (Nat.le_refl _) _⟩


end Go.Proofs.YtpdpkcadolcbmaaDoor

/- Plain mathematics of ReadDec: which strings are decimal numerals of at most nine digits. -/
namespace Go.Proofs.YtpdpkcadolcbmaaDoor
open Go.RowKit

def Num.isDig (b : UInt8) : Bool := decide (48 ≤ b.toNat ∧ b.toNat ≤ 57)
/-- what the digits of l spell, other bytes passed over -/
def Num.numF (l : List UInt8) : Nat := l.foldl (fun n b => if Num.isDig b then n * 10 + (b.toNat - 48) else n) 0
def Num.cntF (l : List UInt8) : Nat := l.countP Num.isDig
theorem Num.numF_dig (l : List UInt8) {b : UInt8} (h : Num.isDig b = true) : Num.numF (l ++ [b]) = Num.numF l * 10 + (b.toNat - 48) := by simp [Num.numF, h]
theorem Num.numF_other (l : List UInt8) {b : UInt8} (h : Num.isDig b = false) : Num.numF (l ++ [b]) = Num.numF l := by simp [Num.numF, h]
theorem Num.cntF_dig (l : List UInt8) {b : UInt8} (h : Num.isDig b = true) : Num.cntF (l ++ [b]) = Num.cntF l + 1 := by simp [Num.cntF, h]
theorem Num.cntF_other (l : List UInt8) {b : UInt8} (h : Num.isDig b = false) : Num.cntF (l ++ [b]) = Num.cntF l := by simp [Num.cntF, h]
theorem Num.numF_lt (l : List UInt8) : Num.numF l < 10 ^ l.length := by
  refine Kit.snoc_rec (P := fun l => Num.numF l < 10 ^ l.length) (by simp [Num.numF]) (fun l b ih => ?_) l
  simp only [List.length_append, List.length_singleton, Nat.pow_succ]
  cases hb : Num.isDig b with
  | true =>
    rw [Num.numF_dig l hb]
    have : b.toNat ≤ 57 := by
      unfold Num.isDig at hb
      exact (of_decide_eq_true hb).2
    omega
  | false => rw [Num.numF_other l hb]; omega
theorem Num.numF_small (l : List UInt8) (h : l.length ≤ 11) : Num.numF l ≤ 99999999999 := by
  have h1 := Num.numF_lt l
  have h2 : 10 ^ l.length ≤ 10 ^ 11 := Nat.pow_le_pow_right (by omega) h
  omega
theorem Num.cntF_le (l : List UInt8) : Num.cntF l ≤ l.length := List.countP_le_length

theorem Num.dig_of {d : Nat} (h : d < 10) : Num.isDig (UInt8.ofNat (48 + d)) = true ∧ (UInt8.ofNat (48 + d)).toNat = 48 + d := by
  have hb : (UInt8.ofNat (48 + d)).toNat = 48 + d := by rw [UInt8.toNat_ofNat']; omega
  exact ⟨by unfold Num.isDig; rw [hb]; simp; omega, hb⟩
theorem Num.numF_dec (u : Nat) : Num.numF (Lib.decDigits u) = u ∧ Num.cntF (Lib.decDigits u) = (Lib.decDigits u).length := by
  induction u using Nat.strongRecOn with
  | _ u ih =>
    by_cases h : u < 10
    · rw [Lib.decDigits, dif_pos h]
      obtain ⟨h1, h2⟩ := Num.dig_of h
      have a := Num.numF_dig [] h1
      have b := Num.cntF_dig [] h1
      simp only [List.nil_append] at a b
      exact ⟨by rw [a, h2]; simp [Num.numF], by rw [b]; simp [Num.cntF]⟩
    · rw [Lib.decDigits, dif_neg h]
      obtain ⟨i1, i2⟩ := ih (u / 10) (by omega)
      obtain ⟨h1, h2⟩ := Num.dig_of (d := u % 10) (by omega)
      exact ⟨by rw [Num.numF_dig _ h1, h2, i1]; omega, by rw [Num.cntF_dig _ h1, i2]; simp⟩
theorem Num.decDigits_ne (u : Nat) : Lib.decDigits u ≠ [] := by
  intro h
  have := Lib.decDigits_length u
  rw [h] at this
  have := Lib.nDigits_pos u
  simp at *
  omega
theorem Num.decDigits_head (u : Nat) : ∃ b l, Lib.decDigits u = b :: l ∧ Num.isDig b = true := by
  induction u using Nat.strongRecOn with
  | _ u ih =>
    by_cases h : u < 10
    · rw [Lib.decDigits, dif_pos h]
      exact ⟨_, _, rfl, (Num.dig_of h).1⟩
    · rw [Lib.decDigits, dif_neg h]
      obtain ⟨b, l, h1, h2⟩ := ih (u / 10) (by omega)
      rw [h1]
      exact ⟨b, _, rfl, h2⟩

/-- the number that the model reads -/
def Num.specN (l : List UInt8) : Int := if l.head? = some 45 then -(Num.numF (l.take 11) : Int) else Num.numF (l.take 11)
/-- what ReadDec gives -/
def Num.rdec (l : List UInt8) : Option Int := if Num.cntF (l.take 11) ≤ 9 ∧ l.length ≤ 10 ∧ Lib.itoa (Num.specN l) = l then some (Num.specN l) else none

theorem Num.take_all {l : List UInt8} (h : l.length ≤ 11) : l.take 11 = l := List.take_of_length_le h
theorem Num.cons45 (l : List UInt8) : Num.numF (45 :: l) = Num.numF l ∧ Num.cntF (45 :: l) = Num.cntF l := by
  have h : Num.isDig 45 = false := by decide
  exact ⟨by simp [Num.numF, h], by simp [Num.cntF, h]⟩
/-- a numeral's number, digits and strip -/
theorem Num.itoa_facts (n : Int) : Num.cntF (Lib.itoa n) = (Lib.trimPrefix (Lib.itoa n) [45]).length ∧ (Lib.itoa n).length ≤ (Lib.trimPrefix (Lib.itoa n) [45]).length + 1 ∧
    ((Lib.itoa n).length ≤ 11 → Num.specN (Lib.itoa n) = n) := by
  unfold Lib.itoa Num.specN
  by_cases hn : n < 0
  · obtain ⟨h1, h2⟩ := Num.numF_dec n.natAbs
    obtain ⟨c1, c2⟩ := Num.cons45 (Lib.decDigits n.natAbs)
    have ht : Lib.trimPrefix (45 :: Lib.decDigits n.natAbs) [45] = Lib.decDigits n.natAbs := by simp [Lib.trimPrefix, Lib.hasPrefix]
    rw [if_pos hn, ht]
    refine ⟨by rw [c2, h2], by simp, fun hl => ?_⟩
    rw [Num.take_all hl, if_pos (by rfl), c1, h1]
    omega
  · obtain ⟨h1, h2⟩ := Num.numF_dec n.toNat
    obtain ⟨b, l, hb, hd⟩ := Num.decDigits_head n.toNat
    have hb45 : b ≠ 45 := by intro h; subst h; exact absurd hd (by decide)
    have ht : Lib.trimPrefix (Lib.decDigits n.toNat) [45] = Lib.decDigits n.toNat := by
      rw [hb]; simp [Lib.trimPrefix, Lib.hasPrefix, Ne.symm hb45]
    rw [if_neg hn, ht]
    refine ⟨h2, by omega, fun hl => ?_⟩
    rw [Num.take_all hl, if_neg (by rw [hb]; simpa using hb45), h1]
    omega
theorem Num.rdec_of {l : List UInt8} {n : Int} (h : Lib.itoa n = l) (hl : (Lib.trimPrefix l [45]).length ≤ 9) : Num.rdec l = some n := by
  subst h
  obtain ⟨h1, h2, h3⟩ := Num.itoa_facts n
  have e := h3 (by omega)
  unfold Num.rdec
  rw [e, Num.take_all (by omega), if_pos ⟨by omega, by omega, rfl⟩]

theorem Num.parse_append (l m : List UInt8) : ∀ acc a, Lib.parseUint10 acc l = .ok a → Lib.parseUint10 acc (l ++ m) = Lib.parseUint10 a m := by
  induction l with
  | nil => intro acc a h; simp only [Lib.parseUint10] at h; injection h with h; subst h; rfl
  | cons c l ih =>
    intro acc a h
    simp only [Lib.parseUint10, List.cons_append] at h ⊢
    split at h
    · split at h
      · cases h
      · split at h
        · cases h
        · rename_i c1 c2 c3
          rw [if_pos c1, if_neg c2, if_neg c3]
          exact ih _ _ h
    · cases h
theorem Num.parse_dec (u : Nat) (hu : u < 1000000000000000000) : Lib.parseUint10 0 (Lib.decDigits u) = .ok u := by
  induction u using Nat.strongRecOn with
  | _ u ih =>
    have one : ∀ acc d, d < 10 → acc < 100000000000000000 → Lib.parseUint10 acc [UInt8.ofNat (48 + d)] = .ok (acc * 10 + d) := by
      intro acc d hd ha
      have hb := (Num.dig_of hd).2
      simp only [Lib.parseUint10, hb]
      rw [if_pos (by omega), if_neg (by omega), if_neg (by omega)]
      congr 1; omega
    by_cases h : u < 10
    · rw [Lib.decDigits, dif_pos h, one 0 u h (by omega)]; simp
    · rw [Lib.decDigits, dif_neg h, Num.parse_append _ _ _ _ (ih (u / 10) (by omega) (by omega)), one _ _ (by omega) (by omega)]
      congr 1; omega
theorem Num.atoi_itoa (n : Int) (h0 : -1000000000000000000 < n) (h1 : n < 1000000000000000000) : Lib.atoiAll (Lib.itoa n) = .ok n := by
  unfold Lib.itoa
  by_cases hn : n < 0
  · rw [if_pos hn]
    have hp := Num.parse_dec n.natAbs (by omega)
    have hm : Lib.parseMag (Lib.decDigits n.natAbs) = .ok n.natAbs := by unfold Lib.parseMag; rw [if_neg (Num.decDigits_ne _), hp]
    have h45 : (45 : UInt8).toNat = 45 := rfl
    simp only [Lib.atoiAll, h45]
    rw [if_pos (Or.inr trivial), hm]
    simp only []
    rw [if_neg (by simp), if_neg (by omega)]
    simp; omega
  · rw [if_neg hn]
    have hp := Num.parse_dec n.toNat (by omega)
    have hm : Lib.parseMag (Lib.decDigits n.toNat) = .ok n.toNat := by unfold Lib.parseMag; rw [if_neg (Num.decDigits_ne _), hp]
    obtain ⟨b, l, hb, hd⟩ := Num.decDigits_head n.toNat
    have hbd : 48 ≤ b.toNat ∧ b.toNat ≤ 57 := by unfold Num.isDig at hd; exact of_decide_eq_true hd
    rw [hb] at hm ⊢
    simp only [Lib.atoiAll]
    rw [if_neg (by omega), hm]
    simp only []
    rw [if_neg (by omega), if_neg (by omega), if_neg (by omega)]
    congr 1; omega
theorem Num.rdec_inv {l : List UInt8} {n : Int} (h : Num.rdec l = some n) : (Lib.trimPrefix l [45]).length ≤ 9 ∧ Lib.atoiAll l = .ok n ∧ Lib.itoa n = l := by
  unfold Num.rdec at h
  split at h
  · rename_i hc
    obtain ⟨c1, c2, c3⟩ := hc
    injection h with h
    rw [h] at c3
    obtain ⟨h1, h2, h3⟩ := Num.itoa_facts n
    rw [c3] at h1 h2 h3
    rw [Num.take_all (by omega)] at c1
    have hs := Num.numF_small (l.take 11) (List.length_take_le _ _)
    refine ⟨by omega, ?_, c3⟩
    rw [← c3]
    refine Num.atoi_itoa n ?_ ?_
    · rw [← h]; unfold Num.specN; split <;> omega
    · rw [← h]; unfold Num.specN; split <;> omega
  · cases h

end Go.Proofs.YtpdpkcadolcbmaaDoor
