/- Texts of one claim laid into one file, in build order: SameS, Big, OpH. -/
import Derived.Test.YtofpcedpmbecgaaDoorHg1
import Derived.Test.YtofpcedpmbecgaaDoorHg26
import Derived.Test.YtofpcedpmbecgaaDoorHg3
import Derived.Test.YtofpcedpmbecgaaDoorHg34
import Derived.Test.YtofpcedpmbecgaaDoorHg7
import Derived.Test.YtofpcedpmbecgaaDoorHg8
import Derived.Below
import Derived.Outline
import Derived.StillTailTactics
import Derived.Test.YtofpcedpmbecgaaDoorRows
/- Contracts (SameS). -/
namespace Go.Proofs.YtofpcedpmbecgaaDoor
open Go.RowKit
set_option linter.unusedVariables false

set_option maxHeartbeats 800000 in
set_option maxRecDepth 100000 in
theorem specSameTree_any (A A' : Option Addr) (n c n' c' : Nat) (xs ys : Tr) (w : World) (h : NdIn w w.heap.size A n xs) (hn : n ≤ 1048576) (h' : NdIn w w.heap.size A' n' ys) (hn' : n' ≤ 1048576) :
    Calls Tryd.prog 9 #[.slice A n c, .slice A' n' c'] w fun e w' => e = .returned (.bool (decide (xs = ys))) ∧ Drawn w w' := by
  have H := Lib.hid h
  have H' := Lib.hid h'
  clear h h'
  have HL := Lib.hid H.out.1
  have HL' := Lib.hid H'.out.1
  by_cases hnn : n = n'
  · go_enter Tryd.func9, Tryd.ntmps9
    have Hnn := Lib.hid hnn
    have hne : ((n : Int) != (n' : Int)) = false := by simp [hnn]
    clear hnn
    go_wp2
    go_loopw [5] (fun iv wr => ∃ k : Nat, k ≤ n ∧ iv = .int .i64 k ∧ Tr.same xs ys k ∧ Drawn w wr) (fun i _ => n - (intOf i).toNat)
    case atStart => exact ⟨0, by omega, rfl, fun j hj => absurd hj (by omega), Drawn.refl _⟩
    case round =>
      obtain ⟨k, hk, rfl, hsm, hD⟩ := hrel
      have Hsm := Lib.hid hsm
      clear hsm
      by_cases hlt : k < n
      · obtain ⟨ad, rfl, hb, hl, hd⟩ := (H.out.drawn hD).at_ hlt
        obtain ⟨ad', rfl, hb', hl', hd'⟩ := (H'.out.drawn hD).at_ (k := k) (by rw [← Hnn.out]; exact hlt)
        have hlt' : (k : Int) < (n' : Int) := by rw [← Hnn.out]; omega
        have hk0 : (0 : Int) ≤ (k : Int) := by omega
        by_cases hq1 : Tr.l xs k = Tr.l ys k
        · by_cases hq2 : Tr.d xs k = Tr.d ys k
          · have Hq := Lib.hid (And.intro hq1 hq2)
            have q1 : (Tr.l xs k == Tr.l ys k) = true := by simpa using hq1
            have q2 : (Tr.d xs k == Tr.d ys k) = true := by simpa using hq2
            clear hq1 hq2
            go_wp2
            go_quiet (fail)
            go_wp2
            go_roundw
            case rel => exact ⟨k + 1, by omega, by go_num, fun j hj => by
              rcases Nat.lt_succ_iff_lt_or_eq.1 hj with h' | rfl
              · exact Hsm.out j h'
              · exact Hq.out, hD.drewN _⟩
            case measure => simp [intOf]; omega
          · have Hq := Lib.hid hq2
            have q1 : (Tr.l xs k == Tr.l ys k) = true := by simpa using hq1
            have q2 : (Tr.d xs k == Tr.d ys k) = false := by simpa using hq2
            clear hq1 hq2
            go_wp2
            go_quiet (fail)
            go_wp2
            go_ret
            refine ⟨Kit.ret_bool ?_, hD.drewN _⟩
            symm
            rw [decide_eq_false_iff_not]
            rintro rfl
            exact Hq.out rfl
        · have Hq := Lib.hid hq1
          have q1 : (Tr.l xs k == Tr.l ys k) = false := by simpa using hq1
          clear hq1
          go_wp2
          go_quiet (fail)
          go_wp2
          go_ret
          refine ⟨Kit.ret_bool ?_, hD.drewN _⟩
          symm
          rw [decide_eq_false_iff_not]
          rintro rfl
          exact Hq.out rfl
      · obtain rfl : k = n := by omega
        go_wp2
        go_ret
        refine ⟨Kit.ret_bool ?_, hD⟩
        symm
        rw [decide_eq_true_eq]
        exact Tr.ext (by rw [HL.out, HL'.out]; exact Hnn.out) (fun j hj => Hsm.out j (by rw [← HL.out]; exact hj))
  · have hne : ((n : Int) != (n' : Int)) = true := by simp; omega
    have Hq := Lib.hid (show decide (xs = ys) = false by
      rw [decide_eq_false_iff_not]; rintro rfl; exact hnn (HL.out.symm.trans HL'.out))
    clear hnn
    go_enter Tryd.func9, Tryd.ntmps9
    go_wp2
    go_ret
    exact ⟨Kit.ret_bool Hq.out.symm, Drawn.refl _⟩

end Go.Proofs.YtofpcedpmbecgaaDoor

/- Laws over a code: codes that are too long; the code as bytes. -/
namespace Go.Proofs.YtofpcedpmbecgaaDoor
open Go.RowKit
set_option linter.unusedVariables false

set_option maxHeartbeats 400000 in
theorem big_small (a : Option Addr) (n cap : Nat) (h : (n : Int) ≤ 1048576) (w : World) :
    Calls Tryd.prog 5 #[.slice a n cap] w fun e w' => e = .returned (.bool false) ∧ w = w' := by
  go_enter Tryd.func5, Tryd.ntmps5
  go_wp2
  go_ret
  exact ⟨Kit.ret_bool (by simp; try omega), rfl⟩
set_option maxHeartbeats 400000 in
theorem big_big (a : Option Addr) (n cap : Nat) (h : (1048576 : Int) < n) (w : World) :
    Calls Tryd.prog 5 #[.slice a n cap] w fun e w' => e = .returned (.bool true) ∧ w = w' := by
  go_enter Tryd.func5, Tryd.ntmps5
  go_wp2
  go_ret
  exact ⟨Kit.ret_bool (by simp; try omega), rfl⟩

theorem code_of {w : World} {a : Option Addr} {n cap : Nat} {zs : List Int} (h : Kit.BytesIn w a n cap zs) : (zs.take n).length = n ∧ CodeIn w w.heap.size a (zs.take n) := by
  rcases h with ⟨rfl, rfl, rfl, rfl⟩ | ⟨x, rfl, hl, hm, hz, hcell, hwz⟩
  · exact ⟨rfl, fun j hj => by simp at hj⟩
  · have hlen : (zs.take n).length = n := by simp; omega
    refine ⟨hlen, fun j hj => ?_⟩
    have hj' : j < n := by omega
    have hc := hcell j (by omega)
    obtain ⟨b, off, spot⟩ := x
    have hspot : spot = none := by
      have := World.cell?_spot (hcell 0 (by omega))
      simpa [Addr.add] using this
    subst hspot
    have e : ((⟨b, off, none⟩ : Addr).add j) = ⟨b, off + j, none⟩ := by unfold Addr.add; split <;> simp_all
    rw [e] at hc
    have hg : (zs.take n).getD j 0 = zs.getD j 0 := by simp [List.getD, hj']
    refine ⟨b, off, rfl, ?_, by rw [hg]; exact hc, ?_⟩
    · rcases Nat.lt_or_ge b w.heap.size with h' | h'
      · exact h'
      · simp [World.cell?, Array.getElem?_eq_none h'] at hc
    · rw [hg]
      have hm : zs.getD j 0 ∈ zs := by
        rw [List.getD_eq_getElem?_getD, List.getElem?_eq_getElem (by omega)]
        exact List.getElem_mem _
      have := hwz _ hm
      simp only [List.getD_eq_getElem?_getD] at this ⊢
      simp [Lit.wf, IntKind.min, IntKind.max, IntKind.signed, IntKind.bits] at this
      omega


end Go.Proofs.YtofpcedpmbecgaaDoor

/- Contracts (OpH). -/
namespace Go.Proofs.YtofpcedpmbecgaaDoor
open Go.RowKit
set_option linter.unusedVariables false

/-- a variable of five cells -/
def Bx5 (w : World) (b : Nat) (v0 v1 v2 v3 v4 : Value) : Prop := w.cell? ⟨b, 0, none⟩ = some v0 ∧ w.cell? ⟨b, 1, none⟩ = some v1 ∧ w.cell? ⟨b, 2, none⟩ = some v2 ∧ w.cell? ⟨b, 3, none⟩ = some v3 ∧ w.cell? ⟨b, 4, none⟩ = some v4
section
variable {w w' : World} {b B : Nat} {v0 v1 v2 v3 v4 : Value}
theorem Bx5.made (w : World) (v0 v1 v2 v3 v4 : Value) (T : TypeId) : Bx5 (w.alloc (.cells #[v0, v1, v2, v3, v4] T)) w.heap.size v0 v1 v2 v3 v4 := ⟨by simp, by simp, by simp, by simp, by simp⟩
theorem Bx5.free (w : World) (v0 v1 v2 v3 v4 : Value) (T : TypeId) (off : Nat) : (w.alloc (.cells #[v0, v1, v2, v3, v4] T)).frozen? ⟨w.heap.size, off, none⟩ = false := by simp
theorem Bx5.below (h : Bx5 w b v0 v1 v2 v3 v4) (hb : Below B w w') (hl : b < B) : Bx5 w' b v0 v1 v2 v3 v4 :=
  ⟨(hb.cell (p := ⟨b, 0, none⟩) hl).trans h.1, (hb.cell (p := ⟨b, 1, none⟩) hl).trans h.2.1, (hb.cell (p := ⟨b, 2, none⟩) hl).trans h.2.2.1, (hb.cell (p := ⟨b, 3, none⟩) hl).trans h.2.2.2.1, (hb.cell (p := ⟨b, 4, none⟩) hl).trans h.2.2.2.2⟩
theorem Bx5.lt (h : Bx5 w b v0 v1 v2 v3 v4) : b < w.heap.size := World.block_lt_of_cell? _ _ h.1
theorem Bx5.keep (h : Bx5 w b v0 v1 v2 v3 v4) (hb : Below w.heap.size w w') : Bx5 w' b v0 v1 v2 v3 v4 := h.below hb h.lt
theorem Bx5.set1 (h : Bx5 w b v0 v1 v2 v3 v4) (u : Value) : Bx5 (w.setCell ⟨b, 1, none⟩ u) b v0 u v2 v3 v4 :=
  ⟨by rw [World.cell?_setCell_other _ _ _ _ (by simp)]; exact h.1, World.cell?_setCell_same _ _ _ h.2.1, by rw [World.cell?_setCell_other _ _ _ _ (by simp)]; exact h.2.2.1, by rw [World.cell?_setCell_other _ _ _ _ (by simp)]; exact h.2.2.2.1, by rw [World.cell?_setCell_other _ _ _ _ (by simp)]; exact h.2.2.2.2⟩
theorem Bx5.other (h : Bx5 w b v0 v1 v2 v3 v4) {p : Addr} (hp : p.block ≠ b) (u : Value) : Bx5 (w.setCell p u) b v0 v1 v2 v3 v4 :=
  ⟨by rw [World.cell?_setCell_other _ _ _ _ (fun e => hp (congrArg Addr.block e))]; exact h.1, by rw [World.cell?_setCell_other _ _ _ _ (fun e => hp (congrArg Addr.block e))]; exact h.2.1, by rw [World.cell?_setCell_other _ _ _ _ (fun e => hp (congrArg Addr.block e))]; exact h.2.2.1, by rw [World.cell?_setCell_other _ _ _ _ (fun e => hp (congrArg Addr.block e))]; exact h.2.2.2.1, by rw [World.cell?_setCell_other _ _ _ _ (fun e => hp (congrArg Addr.block e))]; exact h.2.2.2.2⟩
end
theorem results_box1 {fn : Func} {p : Tmp} {ty : TypeId} (h : fn.results = #[.cell p ty]) (tmps : Array Value) (P : Program) (w : World) :
    (results fn tmps).run P w = ((asAddr (tmps.getD p undef)).run P w).andThen fun a w₁ => (loadVar ty a).run P w₁ := by
  simp only [results, h]
  simp [Sem.run_bind]
/-- a row stands where another block is written -/
theorem own_apart {w w' : World} {base n size : Nat} {e : TypeId} {u : Value} {xs : List Value} {row : Option Nat} (h : w.ownsRow base e size u n xs) (hg : w.grownBy w' row) (hne : u.ownBlock = none ∨ u.ownBlock ≠ row) : w'.ownsRow base e size u n xs := by
  refine ⟨h.1, ?_⟩
  rcases h.2 with h1 | ⟨g, cap, cur, hv, hb, hg', hr⟩
  · exact .inl h1
  · subst hv
    refine .inr ⟨g, cap, cur, rfl, hb, (hg.block g (Array.getElem?_eq_some_iff.1 hg').1 ?_).trans hg', hr⟩
    rcases hne with h | h
    · cases h
    · exact h
end Go.Proofs.YtofpcedpmbecgaaDoor
