/- Texts of one claim laid into one file, in build order: NdPt, NdTo, NdSm, NdEq, ExForestDist, NdOpen, CoOpen. -/
import Derived.Test.YtlndaflhlkbedaaMg13
import Derived.ChangeArms
import Derived.ChangeSlices
import Derived.Deep.RegionHeld3
import Derived.Deep.SlicePairs
import Derived.Laws.Entries
import Derived.Laws.MakeOwn
import Derived.Lib.SmallJoins
import Derived.Outline
import Derived.StillTailTactics
import Derived.Test.YtlndaflhlkbedaaRows
import Derived.WideShapes
/- Lists of which the first part is laid (NdPt). -/
namespace Go.Proofs.Ytlndaflhlkbedaa
open Go.RowKit
set_option linter.unusedVariables false

/-- the first k nodes of xs, then zeros -/
def Tr.part (xs : Tr) (k : Nat) : Tr := xs.take k ++ List.replicate (xs.length - k) (0, 0)
theorem Tr.part_length (xs : Tr) (k : Nat) (hk : k ≤ xs.length) : (Tr.part xs k).length = xs.length := by simp [Tr.part]; omega
theorem Tr.part_set (xs : Tr) (k : Nat) (hk : k < xs.length) : (Tr.part xs k).set k (Tr.l xs k, Tr.d xs k) = Tr.part xs (k + 1) := by
  unfold Tr.part
  rw [List.set_append_right _ _ (by simp; omega)]
  rw [List.take_succ_eq_append_getElem hk, List.append_assoc]
  congr 1
  rw [show xs.length - k = (xs.length - (k + 1)) + 1 by omega, List.replicate_succ]
  simp [Tr.l, Tr.d, List.getD_eq_getElem?_getD, hk, show k - min k xs.length = 0 by omega]
theorem Tr.part_full (xs : Tr) : Tr.part xs xs.length = xs := by simp [Tr.part]
theorem Tr.part_none (xs : Tr) : Tr.part xs 0 = List.replicate xs.length (0, 0) := by simp [Tr.part]

theorem made_nodes (n : Nat) : (madeCells (Value.agg #[.int .i64 0, .int .i64 0]).cells (n * 2)).toList = Tr.cells (List.replicate n (0, 0)) := by
  have h1 (m : Nat) : Tr.cells (List.replicate m (0, 0)) = List.replicate (m * 2) (.int .i64 0) := by
    induction m with
    | zero => rfl
    | succ m ih => rw [List.replicate_succ, show (m + 1) * 2 = m * 2 + 1 + 1 by omega, List.replicate_succ, List.replicate_succ, ← ih]; rfl
  rw [h1]
  apply List.ext_getElem?
  intro j
  by_cases hj : j < n * 2
  · have h2 : j % 2 = 0 ∨ j % 2 = 1 := by omega
    rcases h2 with h2 | h2 <;> simp [madeCells, hj, h2, Value.cells]
  · simp [madeCells, hj]

end Go.Proofs.Ytlndaflhlkbedaa

/- Contracts of the harness over []Node: size, copy. -/
namespace Go.Proofs.Ytlndaflhlkbedaa
open Go.RowKit
set_option linter.unusedVariables false

set_option maxHeartbeats 400000 in
theorem szNodeS_any (A : Option Addr) (n c : Nat) (left : Int) (w : World) (hn : n ≤ 9223372036854775807) (h0 : 0 ≤ left) (h1 : left ≤ 1048576) :
    Calls Try.prog 48 #[.slice A n c, .int .i64 left] w fun e w' => e = .returned (.int .i64 (if (n : Int) ≤ left then left - n else -1)) ∧ w = w' := by
  by_cases h : (n : Int) ≤ left
  · rw [if_pos h]
    go_enter Try.func48, Try.ntmps48
    go_wp2
    go_ret
    exact ⟨rfl, rfl⟩
  · rw [if_neg h]
    go_enter Try.func48, Try.ntmps48
    go_wp2
    go_ret
    exact ⟨rfl, rfl⟩

set_option maxHeartbeats 400000 in
theorem toNode_any (a b : Int) (w : World) :
    Calls Try.prog 103 #[.agg #[.int .i64 a, .int .i64 b]] w fun e w' => e = .returned (.agg #[.int .i64 a, .int .i64 b]) ∧ Below w.heap.size w w' := by
  go_enter Try.func103, Try.ntmps103
  go_wp2
  exact bodyPost_ret (v := .agg #[.int .i64 a, .int .i64 b]) (by simp [results, Try.results103, go_sem]) rfl ⟨rfl, by repeat' (first | exact Below.refl _ _ | refine Below.alloc ?_ (by simp [Nat.le_add_right, Nat.add_assoc]) _ | refine Below.setCell ?_ (by simp [Nat.add_assoc]) _)⟩

theorem info_node : (Try.prog.info? 42).map (fun i => (i.zero, i.size, i.bytes)) = some (some (.agg #[.int .i64 0, .int .i64 0]), 2, 16) := by kernel_rfl

set_option maxHeartbeats 800000 in
set_option maxRecDepth 100000 in
theorem toNodeS_any (A : Option Addr) (n c : Nat) (xs : Tr) (w : World) (h : NdIn w w.heap.size A n xs) (hn : n ≤ 1048576) :
    Calls Try.prog 50 #[.slice A n c] w fun e w' => e = .returned (.slice (some ⟨w.heap.size, 0, none⟩) n n) ∧
      w'.ownsRow w.heap.size 42 2 (.slice (some ⟨w.heap.size, 0, none⟩) n n) n (Tr.cells xs) ∧ Below w.heap.size w w' := by
  have H := Lib.hid h
  clear h
  have HL := Lib.hid H.out.1
  obtain ⟨i0, hi, hz0, hz1, hz2⟩ := info_parts info_node
  go_enter Try.func50, Try.ntmps50
  go_wp2_with (at_make; refine wpList_make_full _ rfl _ _ 24 rfl w.heap.size 42 i0 (.agg #[.int .i64 0, .int .i64 0]) 2 Try.underlying24 hi hz0 hz1 _ _ _ _ n rfl rfl rfl rfl (by rw [hz2]; omega) (by unfold maxLen; omega) (Nat.le_refl _) ?_; intro w1 hown1 hgrow1)
  have hb1 : Below w.heap.size w w1 := (Below.refl _ w).grown hgrow1 (Nat.le_refl _) (fun _ h => by cases h)
  rw [made_nodes, ← HL.out, ← Tr.part_none, HL.out] at hown1
  go_loopw [4] (fun iv wr => ∃ k : Nat, k ≤ n ∧ iv = .int .i64 k ∧ wr.ownsRow w.heap.size 42 2 (.slice (some ⟨w.heap.size, 0, none⟩) n n) n (Tr.cells (Tr.part xs k)) ∧ Below w.heap.size w wr) (fun i _ => n - (intOf i).toNat)
  case atStart => exact ⟨0, by omega, rfl, hown1, hb1⟩
  case round =>
    obtain ⟨k, hk, rfl, hown, hB⟩ := hrel
    have hsz := hB.size
    by_cases hlt : k < n
    · obtain ⟨ad, rfl, hb, hl, hd⟩ := (H.out.below hB).at_ hlt
      have Ho := Lib.hid hown
      have HB := Lib.hid hB
      clear hown hB
      go_wp2_with (go_at_call 103; refine (toNode_any _ _ _).mono ?_; rintro e w' ⟨rfl, hb'⟩; have hb2 := Lib.hid hb'; clear hb'; have Ho2 := Lib.hid (own_below Ho.out hb2.out); have c0 := own_even Ho2.out (k := k) (by rw [Tr.part_length _ _ (by rw [HL.out]; omega), HL.out]; omega); have c1 := own_odd Ho2.out (k := k) (by rw [Tr.part_length _ _ (by rw [HL.out]; omega), HL.out]; omega); have f0 := Ho2.out.frozenAt (k * 2); have f1 := Ho2.out.frozenAt (k * 2 + 1))
      go_roundw
      case rel =>
        refine ⟨k + 1, by omega, by go_num, ?_, ?_⟩
        · have := own_set Ho2.out k (Tr.l xs k) (Tr.d xs k)
          rw [Tr.part_set xs k (by rw [HL.out]; exact hlt)] at this
          exact this
        · exact ((HB.out.trans (hb2.out.mono hsz)).setCell (Nat.le_refl _) _).setCell (Nat.le_refl _) _
      case measure => simp [intOf]; omega
    · obtain rfl : k = n := by omega
      rw [← HL.out, Tr.part_full, HL.out] at hown
      go_wp2
      go_ret
      exact ⟨rfl, hown, hB⟩

end Go.Proofs.Ytlndaflhlkbedaa

/- Two lists of nodes that agree so far. -/
namespace Go.Proofs.Ytlndaflhlkbedaa
open Go.RowKit
set_option linter.unusedVariables false

/-- the first k nodes agree -/
def Tr.same (xs ys : Tr) (k : Nat) : Prop := ∀ j, j < k → Tr.l xs j = Tr.l ys j ∧ Tr.d xs j = Tr.d ys j

end Go.Proofs.Ytlndaflhlkbedaa

/- Contracts of the harness over []Node: equality. -/
namespace Go.Proofs.Ytlndaflhlkbedaa
open Go.RowKit
set_option linter.unusedVariables false

set_option maxHeartbeats 400000 in
theorem eqNode_any (a b c d : Int) (w : World) :
    Calls Try.prog 105 #[.agg #[.int .i64 a, .int .i64 b], .agg #[.int .i64 c, .int .i64 d]] w fun e w' => e = .returned (.bool (decide (a = c ∧ b = d))) ∧ Below w.heap.size w w' := by
  have hB : ∀ o1 o2, Below w.heap.size w ((w.alloc o1).alloc o2) := fun o1 o2 => ((Below.refl _ _).alloc (Nat.le_refl _) _).alloc (by simp) _
  by_cases h1 : a = c
  · by_cases h2 : b = d
    · subst h1 h2
      go_enter Try.func105, Try.ntmps105
      go_wp2
      go_ret
      exact ⟨Kit.ret_bool (by simp), hB _ _⟩
    · have h2' : (b != d) = true := by simpa using h2
      subst h1
      go_enter Try.func105, Try.ntmps105
      go_wp2
      go_ret
      exact ⟨Kit.ret_bool (by simp [h2]), hB _ _⟩
  · have h1' : (a != c) = true := by simpa using h1
    go_enter Try.func105, Try.ntmps105
    go_wp2
    go_ret
    exact ⟨Kit.ret_bool (by simp [h1]), hB _ _⟩


set_option maxHeartbeats 800000 in
set_option maxRecDepth 100000 in
theorem eqNodeS_any (A A' : Option Addr) (n c n' c' : Nat) (xs ys : Tr) (w : World) (h : NdIn w w.heap.size A n xs) (h' : NdIn w w.heap.size A' n' ys) (hn : n ≤ 1048576) (hn' : n' ≤ 1048576) :
    Calls Try.prog 52 #[.slice A n c, .slice A' n' c'] w fun e w' => e = .returned (.bool (decide (xs = ys))) ∧ Below w.heap.size w w' := by
  have H := Lib.hid h
  have H' := Lib.hid h'
  clear h h'
  have HL := Lib.hid H.out.1
  have HL' := Lib.hid H'.out.1
  by_cases hnn : n = n'
  · go_enter Try.func52, Try.ntmps52
    have Hnn := Lib.hid hnn
    have hne : ((n : Int) != (n' : Int)) = false := by simp [hnn]
    clear hnn
    go_wp2
    go_loopw [5] (fun iv wr => ∃ k : Nat, k ≤ n ∧ iv = .int .i64 k ∧ Tr.same xs ys k ∧ Below w.heap.size w wr) (fun i _ => n - (intOf i).toNat)
    case atStart => exact ⟨0, by omega, rfl, fun j hj => absurd hj (by omega), Below.refl _ _⟩
    case round =>
      obtain ⟨k, hk, rfl, hsm, hB⟩ := hrel
      have hsz := hB.size
      have Hsm := Lib.hid hsm
      have HB := Lib.hid hB
      clear hsm hB
      by_cases hlt : k < n
      · obtain ⟨ad, rfl, hb, hl, hd⟩ := (H.out.below HB.out).at_ hlt
        obtain ⟨ad', rfl, hb', hl', hd'⟩ := (H'.out.below HB.out).at_ (k := k) (by rw [← Hnn.out]; exact hlt)
        have hlt' : (k : Int) < (n' : Int) := by rw [← Hnn.out]; omega
        have hk0 : (0 : Int) ≤ (k : Int) := by omega
        have HB2 := Lib.hid HB.out.drew
        have hsz2 := HB.out.drew.size
        by_cases hq : Tr.l xs k = Tr.l ys k ∧ Tr.d xs k = Tr.d ys k
        · have hq' : decide (Tr.l xs k = Tr.l ys k ∧ Tr.d xs k = Tr.d ys k) = true := by simpa using hq
          have Hq := Lib.hid hq
          clear hq
          go_wp2
          go_still_tail 8, (by kernel_rfl)
          change wpList _ _ _ _ _ wr.drew
          generalize wr.drew = w2 at HB2 hsz2 ⊢
          go_wp2_with (go_at_call 105; refine (eqNode_any _ _ _ _ _).mono ?_; rintro e w3 ⟨rfl, hb3⟩)
          go_roundw
          case rel => exact ⟨k + 1, by omega, by go_num, fun j hj => by
            rcases Nat.lt_succ_iff_lt_or_eq.1 hj with h' | rfl
            · exact Hsm.out j h'
            · exact Hq.out, HB2.out.trans (hb3.mono hsz2)⟩
          case measure => simp [intOf]; omega
        · have hq' : decide (Tr.l xs k = Tr.l ys k ∧ Tr.d xs k = Tr.d ys k) = false := by simpa using hq
          have Hq := Lib.hid hq
          clear hq
          go_wp2
          go_still_tail 8, (by kernel_rfl)
          change wpList _ _ _ _ _ wr.drew
          generalize wr.drew = w2 at HB2 hsz2 ⊢
          go_wp2_with (go_at_call 105; refine (eqNode_any _ _ _ _ _).mono ?_; rintro e w3 ⟨rfl, hb3⟩)
          go_ret
          refine ⟨Kit.ret_bool ?_, HB2.out.trans (hb3.mono hsz2)⟩
          symm
          rw [decide_eq_false_iff_not]
          rintro rfl
          exact Hq.out ⟨rfl, rfl⟩
      · obtain rfl : k = n := by omega
        go_wp2
        go_ret
        refine ⟨Kit.ret_bool ?_, HB.out⟩
        symm
        rw [decide_eq_true_eq]
        exact Tr.ext (by rw [HL.out, HL'.out]; exact Hnn.out) (fun j hj => Hsm.out j (by rw [← HL.out]; exact hj))
  · have hne : ((n : Int) != (n' : Int)) = true := by simp; omega
    have Hq := Lib.hid (show decide (xs = ys) = false by
      rw [decide_eq_false_iff_not]; rintro rfl; exact hnn (HL.out.symm.trans HL'.out))
    clear hnn
    go_enter Try.func52, Try.ntmps52
    go_wp2
    go_ret
    exact ⟨Kit.ret_bool Hq.out.symm, Below.refl _ _⟩

end Go.Proofs.Ytlndaflhlkbedaa

/- Contracts (ExForestDist). -/
namespace Go.Proofs.Ytlndaflhlkbedaa
open Go.RowKit
set_option linter.unusedVariables false

set_option maxHeartbeats 3200000 in
set_option maxRecDepth 100000 in
theorem exactForestDist_walk (A0 : Option Addr) (n0 c0 : Nat) (x0 : Tr) (a1 : Int) (a2 : Int) (A3 : Option Addr) (n3 c3 : Nat) (x3 : Tr) (a4 : Int) (a5 : Int) (A60 A61 A62 : Option Addr) (n60 n61 n62 c60 c61 c62 : Nat) (x6 : Co) (le0 : n0 ≤ maxLen) (_wf0 : Tr.wf x0) (_w1 : (Lit.int .i64 a1).wf = true) (_w2 : (Lit.int .i64 a2).wf = true) (le3 : n3 ≤ maxLen) (_wf3 : Tr.wf x3) (_w4 : (Lit.int .i64 a4).wf = true) (_w5 : (Lit.int .i64 a5).wf = true) (le60 : n60 ≤ maxLen) (le61 : n61 ≤ maxLen) (le62 : n62 ≤ maxLen) (w : World) (h0 : NdIn w w.heap.size A0 n0 x0) (h3 : NdIn w w.heap.size A3 n3 x3) (h6 : CoIn w w.heap.size A60 A61 A62 n60 n61 n62 x6) :
    Calls Try.prog 8 #[.slice A0 n0 c0, .int .i64 a1, .int .i64 a2, .slice A3 n3 c3, .int .i64 a4, .int .i64 a5, .agg #[.slice A60 n60 c60, .slice A61 n61 c61, .slice A62 n62 c62]] w fun e w' => e = .returned (.bool true) ∧ Below w.heap.size w w' := by
  have Ia0 := Lib.hid h0
  have Hn0 := Lib.hid h0.1
  clear h0
  unfold maxLen at le0
  have Ia3 := Lib.hid h3
  have Hn3 := Lib.hid h3.1
  clear h3
  unfold maxLen at le3
  have Ia6 := Lib.hid h6
  have Hn6 := Lib.hid h6.len
  clear h6
  unfold maxLen at le60 le61 le62
  obtain ⟨wa, hwa⟩ : ∃ wa, wa = (w.alloc (.cells #[.slice A60 n60 c60, .slice A61 n61 c61, .slice A62 n62 c62] 58)) := ⟨_, rfl⟩
  have LW := Lib.hid (show Below w.heap.size w wa by rw [hwa]; exact (Below.refl _ _).alloc (Nat.le_refl _) _)
  have HX6 := Lib.hid (show Box3 wa (w.heap.size) (.slice A60 n60 c60) (.slice A61 n61 c61) (.slice A62 n62 c62) by rw [hwa]; exact Box3.made _ _ _ _ _)
  have GL6 := Lib.hid (show w.heap.size < wa.heap.size by rw [hwa]; simp)
  have LB6 := Lib.hid (Below.refl wa.heap.size wa)
  have HWA := Lib.hid hwa
  clear hwa
  by_cases hs0 : (n0) ≤ 1048576
  rotate_left
  · go_enter Try.func8, Try.ntmps8
    go_wp2_with fail
    rw [← HWA.out]
    refine (szNodeS_any _ _ _ _ _ le0 (by omega) (by omega)).mono ?_
    rintro e w' ⟨rfl, rfl⟩
    rw [if_neg (by omega)]
    go_wp2
    go_ret
    exact ⟨rfl, LW.out⟩
  by_cases hs3 : (n0) + (n3) ≤ 1048576
  rotate_left
  · go_enter Try.func8, Try.ntmps8
    go_wp2_with fail
    rw [← HWA.out]
    refine (szNodeS_any _ _ _ _ _ le0 (by omega) (by omega)).mono ?_
    rintro e w' ⟨rfl, rfl⟩
    rw [if_pos (by omega)]
    go_wp2_with fail
    refine (szNodeS_any _ _ _ _ _ le3 (by omega) (by omega)).mono ?_
    rintro e w' ⟨rfl, rfl⟩
    rw [if_neg (by omega)]
    go_wp2
    go_ret
    exact ⟨rfl, LW.out⟩
  by_cases hs6 : (n0) + (n3) + (n60 + n61 + n62) ≤ 1048576
  rotate_left
  · go_enter Try.func8, Try.ntmps8
    go_wp2_with fail
    rw [← HWA.out]
    refine (szNodeS_any _ _ _ _ _ le0 (by omega) (by omega)).mono ?_
    rintro e w' ⟨rfl, rfl⟩
    rw [if_pos (by omega)]
    go_wp2_with fail
    refine (szNodeS_any _ _ _ _ _ le3 (by omega) (by omega)).mono ?_
    rintro e w' ⟨rfl, rfl⟩
    rw [if_pos (by omega)]
    obtain ⟨g60, g61, g62⟩ := HX6.out.below LB6.out GL6.out
    go_wp2_with fail
    clear g60 g61 g62
    refine (szCost_any _ _ _ _ _ _ _ _ _ _ _ (by omega) (by omega) (by omega) (by omega) (by omega)).mono ?_
    rintro e w1 ⟨rfl, hb⟩
    have LB6 := Lib.hid (LB6.out.trans (hb.mono LB6.out.size))
    have LW := Lib.hid (LW.out.trans (hb.mono LW.out.size))
    clear hb
    rw [if_neg (by omega)]
    go_wp2
    go_ret
    exact ⟨rfl, LW.out⟩
  have hn0 : n0 ≤ 1048576 := by omega
  have hn3 : n3 ≤ 1048576 := by omega
  have hn60 : n60 ≤ 1048576 := by omega
  have hn61 : n61 ≤ 1048576 := by omega
  have hn62 : n62 ≤ 1048576 := by omega
  have La0 := Lib.hid LW.out
  have La3 := Lib.hid LW.out
  have La6 := Lib.hid LW.out
  go_enter Try.func8, Try.ntmps8
  go_wp2_with fail
  rw [← HWA.out]
  refine (szNodeS_any _ _ _ _ _ le0 (by omega) (by omega)).mono ?_
  rintro e w' ⟨rfl, rfl⟩
  rw [if_pos (by omega)]
  go_wp2_with fail
  refine (szNodeS_any _ _ _ _ _ le3 (by omega) (by omega)).mono ?_
  rintro e w' ⟨rfl, rfl⟩
  rw [if_pos (by omega)]
  obtain ⟨g60, g61, g62⟩ := HX6.out.below LB6.out GL6.out
  go_wp2_with fail
  clear g60 g61 g62
  refine (szCost_any _ _ _ _ _ _ _ _ _ _ _ (by omega) (by omega) (by omega) (by omega) (by omega)).mono ?_
  rintro e w1 ⟨rfl, hb⟩
  have La0 := Lib.hid (La0.out.trans (hb.mono La0.out.size))
  have La3 := Lib.hid (La3.out.trans (hb.mono La3.out.size))
  have La6 := Lib.hid (La6.out.trans (hb.mono La6.out.size))
  have LB6 := Lib.hid (LB6.out.trans (hb.mono LB6.out.size))
  have LW := Lib.hid (LW.out.trans (hb.mono LW.out.size))
  clear hb
  rw [if_pos (by omega)]
  obtain ⟨g60, g61, g62⟩ := HX6.out.below LB6.out GL6.out
  obtain ⟨g60, g61, g62⟩ := HX6.out.below LB6.out GL6.out
  go_wp2_with fail
  have S0 := Lib.hid (show w1.drew.cell? ⟨w.heap.size, 0, none⟩ = some (.slice A60 n60 c60) ∧ w1.drew.cell? ⟨w.heap.size, 1, none⟩ = some (.slice A61 n61 c61) ∧ w1.drew.cell? ⟨w.heap.size, 2, none⟩ = some (.slice A62 n62 c62) ∧ w1.drew.cell? ⟨w.heap.size, 0, none⟩ = some (.slice A60 n60 c60) ∧ w1.drew.cell? ⟨w.heap.size, 1, none⟩ = some (.slice A61 n61 c61) ∧ w1.drew.cell? ⟨w.heap.size, 2, none⟩ = some (.slice A62 n62 c62) ∧ SixG w1 (w.heap.size) (w.heap.size) w1.drew from ⟨g60, g61, g62, g60, g61, g62, (Below.refl _ _).drew, Nat.lt_of_lt_of_le GL6.out LB6.out.size, Nat.lt_of_lt_of_le GL6.out LB6.out.size⟩)
  clear g60 g61 g62
  clear g60 g61 g62
  go_region_held3 (fun wq => wq.cell? ⟨w.heap.size, 0, none⟩ = some (.slice A60 n60 c60) ∧ wq.cell? ⟨w.heap.size, 1, none⟩ = some (.slice A61 n61 c61) ∧ wq.cell? ⟨w.heap.size, 2, none⟩ = some (.slice A62 n62 c62) ∧ wq.cell? ⟨w.heap.size, 0, none⟩ = some (.slice A60 n60 c60) ∧ wq.cell? ⟨w.heap.size, 1, none⟩ = some (.slice A61 n61 c61) ∧ wq.cell? ⟨w.heap.size, 2, none⟩ = some (.slice A62 n62 c62) ∧ SixG w1 (w.heap.size) (w.heap.size) wq) (first | exact S0.out | (refine six_keep ?_ hb; assumption)) (first | (go_at_call 50; (fail_if_success (have := ts0)); refine (toNodeS_any _ _ _ x0 _ (Ia0.out.to_below (La0.out.trans ((six_below (by assumption)).mono La0.out.size))) hn0).mono ?_; rintro e w2 ⟨rfl, ho, hb⟩; have ts0 := True.intro; have Is0 := Lib.hid (NdIn.of_own ho); clear ho) | (go_at_call 50; (fail_if_success (have := ts3)); refine (toNodeS_any _ _ _ x3 _ (Ia3.out.to_below (La3.out.trans ((six_below (by assumption)).mono La3.out.size))) hn3).mono ?_; rintro e w3 ⟨rfl, ho, hb⟩; have ts3 := True.intro; have Is0 := Lib.hid (Is0.out.to_below hb); have Is3 := Lib.hid (NdIn.of_own ho); clear ho) | (go_at_call 51; refine (toCost_any _ _ _ _ _ _ _ _ _ x6 _ (Ia6.out.to_below (La6.out.trans ((six_below (by assumption)).mono La6.out.size))) hn60 hn61 hn62).mono ?_; rintro e w4 ⟨As0, As1, As2, cs0, cs1, cs2, rfl, o0, o1, o2, _, _, _, hb⟩; have Is0 := Lib.hid (Is0.out.to_below hb); have Is3 := Lib.hid (Is3.out.to_below hb); have Is6 := Lib.hid (show CoIn w4 w4.heap.size As0 As1 As2 x6.d.length x6.i.length x6.r.length x6 from ⟨IntIn.of_own o0, IntIn.of_own o1, IntIn.of_own o2⟩); clear o0 o1 o2) | (go_at_call 31; refine (specForestDist_any (c := _) (c' := _) (c0 := _) (c1 := _) (c2 := _) (ha := Is0.out) (hb := Is3.out) (hk := Is6.out) (hn := hn0) (hn' := hn3) (h0 := (by rw [Hn6.out.1]; exact hn60)) (h1 := (by rw [Hn6.out.2.1]; exact hn61)) (h2 := (by rw [Hn6.out.2.2]; exact hn62)) (i0 := a1) (i1 := a2) (i2 := a4) (i3 := a5)).mono ?_; rintro e w5 ⟨rfl, hb⟩))
  have hb := Lib.hid (show SixG w1 (w.heap.size) (w.heap.size) w5 by (first | (rename_i q; exact q.2.2.2.2.2.2) | (rename_i q _; exact q.2.2.2.2.2.2)))
  have hb := hb.out.1
  clear S0
  have La0 := Lib.hid (La0.out.trans (hb.mono La0.out.size))
  have La3 := Lib.hid (La3.out.trans (hb.mono La3.out.size))
  have La6 := Lib.hid (La6.out.trans (hb.mono La6.out.size))
  have LB6 := Lib.hid (LB6.out.trans (hb.mono LB6.out.size))
  have LW := Lib.hid (LW.out.trans (hb.mono LW.out.size))
  clear hb
  clear Is6 Is0 Is3 ts0 ts3
  go_wp2_with fail
  refine (toNodeS_any _ _ _ x0 _ (Ia0.out.to_below La0.out) hn0).mono ?_
  rintro e w6 ⟨rfl, ho, hb⟩
  have La0 := Lib.hid (La0.out.trans (hb.mono La0.out.size))
  have La3 := Lib.hid (La3.out.trans (hb.mono La3.out.size))
  have La6 := Lib.hid (La6.out.trans (hb.mono La6.out.size))
  have LB6 := Lib.hid (LB6.out.trans (hb.mono LB6.out.size))
  have LW := Lib.hid (LW.out.trans (hb.mono LW.out.size))
  clear hb
  have Ix0 := Lib.hid (NdIn.of_own ho)
  have Lx0 := Lib.hid (Below.refl w6.heap.size w6)
  clear ho
  go_wp2_with fail
  refine (toNodeS_any _ _ _ x3 _ (Ia3.out.to_below La3.out) hn3).mono ?_
  rintro e w7 ⟨rfl, ho, hb⟩
  have La0 := Lib.hid (La0.out.trans (hb.mono La0.out.size))
  have La3 := Lib.hid (La3.out.trans (hb.mono La3.out.size))
  have La6 := Lib.hid (La6.out.trans (hb.mono La6.out.size))
  have Lx0 := Lib.hid (Lx0.out.trans (hb.mono Lx0.out.size))
  have LB6 := Lib.hid (LB6.out.trans (hb.mono LB6.out.size))
  have LW := Lib.hid (LW.out.trans (hb.mono LW.out.size))
  clear hb
  have Ix3 := Lib.hid (NdIn.of_own ho)
  have Lx3 := Lib.hid (Below.refl w7.heap.size w7)
  clear ho
  obtain ⟨g60, g61, g62⟩ := HX6.out.below LB6.out GL6.out
  go_wp2_with fail
  clear g60 g61 g62
  refine (toCost_any _ _ _ _ _ _ _ _ _ x6 _ (Ia6.out.to_below La6.out) hn60 hn61 hn62).mono ?_
  rintro e w8 ⟨Ax60, Ax61, Ax62, cx60, cx61, cx62, rfl, o0, o1, o2, _, _, _, hb⟩
  have La0 := Lib.hid (La0.out.trans (hb.mono La0.out.size))
  have La3 := Lib.hid (La3.out.trans (hb.mono La3.out.size))
  have La6 := Lib.hid (La6.out.trans (hb.mono La6.out.size))
  have Lx0 := Lib.hid (Lx0.out.trans (hb.mono Lx0.out.size))
  have Lx3 := Lib.hid (Lx3.out.trans (hb.mono Lx3.out.size))
  have LB6 := Lib.hid (LB6.out.trans (hb.mono LB6.out.size))
  have LW := Lib.hid (LW.out.trans (hb.mono LW.out.size))
  clear hb
  have Ix6 := Lib.hid (show CoIn w8 w8.heap.size Ax60 Ax61 Ax62 x6.d.length x6.i.length x6.r.length x6 from ⟨IntIn.of_own o0, IntIn.of_own o1, IntIn.of_own o2⟩)
  have Lx6 := Lib.hid (Below.refl w8.heap.size w8)
  clear o0 o1 o2
  obtain ⟨w9, hw⟩ : ∃ wb, wb = w8.alloc (.cells #[.slice Ax60 x6.d.length cx60, .slice Ax61 x6.i.length cx61, .slice Ax62 x6.r.length cx62] 27) := ⟨_, rfl⟩
  have hb : Below w8.heap.size w8 w9 := by rw [hw]; exact (Below.refl _ _).alloc (Nat.le_refl _) _
  have La0 := Lib.hid (La0.out.trans (hb.mono La0.out.size))
  have La3 := Lib.hid (La3.out.trans (hb.mono La3.out.size))
  have La6 := Lib.hid (La6.out.trans (hb.mono La6.out.size))
  have Lx0 := Lib.hid (Lx0.out.trans (hb.mono Lx0.out.size))
  have Lx3 := Lib.hid (Lx3.out.trans (hb.mono Lx3.out.size))
  have Lx6 := Lib.hid (Lx6.out.trans (hb.mono Lx6.out.size))
  have LB6 := Lib.hid (LB6.out.trans (hb.mono LB6.out.size))
  have LW := Lib.hid (LW.out.trans (hb.mono LW.out.size))
  clear hb
  have HXx6 := Lib.hid (show Box3 w9 w8.heap.size (.slice Ax60 x6.d.length cx60) (.slice Ax61 x6.i.length cx61) (.slice Ax62 x6.r.length cx62) by rw [hw]; exact Box3.made _ _ _ _ _)
  have GLx6 := Lib.hid (show w8.heap.size < w9.heap.size by rw [hw]; simp)
  have LBx6 := Lib.hid (Below.refl w9.heap.size w9)
  have HW := Lib.hid hw
  clear hw
  obtain ⟨gx60, gx61, gx62⟩ := HXx6.out.below LBx6.out GLx6.out
  rw [HW.out] at gx60 gx61 gx62
  go_wp2_with fail
  clear gx60 gx61 gx62
  rw [← HW.out]
  clear HW
  refine (implForestDist_any (c := _) (c' := _) (c0 := _) (c1 := _) (c2 := _) (ha := (Ix0.out.to_below Lx0.out)) (hb := (Ix3.out.to_below Lx3.out)) (hk := (Ix6.out.to_below Lx6.out)) (hn := hn0) (hn' := hn3) (h0 := (by rw [Hn6.out.1]; exact hn60)) (h1 := (by rw [Hn6.out.2.1]; exact hn61)) (h2 := (by rw [Hn6.out.2.2]; exact hn62)) (i0 := a1) (i1 := a2) (i2 := a4) (i3 := a5) (hc := Nat.le_refl _) (hc' := Nat.le_refl _)).mono ?_
  rintro e w10 ⟨rfl, hb⟩
  have La0 := Lib.hid (La0.out.trans (hb.mono La0.out.size))
  have La3 := Lib.hid (La3.out.trans (hb.mono La3.out.size))
  have La6 := Lib.hid (La6.out.trans (hb.mono La6.out.size))
  have Lx0 := Lib.hid (Lx0.out.trans (hb.mono Lx0.out.size))
  have Lx3 := Lib.hid (Lx3.out.trans (hb.mono Lx3.out.size))
  have Lx6 := Lib.hid (Lx6.out.trans (hb.mono Lx6.out.size))
  have LB6 := Lib.hid (LB6.out.trans (hb.mono LB6.out.size))
  have LBx6 := Lib.hid (LBx6.out.trans (hb.mono LBx6.out.size))
  have LW := Lib.hid (LW.out.trans (hb.mono LW.out.size))
  clear hb
  go_wp2_with fail
  refine (toNodeS_any _ _ _ x0 _ (Ia0.out.to_below La0.out) hn0).mono ?_
  rintro e w11 ⟨rfl, ho, hb⟩
  have La0 := Lib.hid (La0.out.trans (hb.mono La0.out.size))
  have La3 := Lib.hid (La3.out.trans (hb.mono La3.out.size))
  have La6 := Lib.hid (La6.out.trans (hb.mono La6.out.size))
  have Lx0 := Lib.hid (Lx0.out.trans (hb.mono Lx0.out.size))
  have Lx3 := Lib.hid (Lx3.out.trans (hb.mono Lx3.out.size))
  have Lx6 := Lib.hid (Lx6.out.trans (hb.mono Lx6.out.size))
  have LB6 := Lib.hid (LB6.out.trans (hb.mono LB6.out.size))
  have LBx6 := Lib.hid (LBx6.out.trans (hb.mono LBx6.out.size))
  have LW := Lib.hid (LW.out.trans (hb.mono LW.out.size))
  clear hb
  have Iy0 := Lib.hid (NdIn.of_own ho)
  have Ly0 := Lib.hid (Below.refl w11.heap.size w11)
  clear ho
  go_wp2_with fail
  refine (eqNodeS_any _ _ _ _ _ _ x0 x0 _ (Ix0.out.to_below Lx0.out) (Iy0.out.to_below Ly0.out) hn0 hn0).mono ?_
  rintro e w12 ⟨rfl, hb⟩
  have La0 := Lib.hid (La0.out.trans (hb.mono La0.out.size))
  have La3 := Lib.hid (La3.out.trans (hb.mono La3.out.size))
  have La6 := Lib.hid (La6.out.trans (hb.mono La6.out.size))
  have Lx0 := Lib.hid (Lx0.out.trans (hb.mono Lx0.out.size))
  have Lx3 := Lib.hid (Lx3.out.trans (hb.mono Lx3.out.size))
  have Lx6 := Lib.hid (Lx6.out.trans (hb.mono Lx6.out.size))
  have Ly0 := Lib.hid (Ly0.out.trans (hb.mono Ly0.out.size))
  have LB6 := Lib.hid (LB6.out.trans (hb.mono LB6.out.size))
  have LBx6 := Lib.hid (LBx6.out.trans (hb.mono LBx6.out.size))
  have LW := Lib.hid (LW.out.trans (hb.mono LW.out.size))
  clear hb
  go_wp2_with fail
  refine (toNodeS_any _ _ _ x3 _ (Ia3.out.to_below La3.out) hn3).mono ?_
  rintro e w13 ⟨rfl, ho, hb⟩
  have La0 := Lib.hid (La0.out.trans (hb.mono La0.out.size))
  have La3 := Lib.hid (La3.out.trans (hb.mono La3.out.size))
  have La6 := Lib.hid (La6.out.trans (hb.mono La6.out.size))
  have Lx0 := Lib.hid (Lx0.out.trans (hb.mono Lx0.out.size))
  have Lx3 := Lib.hid (Lx3.out.trans (hb.mono Lx3.out.size))
  have Lx6 := Lib.hid (Lx6.out.trans (hb.mono Lx6.out.size))
  have LB6 := Lib.hid (LB6.out.trans (hb.mono LB6.out.size))
  have LBx6 := Lib.hid (LBx6.out.trans (hb.mono LBx6.out.size))
  have LW := Lib.hid (LW.out.trans (hb.mono LW.out.size))
  clear hb
  have Iy3 := Lib.hid (NdIn.of_own ho)
  have Ly3 := Lib.hid (Below.refl w13.heap.size w13)
  clear ho
  go_wp2_with fail
  refine (eqNodeS_any _ _ _ _ _ _ x3 x3 _ (Ix3.out.to_below Lx3.out) (Iy3.out.to_below Ly3.out) hn3 hn3).mono ?_
  rintro e w14 ⟨rfl, hb⟩
  have La0 := Lib.hid (La0.out.trans (hb.mono La0.out.size))
  have La3 := Lib.hid (La3.out.trans (hb.mono La3.out.size))
  have La6 := Lib.hid (La6.out.trans (hb.mono La6.out.size))
  have Lx0 := Lib.hid (Lx0.out.trans (hb.mono Lx0.out.size))
  have Lx3 := Lib.hid (Lx3.out.trans (hb.mono Lx3.out.size))
  have Lx6 := Lib.hid (Lx6.out.trans (hb.mono Lx6.out.size))
  have Ly3 := Lib.hid (Ly3.out.trans (hb.mono Ly3.out.size))
  have LB6 := Lib.hid (LB6.out.trans (hb.mono LB6.out.size))
  have LBx6 := Lib.hid (LBx6.out.trans (hb.mono LBx6.out.size))
  have LW := Lib.hid (LW.out.trans (hb.mono LW.out.size))
  clear hb
  obtain ⟨gx60, gx61, gx62⟩ := HXx6.out.below LBx6.out GLx6.out
  obtain ⟨g60, g61, g62⟩ := HX6.out.below LB6.out GL6.out
  go_wp2_with fail
  have S0 := Lib.hid (show w14.drew.cell? ⟨w8.heap.size, 0, none⟩ = some (.slice Ax60 x6.d.length cx60) ∧ w14.drew.cell? ⟨w8.heap.size, 1, none⟩ = some (.slice Ax61 x6.i.length cx61) ∧ w14.drew.cell? ⟨w8.heap.size, 2, none⟩ = some (.slice Ax62 x6.r.length cx62) ∧ w14.drew.cell? ⟨w.heap.size, 0, none⟩ = some (.slice A60 n60 c60) ∧ w14.drew.cell? ⟨w.heap.size, 1, none⟩ = some (.slice A61 n61 c61) ∧ w14.drew.cell? ⟨w.heap.size, 2, none⟩ = some (.slice A62 n62 c62) ∧ SixG w14 (w8.heap.size) (w.heap.size) w14.drew from ⟨gx60, gx61, gx62, g60, g61, g62, (Below.refl _ _).drew, Nat.lt_of_lt_of_le GLx6.out LBx6.out.size, Nat.lt_of_lt_of_le GL6.out LB6.out.size⟩)
  clear gx60 gx61 gx62
  clear g60 g61 g62
  go_region_held3 (fun wq => wq.cell? ⟨w8.heap.size, 0, none⟩ = some (.slice Ax60 x6.d.length cx60) ∧ wq.cell? ⟨w8.heap.size, 1, none⟩ = some (.slice Ax61 x6.i.length cx61) ∧ wq.cell? ⟨w8.heap.size, 2, none⟩ = some (.slice Ax62 x6.r.length cx62) ∧ wq.cell? ⟨w.heap.size, 0, none⟩ = some (.slice A60 n60 c60) ∧ wq.cell? ⟨w.heap.size, 1, none⟩ = some (.slice A61 n61 c61) ∧ wq.cell? ⟨w.heap.size, 2, none⟩ = some (.slice A62 n62 c62) ∧ SixG w14 (w8.heap.size) (w.heap.size) wq) (first | exact S0.out | (refine six_keep ?_ hb; assumption)) (first | (go_at_call 51; refine (toCost_any _ _ _ _ _ _ _ _ _ x6 _ (Ia6.out.to_below (La6.out.trans ((six_below (by assumption)).mono La6.out.size))) hn60 hn61 hn62).mono ?_; rintro e w15 ⟨Ay60, Ay61, Ay62, cy60, cy61, cy62, rfl, o0, o1, o2, _, _, _, hb⟩) | (go_at_call 53; refine (eqCost_any _ _ _ _ _ _ _ _ _ x6 _ _ _ _ _ _ _ _ _ x6 _ (Ix6.out.to_below (Lx6.out.trans ((six_below (by assumption)).mono Lx6.out.size))) ⟨IntIn.of_own o0, IntIn.of_own o1, IntIn.of_own o2⟩ (by rw [Hn6.out.1]; exact hn60) (by rw [Hn6.out.2.1]; exact hn61) (by rw [Hn6.out.2.2]; exact hn62) (by rw [Hn6.out.1]; exact hn60) (by rw [Hn6.out.2.1]; exact hn61) (by rw [Hn6.out.2.2]; exact hn62)).mono ?_; rintro e w16 ⟨rfl, hb⟩; rw [Co.same_self]))
  have hb := Lib.hid (show SixG w14 (w8.heap.size) (w.heap.size) w16 by (first | (rename_i q; exact q.2.2.2.2.2.2) | (rename_i q _; exact q.2.2.2.2.2.2)))
  have hb := hb.out.1
  clear S0
  have La0 := Lib.hid (La0.out.trans (hb.mono La0.out.size))
  have La3 := Lib.hid (La3.out.trans (hb.mono La3.out.size))
  have La6 := Lib.hid (La6.out.trans (hb.mono La6.out.size))
  have Lx0 := Lib.hid (Lx0.out.trans (hb.mono Lx0.out.size))
  have Lx3 := Lib.hid (Lx3.out.trans (hb.mono Lx3.out.size))
  have Lx6 := Lib.hid (Lx6.out.trans (hb.mono Lx6.out.size))
  have LB6 := Lib.hid (LB6.out.trans (hb.mono LB6.out.size))
  have LBx6 := Lib.hid (LBx6.out.trans (hb.mono LBx6.out.size))
  have LW := Lib.hid (LW.out.trans (hb.mono LW.out.size))
  clear hb
  go_wp2
  go_ret
  exact ⟨rfl, LW.out⟩

end Go.Proofs.Ytlndaflhlkbedaa

/- An argument []Node, opened: it reads as a list of nodes. -/
namespace Go.Proofs.Ytlndaflhlkbedaa
open Go.RowKit Go.ChangeShapes Go.WideShapes Go.Deep
set_option linter.unusedVariables false

theorem open_nodes {H : Type} {enc : TypeId × Value → H} {P : Program} {w : World} {base : Nat} {spare : Nat → Bool} {held : Bool} {t e : TypeId} {f0 f1 : Field} {fuel : Nat} {a : Option Addr} {len cap : Nat} {x : DataW H × List MemPlace}
    (ht : P.underlying t = some (.slice e)) (he : P.underlying e = some (.struct #[f0, f1]))
    (ce : P.cellsOf e = 2) (o0 : f0.offset = 0) (o1 : f1.offset = 1) (c0 : P.cellsOf f0.type = 1) (c1 : P.cellsOf f1.type = 1)
    (k0 : P.underlying f0.type = some (.int .i64)) (k1 : P.underlying f1.type = some (.int .i64))
    (h : DataW.trod enc P w base spare held fuel t [.slice a len cap] = some x) : ∃ xs : Tr, NdIn w w.heap.size a len xs ∧ Tr.wf xs ∧ len ≤ maxLen := by
  have hnil : Tr.wf [] := fun k => by simp [Tr.l, Tr.d]
  rcases open_slice_pairs ht he ce o0 o1 c0 c1 h with ⟨hcs, _⟩ | ⟨ad, l, c, m, n, V0, V1, D0, D1, P0, P1, hcs, _, hl, hm, hmm, _, hi⟩
  · simp at hcs
    obtain ⟨rfl, rfl, rfl⟩ := hcs
    exact ⟨[], ⟨rfl, fun h => absurd h (by omega), fun ad e => by cases e⟩, hnil, by simp [maxLen]⟩
  · simp at hcs
    obtain ⟨rfl, rfl, rfl⟩ := hcs
    have hlm : len ≤ m := by rw [hmm]; split <;> omega
    have each : ∀ i, i < len → ∃ q : Int × Int, w.cell? (ad.add (i * 2)) = some (.int .i64 q.1) ∧ w.cell? (ad.add (i * 2 + 1)) = some (.int .i64 q.2) ∧ (Lit.int .i64 q.1).wf = true ∧ (Lit.int .i64 q.2).wf = true := by
      intro i hil
      obtain ⟨h1, h2, h3, h4⟩ := hi i (by omega)
      obtain ⟨z0, e0, _, w0⟩ := DataW.trod_int k0 h3
      obtain ⟨z1, e1, _, w1⟩ := DataW.trod_int k1 h4
      simp at e0 e1
      exact ⟨(z0, z1), by rw [h1, e0], by rw [h2, e1], w0, w1⟩
    obtain ⟨q, hq⟩ := choose_lt each
    have hget (k : Nat) (hk : k < len) : ((List.range len).map q).getD k (0, 0) = q k := by simp [List.getD_eq_getElem?_getD, hk]
    refine ⟨(List.range len).map q, ⟨by simp, fun hn => ⟨ad, rfl, ?_⟩, fun ad' e k hk => ?_⟩, fun k => ?_, by omega⟩
    · have := World.block_lt_of_cell? w _ (hq 0 hn).1
      rwa [block_of_add] at this
    · obtain rfl : ad = ad' := by injection e
      simp only [Tr.l, Tr.d, hget k hk]
      exact ⟨(hq k hk).1, (hq k hk).2.1⟩
    · by_cases hk : k < len
      · simp only [Tr.l, Tr.d, hget k hk]
        exact ⟨Kit.wf_le (hq k hk).2.2.1, Kit.wf_le (hq k hk).2.2.2⟩
      · simp [Tr.l, Tr.d, List.getD_eq_getElem?_getD, hk]

end Go.Proofs.Ytlndaflhlkbedaa

/- Contracts (CoOpen). -/
namespace Go.Proofs.Ytlndaflhlkbedaa
open Go.RowKit
set_option linter.unusedVariables false

open Go.ChangeShapes Go.WideShapes Go.Deep Go.Joins
theorem open_introw {H : Type} {enc : TypeId × Value → H} {P : Program} {w : World} {base : Nat} {spare : Nat → Bool} {held : Bool} {t e : TypeId} {fuel : Nat} {v : Value} {x : DataW H × List MemPlace}
    (ht : P.underlying t = some (.slice e)) (he : P.underlying e = some (.int .i64)) (hc : P.cellsOf e = 1)
    (h : DataW.trod enc P w base spare held fuel t [v] = some x) : ∃ (A : Option Addr) (n c : Nat) (zs : List Int), v = .slice A n c ∧ IntIn w w.heap.size A n zs ∧ n ≤ maxLen := by
  rcases open_ints ht he hc h with ⟨hcs, _⟩ | ⟨a, l, c, zs, hcs, _, hl, hm, hz, _, hcell, hwz⟩
  · simp at hcs
    subst hcs
    exact ⟨none, 0, 0, [], rfl, ⟨rfl, fun h => absurd h (by omega), fun ad e => by cases e⟩, by simp [maxLen]⟩
  · simp at hcs
    subst hcs
    have hlz : l ≤ zs.length := by rw [hz]; split <;> omega
    refine ⟨some a, l, c, zs.take l, rfl, ⟨by simp; omega, fun hn => ⟨a, rfl, ?_⟩, fun ad e k hk => ?_⟩, by omega⟩
    · have := World.block_lt_of_cell? w _ (hcell 0 (by omega))
      rwa [block_of_add] at this
    · obtain rfl : a = ad := by injection e
      rw [hcell k (by omega)]
      simp [Zs.at, List.getD_eq_getElem?_getD, hk]
theorem open_cost {H : Type} {enc : TypeId × Value → H} {P : Program} {w : World} {base b0 : Nat} {r : Reach} {spare : Nat → Bool} {held : Bool} {t e : TypeId} {f0 f1 f2 : Field} {v : Value} {d : DataW H} {p : List MemPlace}
    (hs : P.underlying t = some (.struct #[f0, f1, f2])) (hone : oneCellFields P #[f0, f1, f2] = true) (hC : P.cellsOf t = 3)
    (t0 : P.underlying f0.type = some (.slice e)) (t1 : P.underlying f1.type = some (.slice e)) (t2 : P.underlying f2.type = some (.slice e)) (he : P.underlying e = some (.int .i64)) (hc : P.cellsOf e = 1)
    (hv : Value.okWide P w r b0 t v) (h : DataW.Trod enc P w base spare held t v d p) :
    ∃ (A0 A1 A2 : Option Addr) (n0 n1 n2 c0 c1 c2 : Nat) (k : Co), v = .agg #[.slice A0 n0 c0, .slice A1 n1 c1, .slice A2 n2 c2] ∧ CoIn w w.heap.size A0 A1 A2 n0 n1 n2 k ∧ n0 ≤ maxLen ∧ n1 ≤ maxLen ∧ n2 ≤ maxLen := by
  obtain ⟨v0, v1, v2, y0, y1, y2, n, rfl, _, _, k0, k1, k2⟩ := open_agg3 hs hone hC hv h
  obtain ⟨A0, n0, c0, z0, rfl, i0, l0⟩ := open_introw t0 he hc k0
  obtain ⟨A1, n1, c1, z1, rfl, i1, l1⟩ := open_introw t1 he hc k1
  obtain ⟨A2, n2, c2, z2, rfl, i2, l2⟩ := open_introw t2 he hc k2
  exact ⟨A0, A1, A2, n0, n1, n2, c0, c1, c2, ⟨z0, z1, z2⟩, rfl, ⟨i0, i1, i2⟩, l0, l1, l2⟩

end Go.Proofs.Ytlndaflhlkbedaa
