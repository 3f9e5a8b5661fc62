/- Texts of one claim laid into one file, in build order: NdM, PrTo, PrEq, PrM, NdH. -/
import Derived.Test.YtgkkeejhfofcaaaHc1
import Derived.Test.YtgkkeejhfofcaaaHc18
import Derived.Test.YtgkkeejhfofcaaaHc2
import Derived.Laws.Entries
import Derived.Laws.MakeOwn
import Derived.Outline
import Derived.StillTailTactics
import Derived.Test.YtgkkeejhfofcaaaRows
/- Contracts (NdM). -/
namespace Go.Proofs.Ytgkkeejhfofcaaa
open Go.RowKit
set_option linter.unusedVariables false

set_option maxHeartbeats 800000 in
set_option maxRecDepth 100000 in
theorem markNodeS_any (A : Option Addr) (n c base : Nat) (e0 : TypeId) (k0 : Int) (xs : Tr) (w : World) (h : w.ownsRow base e0 2 (.slice A n c) n (Tr.cells xs)) (hn : n ≤ 1048576) (h0 : 0 ≤ k0) (h1 : k0 ≤ 1073741824) :
    Calls Try.prog 37 #[.slice A n c, .int .i64 k0] w fun e w' => e = .returned (.int .i64 (k0 + 2 * n)) ∧ w'.ownsRow base e0 2 (.slice A n c) n (Tr.cells (Tr.marks k0 n)) ∧ w.grownBy w' (Value.ownBlock (.slice A n c)) := by
  have H := Lib.hid h
  have HL := Lib.hid (show xs.length = n by have := h.1; rw [Tr.cells_length] at this; omega)
  clear h
  go_enter Try.func37, Try.ntmps37
  go_wp2
  go_loopw [5, 1] (fun iv kv wr => ∃ j : Nat, j ≤ n ∧ iv = .int .i64 j ∧ kv = .int .i64 (k0 + 2 * j) ∧ wr.ownsRow base e0 2 (.slice A n c) n (Tr.cells (Tr.marked k0 xs j)) ∧ w.grownBy wr (Value.ownBlock (.slice A n c))) (fun i _ _ => n - (intOf i).toNat)
  case atStart => exact ⟨0, by omega, rfl, by simp, by simpa [Tr.marked, Tr.marks] using H.out, World.grownBy.refl _ _⟩
  case round =>
    obtain ⟨j, hj, rfl, rfl, hown, hgr⟩ := hrel
    by_cases hlt : j < n
    · obtain ⟨g, rfl, hg⟩ := own_form hown (by omega)
      have Ho := Lib.hid hown
      have Hg := Lib.hid hgr
      have c0 := own_even hown (k := j) (by rw [Tr.marked_length _ _ _ (by rw [HL.out]; omega), HL.out]; exact hlt)
      have c1 := own_odd hown (k := j) (by rw [Tr.marked_length _ _ _ (by rw [HL.out]; omega), HL.out]; exact hlt)
      have f0 := hown.frozenAt (j * 2)
      have f1 := hown.frozenAt (j * 2 + 1)
      clear hown hgr hg
      go_wp2
      go_roundw
      case rel =>
        refine ⟨j + 1, by omega, by go_num, by go_num, ?_, grown_tr Hg.out (grown_tr (Ho.out.stored _ _).2 ((Ho.out.stored _ _).1.stored _ _).2)⟩
        have := own_set Ho.out j (k0 + 2 * (j : Nat)) (k0 + 2 * (j : Nat) + 1)
        rw [Tr.marked_set _ _ _ (by rw [HL.out]; exact hlt)] at this
        exact this
      case measure => simp [intOf]; omega
    · obtain rfl : j = n := by omega
      have Ho := Lib.hid hown
      have Hg := Lib.hid hgr
      clear hown hgr
      go_wp2
      go_ret
      refine ⟨rfl, ?_, Hg.out⟩
      have := Ho.out
      rw [← HL.out, Tr.marked_all, HL.out] at this
      exact this

end Go.Proofs.Ytgkkeejhfofcaaa

/- Contracts of the harness over []Pair: size, copy. -/
namespace Go.Proofs.Ytgkkeejhfofcaaa
open Go.RowKit
set_option linter.unusedVariables false

set_option maxHeartbeats 400000 in
theorem szPairS_any (A : Option Addr) (n c : Nat) (left : Int) (w : World) (hn : n ≤ 9223372036854775807) (h0 : 0 ≤ left) (h1 : left ≤ 1048576) :
    Calls Try.prog 30 #[.slice A n c, .int .i64 left] w fun e w' => e = .returned (.int .i64 (if (n : Int) ≤ left then left - n else -1)) ∧ w = w' := by
  by_cases h : (n : Int) ≤ left
  · rw [if_pos h]
    go_enter Try.func30, Try.ntmps30
    go_wp2
    go_ret
    exact ⟨rfl, rfl⟩
  · rw [if_neg h]
    go_enter Try.func30, Try.ntmps30
    go_wp2
    go_ret
    exact ⟨rfl, rfl⟩

set_option maxHeartbeats 400000 in
theorem toPair_any (a b : Int) (w : World) :
    Calls Try.prog 94 #[.agg #[.int .i64 a, .int .i64 b]] w fun e w' => e = .returned (.agg #[.int .i64 a, .int .i64 b]) ∧ Below w.heap.size w w' := by
  go_enter Try.func94, Try.ntmps94
  go_wp2
  exact bodyPost_ret (v := .agg #[.int .i64 a, .int .i64 b]) (by simp [results, Try.results94, go_sem]) rfl ⟨rfl, by repeat' (first | exact Below.refl _ _ | refine Below.alloc ?_ (by simp [Nat.le_add_right, Nat.add_assoc]) _ | refine Below.setCell ?_ (by simp [Nat.add_assoc]) _)⟩

theorem info_pair : (Try.prog.info? 124).map (fun i => (i.zero, i.size, i.bytes)) = some (some (.agg #[.int .i64 0, .int .i64 0]), 2, 16) := by kernel_rfl

set_option maxHeartbeats 800000 in
set_option maxRecDepth 100000 in
theorem toPairS_any (A : Option Addr) (n c : Nat) (xs : Tr) (w : World) (h : NdIn w w.heap.size A n xs) (hn : n ≤ 1048576) :
    Calls Try.prog 33 #[.slice A n c] w fun e w' => e = .returned (.slice (some ⟨w.heap.size, 0, none⟩) n n) ∧
      w'.ownsRow w.heap.size 124 2 (.slice (some ⟨w.heap.size, 0, none⟩) n n) n (Tr.cells xs) ∧ Below w.heap.size w w' := by
  have H := Lib.hid h
  clear h
  have HL := Lib.hid H.out.1
  obtain ⟨i0, hi, hz0, hz1, hz2⟩ := info_parts info_pair
  go_enter Try.func33, Try.ntmps33
  go_wp2_with (at_make; refine wpList_make_full _ rfl _ _ 36 rfl w.heap.size 124 i0 (.agg #[.int .i64 0, .int .i64 0]) 2 Try.underlying36 hi hz0 hz1 _ _ _ _ n rfl rfl rfl rfl (by rw [hz2]; omega) (by unfold maxLen; omega) (Nat.le_refl _) ?_; intro w1 hown1 hgrow1)
  have hb1 : Below w.heap.size w w1 := (Below.refl _ w).grown hgrow1 (Nat.le_refl _) (fun _ h => by cases h)
  rw [made_nodes, ← HL.out, ← Tr.part_none, HL.out] at hown1
  go_loopw [4] (fun iv wr => ∃ k : Nat, k ≤ n ∧ iv = .int .i64 k ∧ wr.ownsRow w.heap.size 124 2 (.slice (some ⟨w.heap.size, 0, none⟩) n n) n (Tr.cells (Tr.part xs k)) ∧ Below w.heap.size w wr) (fun i _ => n - (intOf i).toNat)
  case atStart => exact ⟨0, by omega, rfl, hown1, hb1⟩
  case round =>
    obtain ⟨k, hk, rfl, hown, hB⟩ := hrel
    have hsz := hB.size
    by_cases hlt : k < n
    · obtain ⟨ad, rfl, hb, hl, hd⟩ := (H.out.below hB).at_ hlt
      have Ho := Lib.hid hown
      have HB := Lib.hid hB
      clear hown hB
      go_wp2_with (go_at_call 94; refine (toPair_any _ _ _).mono ?_; rintro e w' ⟨rfl, hb'⟩; have hb2 := Lib.hid hb'; clear hb'; have Ho2 := Lib.hid (own_below Ho.out hb2.out); have c0 := own_even Ho2.out (k := k) (by rw [Tr.part_length _ _ (by rw [HL.out]; omega), HL.out]; omega); have c1 := own_odd Ho2.out (k := k) (by rw [Tr.part_length _ _ (by rw [HL.out]; omega), HL.out]; omega); have f0 := Ho2.out.frozenAt (k * 2); have f1 := Ho2.out.frozenAt (k * 2 + 1))
      go_roundw
      case rel =>
        refine ⟨k + 1, by omega, by go_num, ?_, ?_⟩
        · have := own_set Ho2.out k (Tr.l xs k) (Tr.d xs k)
          rw [Tr.part_set xs k (by rw [HL.out]; exact hlt)] at this
          exact this
        · exact ((HB.out.trans (hb2.out.mono hsz)).setCell (Nat.le_refl _) _).setCell (Nat.le_refl _) _
      case measure => simp [intOf]; omega
    · obtain rfl : k = n := by omega
      rw [← HL.out, Tr.part_full, HL.out] at hown
      go_wp2
      go_ret
      exact ⟨rfl, hown, hB⟩

end Go.Proofs.Ytgkkeejhfofcaaa

/- Contracts of the harness over []Pair: equality. -/
namespace Go.Proofs.Ytgkkeejhfofcaaa
open Go.RowKit
set_option linter.unusedVariables false

set_option maxHeartbeats 400000 in
theorem eqPair_any (a b c d : Int) (w : World) :
    Calls Try.prog 97 #[.agg #[.int .i64 a, .int .i64 b], .agg #[.int .i64 c, .int .i64 d]] w fun e w' => e = .returned (.bool (decide (a = c ∧ b = d))) ∧ Below w.heap.size w w' := by
  have hB : ∀ o1 o2, Below w.heap.size w ((w.alloc o1).alloc o2) := fun o1 o2 => ((Below.refl _ _).alloc (Nat.le_refl _) _).alloc (by simp) _
  by_cases h1 : a = c
  · by_cases h2 : b = d
    · subst h1 h2
      go_enter Try.func97, Try.ntmps97
      go_wp2
      go_ret
      exact ⟨Kit.ret_bool (by simp), hB _ _⟩
    · have h2' : (b != d) = true := by simpa using h2
      subst h1
      go_enter Try.func97, Try.ntmps97
      go_wp2
      go_ret
      exact ⟨Kit.ret_bool (by simp [h2]), hB _ _⟩
  · have h1' : (a != c) = true := by simpa using h1
    go_enter Try.func97, Try.ntmps97
    go_wp2
    go_ret
    exact ⟨Kit.ret_bool (by simp [h1]), hB _ _⟩


set_option maxHeartbeats 800000 in
set_option maxRecDepth 100000 in
theorem eqPairS_any (A A' : Option Addr) (n c n' c' : Nat) (xs ys : Tr) (w : World) (h : NdIn w w.heap.size A n xs) (h' : NdIn w w.heap.size A' n' ys) (hn : n ≤ 1099511627776) (hn' : n' ≤ 1099511627776) :
    Calls Try.prog 36 #[.slice A n c, .slice A' n' c'] w fun e w' => e = .returned (.bool (decide (xs = ys))) ∧ Below w.heap.size w w' := by
  have H := Lib.hid h
  have H' := Lib.hid h'
  clear h h'
  have HL := Lib.hid H.out.1
  have HL' := Lib.hid H'.out.1
  by_cases hnn : n = n'
  · go_enter Try.func36, Try.ntmps36
    have Hnn := Lib.hid hnn
    have hne : ((n : Int) != (n' : Int)) = false := by simp [hnn]
    clear hnn
    go_wp2
    go_loopw [5] (fun iv wr => ∃ k : Nat, k ≤ n ∧ iv = .int .i64 k ∧ Tr.same xs ys k ∧ Below w.heap.size w wr) (fun i _ => n - (intOf i).toNat)
    case atStart => exact ⟨0, by omega, rfl, fun j hj => absurd hj (by omega), Below.refl _ _⟩
    case round =>
      obtain ⟨k, hk, rfl, hsm, hB⟩ := hrel
      have hsz := hB.size
      have Hsm := Lib.hid hsm
      have HB := Lib.hid hB
      clear hsm hB
      by_cases hlt : k < n
      · obtain ⟨ad, rfl, hb, hl, hd⟩ := (H.out.below HB.out).at_ hlt
        obtain ⟨ad', rfl, hb', hl', hd'⟩ := (H'.out.below HB.out).at_ (k := k) (by rw [← Hnn.out]; exact hlt)
        have hlt' : (k : Int) < (n' : Int) := by rw [← Hnn.out]; omega
        have hk0 : (0 : Int) ≤ (k : Int) := by omega
        have HB2 := Lib.hid HB.out.drew
        have hsz2 := HB.out.drew.size
        by_cases hq : Tr.l xs k = Tr.l ys k ∧ Tr.d xs k = Tr.d ys k
        · have hq' : decide (Tr.l xs k = Tr.l ys k ∧ Tr.d xs k = Tr.d ys k) = true := by simpa using hq
          have Hq := Lib.hid hq
          clear hq
          go_wp2
          go_still_tail 8, (by kernel_rfl)
          change wpList _ _ _ _ _ wr.drew
          generalize wr.drew = w2 at HB2 hsz2 ⊢
          go_wp2_with (go_at_call 97; refine (eqPair_any _ _ _ _ _).mono ?_; rintro e w3 ⟨rfl, hb3⟩)
          go_roundw
          case rel => exact ⟨k + 1, by omega, by go_num, fun j hj => by
            rcases Nat.lt_succ_iff_lt_or_eq.1 hj with h' | rfl
            · exact Hsm.out j h'
            · exact Hq.out, HB2.out.trans (hb3.mono hsz2)⟩
          case measure => simp [intOf]; omega
        · have hq' : decide (Tr.l xs k = Tr.l ys k ∧ Tr.d xs k = Tr.d ys k) = false := by simpa using hq
          have Hq := Lib.hid hq
          clear hq
          go_wp2
          go_still_tail 8, (by kernel_rfl)
          change wpList _ _ _ _ _ wr.drew
          generalize wr.drew = w2 at HB2 hsz2 ⊢
          go_wp2_with (go_at_call 97; refine (eqPair_any _ _ _ _ _).mono ?_; rintro e w3 ⟨rfl, hb3⟩)
          go_ret
          refine ⟨Kit.ret_bool ?_, HB2.out.trans (hb3.mono hsz2)⟩
          symm
          rw [decide_eq_false_iff_not]
          rintro rfl
          exact Hq.out ⟨rfl, rfl⟩
      · obtain rfl : k = n := by omega
        go_wp2
        go_ret
        refine ⟨Kit.ret_bool ?_, HB.out⟩
        symm
        rw [decide_eq_true_eq]
        exact Tr.ext (by rw [HL.out, HL'.out]; exact Hnn.out) (fun j hj => Hsm.out j (by rw [← HL.out]; exact hj))
  · have hne : ((n : Int) != (n' : Int)) = true := by simp; omega
    have Hq := Lib.hid (show decide (xs = ys) = false by
      rw [decide_eq_false_iff_not]; rintro rfl; exact hnn (HL.out.symm.trans HL'.out))
    clear hnn
    go_enter Try.func36, Try.ntmps36
    go_wp2
    go_ret
    exact ⟨Kit.ret_bool Hq.out.symm, Below.refl _ _⟩

end Go.Proofs.Ytgkkeejhfofcaaa

/- Contracts (PrM). -/
namespace Go.Proofs.Ytgkkeejhfofcaaa
open Go.RowKit
set_option linter.unusedVariables false

set_option maxHeartbeats 800000 in
set_option maxRecDepth 100000 in
theorem markPairS_any (A : Option Addr) (n c base : Nat) (e0 : TypeId) (k0 : Int) (xs : Tr) (w : World) (h : w.ownsRow base e0 2 (.slice A n c) n (Tr.cells xs)) (hn : n ≤ 1099511627776) (h0 : 0 ≤ k0) (h1 : k0 ≤ 1073741824) :
    Calls Try.prog 38 #[.slice A n c, .int .i64 k0] w fun e w' => e = .returned (.int .i64 (k0 + 2 * n)) ∧ w'.ownsRow base e0 2 (.slice A n c) n (Tr.cells (Tr.marks k0 n)) ∧ w.grownBy w' (Value.ownBlock (.slice A n c)) := by
  have H := Lib.hid h
  have HL := Lib.hid (show xs.length = n by have := h.1; rw [Tr.cells_length] at this; omega)
  clear h
  go_enter Try.func38, Try.ntmps38
  go_wp2
  go_loopw [5, 1] (fun iv kv wr => ∃ j : Nat, j ≤ n ∧ iv = .int .i64 j ∧ kv = .int .i64 (k0 + 2 * j) ∧ wr.ownsRow base e0 2 (.slice A n c) n (Tr.cells (Tr.marked k0 xs j)) ∧ w.grownBy wr (Value.ownBlock (.slice A n c))) (fun i _ _ => n - (intOf i).toNat)
  case atStart => exact ⟨0, by omega, rfl, by simp, by simpa [Tr.marked, Tr.marks] using H.out, World.grownBy.refl _ _⟩
  case round =>
    obtain ⟨j, hj, rfl, rfl, hown, hgr⟩ := hrel
    by_cases hlt : j < n
    · obtain ⟨g, rfl, hg⟩ := own_form hown (by omega)
      have Ho := Lib.hid hown
      have Hg := Lib.hid hgr
      have c0 := own_even hown (k := j) (by rw [Tr.marked_length _ _ _ (by rw [HL.out]; omega), HL.out]; exact hlt)
      have c1 := own_odd hown (k := j) (by rw [Tr.marked_length _ _ _ (by rw [HL.out]; omega), HL.out]; exact hlt)
      have f0 := hown.frozenAt (j * 2)
      have f1 := hown.frozenAt (j * 2 + 1)
      clear hown hgr hg
      go_wp2
      go_roundw
      case rel =>
        refine ⟨j + 1, by omega, by go_num, by go_num, ?_, grown_tr Hg.out (grown_tr (Ho.out.stored _ _).2 ((Ho.out.stored _ _).1.stored _ _).2)⟩
        have := own_set Ho.out j (k0 + 2 * (j : Nat)) (k0 + 2 * (j : Nat) + 1)
        rw [Tr.marked_set _ _ _ (by rw [HL.out]; exact hlt)] at this
        exact this
      case measure => simp [intOf]; omega
    · obtain rfl : j = n := by omega
      have Ho := Lib.hid hown
      have Hg := Lib.hid hgr
      clear hown hgr
      go_wp2
      go_ret
      refine ⟨rfl, ?_, Hg.out⟩
      have := Ho.out
      rw [← HL.out, Tr.marked_all, HL.out] at this
      exact this

end Go.Proofs.Ytgkkeejhfofcaaa

/- Contracts (NdH). -/
namespace Go.Proofs.Ytgkkeejhfofcaaa
open Go.RowKit
set_option linter.unusedVariables false

set_option maxHeartbeats 800000 in
set_option maxRecDepth 100000 in
theorem heldNodeS_any (A : Option Addr) (n c base : Nat) (e0 : TypeId) (k0 : Int) (w : World) (h : w.ownsRow base e0 2 (.slice A n c) n (Tr.cells (Tr.marks k0 n))) (hn : n ≤ 1048576) (h0 : 0 ≤ k0) (h1 : k0 ≤ 1073741824) :
    Calls Try.prog 47 #[.slice A n c, .int .i64 k0] w fun e w' => e = .returned (.int .i64 (k0 + 2 * n)) ∧ w = w' := by
  have H := Lib.hid h
  clear h
  go_enter Try.func47, Try.ntmps47
  go_wp2
  go_loop [5, 1] (fun iv kv => ∃ j : Nat, j ≤ n ∧ iv = .int .i64 j ∧ kv = .int .i64 (k0 + 2 * j)) (fun i _ => n - (intOf i).toNat)
  case atStart => exact ⟨0, by omega, rfl, by simp⟩
  case round =>
    obtain ⟨j, hj, rfl, rfl⟩ := hrel
    by_cases hlt : j < n
    · obtain ⟨g, rfl, hg⟩ := own_form H.out (by omega)
      have c0 := own_even H.out (k := j) (by rw [Tr.marks_length]; exact hlt)
      have c1 := own_odd H.out (k := j) (by rw [Tr.marks_length]; exact hlt)
      rw [Tr.marks_l _ _ _ hlt] at c0
      rw [Tr.marks_d _ _ _ hlt] at c1
      clear hg
      go_wp2
      go_round
      case rel => exact ⟨j + 1, by omega, by go_num, by go_num⟩
      case measure => simp [intOf]; omega
    · obtain rfl : j = n := by omega
      go_wp2
      go_ret
      exact ⟨rfl, rfl⟩


end Go.Proofs.Ytgkkeejhfofcaaa
