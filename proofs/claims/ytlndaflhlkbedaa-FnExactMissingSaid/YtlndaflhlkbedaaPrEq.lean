/- Contracts of the harness over []Pair: equality. -/
import Derived.Test.YtlndaflhlkbedaaRows
import Derived.Test.YtlndaflhlkbedaaTr
import Derived.Test.YtlndaflhlkbedaaNdSm
import Derived.Outline
import Derived.StillTailTactics
namespace Go.Proofs.Ytlndaflhlkbedaa
open Go.RowKit
set_option linter.unusedVariables false

set_option maxHeartbeats 400000 in
theorem eqPair_any (a b c d : Int) (w : World) :
    Calls Try.prog 108 #[.agg #[.int .i64 a, .int .i64 b], .agg #[.int .i64 c, .int .i64 d]] w fun e w' => e = .returned (.bool (decide (a = c ∧ b = d))) ∧ Below w.heap.size w w' := by
  have hB : ∀ o1 o2, Below w.heap.size w ((w.alloc o1).alloc o2) := fun o1 o2 => ((Below.refl _ _).alloc (Nat.le_refl _) _).alloc (by simp) _
  by_cases h1 : a = c
  · by_cases h2 : b = d
    · subst h1 h2
      go_enter Try.func108, Try.ntmps108
      go_wp2
      go_ret
      exact ⟨Kit.ret_bool (by simp), hB _ _⟩
    · have h2' : (b != d) = true := by simpa using h2
      subst h1
      go_enter Try.func108, Try.ntmps108
      go_wp2
      go_ret
      exact ⟨Kit.ret_bool (by simp [h2]), hB _ _⟩
  · have h1' : (a != c) = true := by simpa using h1
    go_enter Try.func108, Try.ntmps108
    go_wp2
    go_ret
    exact ⟨Kit.ret_bool (by simp [h1]), hB _ _⟩


set_option maxHeartbeats 800000 in
set_option maxRecDepth 100000 in
theorem eqPairS_any (A A' : Option Addr) (n c n' c' : Nat) (xs ys : Tr) (w : World) (h : NdIn w w.heap.size A n xs) (h' : NdIn w w.heap.size A' n' ys) (hn : n ≤ 1099511627776) (hn' : n' ≤ 1099511627776) :
    Calls Try.prog 58 #[.slice A n c, .slice A' n' c'] w fun e w' => e = .returned (.bool (decide (xs = ys))) ∧ Below w.heap.size w w' := by
  have H := Lib.hid h
  have H' := Lib.hid h'
  clear h h'
  have HL := Lib.hid H.out.1
  have HL' := Lib.hid H'.out.1
  by_cases hnn : n = n'
  · go_enter Try.func58, Try.ntmps58
    have Hnn := Lib.hid hnn
    have hne : ((n : Int) != (n' : Int)) = false := by simp [hnn]
    clear hnn
    go_wp2
    go_loopw [5] (fun iv wr => ∃ k : Nat, k ≤ n ∧ iv = .int .i64 k ∧ Tr.same xs ys k ∧ Below w.heap.size w wr) (fun i _ => n - (intOf i).toNat)
    case atStart => exact ⟨0, by omega, rfl, fun j hj => absurd hj (by omega), Below.refl _ _⟩
    case round =>
      obtain ⟨k, hk, rfl, hsm, hB⟩ := hrel
      have hsz := hB.size
      have Hsm := Lib.hid hsm
      have HB := Lib.hid hB
      clear hsm hB
      by_cases hlt : k < n
      · obtain ⟨ad, rfl, hb, hl, hd⟩ := (H.out.below HB.out).at_ hlt
        obtain ⟨ad', rfl, hb', hl', hd'⟩ := (H'.out.below HB.out).at_ (k := k) (by rw [← Hnn.out]; exact hlt)
        have hlt' : (k : Int) < (n' : Int) := by rw [← Hnn.out]; omega
        have hk0 : (0 : Int) ≤ (k : Int) := by omega
        have HB2 := Lib.hid HB.out.drew
        have hsz2 := HB.out.drew.size
        by_cases hq : Tr.l xs k = Tr.l ys k ∧ Tr.d xs k = Tr.d ys k
        · have hq' : decide (Tr.l xs k = Tr.l ys k ∧ Tr.d xs k = Tr.d ys k) = true := by simpa using hq
          have Hq := Lib.hid hq
          clear hq
          go_wp2
          go_still_tail 8, (by kernel_rfl)
          change wpList _ _ _ _ _ wr.drew
          generalize wr.drew = w2 at HB2 hsz2 ⊢
          go_wp2_with (go_at_call 108; refine (eqPair_any _ _ _ _ _).mono ?_; rintro e w3 ⟨rfl, hb3⟩)
          go_roundw
          case rel => exact ⟨k + 1, by omega, by go_num, fun j hj => by
            rcases Nat.lt_succ_iff_lt_or_eq.1 hj with h' | rfl
            · exact Hsm.out j h'
            · exact Hq.out, HB2.out.trans (hb3.mono hsz2)⟩
          case measure => simp [intOf]; omega
        · have hq' : decide (Tr.l xs k = Tr.l ys k ∧ Tr.d xs k = Tr.d ys k) = false := by simpa using hq
          have Hq := Lib.hid hq
          clear hq
          go_wp2
          go_still_tail 8, (by kernel_rfl)
          change wpList _ _ _ _ _ wr.drew
          generalize wr.drew = w2 at HB2 hsz2 ⊢
          go_wp2_with (go_at_call 108; refine (eqPair_any _ _ _ _ _).mono ?_; rintro e w3 ⟨rfl, hb3⟩)
          go_ret
          refine ⟨Kit.ret_bool ?_, HB2.out.trans (hb3.mono hsz2)⟩
          symm
          rw [decide_eq_false_iff_not]
          rintro rfl
          exact Hq.out ⟨rfl, rfl⟩
      · obtain rfl : k = n := by omega
        go_wp2
        go_ret
        refine ⟨Kit.ret_bool ?_, HB.out⟩
        symm
        rw [decide_eq_true_eq]
        exact Tr.ext (by rw [HL.out, HL'.out]; exact Hnn.out) (fun j hj => Hsm.out j (by rw [← HL.out]; exact hj))
  · have hne : ((n : Int) != (n' : Int)) = true := by simp; omega
    have Hq := Lib.hid (show decide (xs = ys) = false by
      rw [decide_eq_false_iff_not]; rintro rfl; exact hnn (HL.out.symm.trans HL'.out))
    clear hnn
    go_enter Try.func58, Try.ntmps58
    go_wp2
    go_ret
    exact ⟨Kit.ret_bool Hq.out.symm, Below.refl _ _⟩

end Go.Proofs.Ytlndaflhlkbedaa
