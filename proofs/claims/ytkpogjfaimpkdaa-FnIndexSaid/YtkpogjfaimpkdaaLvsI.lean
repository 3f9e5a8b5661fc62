/- Contracts (LvsI). -/
import Derived.Test.YtkpogjfaimpkdaaTreeOkI
import Derived.Outline
namespace Go.Proofs.Ytkpogjfaimpkdaa
open Go.RowKit
set_option linter.unusedVariables false

/-- leaves among the nodes ahead of k, told from the node behind each -/
def Tr.turns (xs : Tr) : Nat → Nat
  | 0 => 0
  | 1 => 1
  | k + 2 => if Tr.d xs (k + 1) ≤ Tr.d xs k then Tr.turns xs (k + 1) + 1 else Tr.turns xs (k + 1)
theorem Tr.turns_le (xs : Tr) (k : Nat) : Tr.turns xs k ≤ k := by
  induction k with
  | zero => simp [Tr.turns]
  | succ k ih => cases k with
    | zero => simp [Tr.turns]
    | succ k => unfold Tr.turns; split <;> omega
theorem Tr.turns_leaves (xs : Tr) (k : Nat) (hk : k + 1 ≤ xs.length) : Tr.turns xs (k + 1) = Tr.leavesTo xs k + 1 := by
  induction k with
  | zero => rfl
  | succ k ih =>
    have h := ih (by omega)
    have hi := Tr.leaf_iff (xs := xs) (k := k) (by omega)
    unfold Tr.turns Tr.leavesTo
    rw [h]
    by_cases q : Tr.d xs (k + 1) ≤ Tr.d xs k
    · rw [if_pos q, if_pos (hi.2 q)]
    · rw [if_neg q, if_neg (fun e => q (hi.1 e))]
theorem Tr.turns_all (xs : Tr) (h : 1 ≤ xs.length) : Tr.leavesTo xs xs.length = Tr.turns xs xs.length := by
  obtain ⟨m, hm⟩ : ∃ m, xs.length = m + 1 := ⟨xs.length - 1, by omega⟩
  rw [hm, Tr.turns_leaves xs m (by omega), Tr.leavesTo_succ, if_pos (Tr.leaf_last hm.symm)]

set_option maxHeartbeats 800000 in
set_option maxRecDepth 100000 in
theorem implLeavesOf_any (A : Option Addr) (n c : Nat) (xs : Tr) (w : World) (h : NdIn w w.heap.size A n xs) (hn : n ≤ 1048576) (hnc : n ≤ c) :
    Calls Try.prog 31 #[.slice A n c] w fun e w' => e = .returned (.int .i64 (Tr.leavesOf xs)) ∧ Below w.heap.size w w' := by
  have H := Lib.hid h
  clear h
  have HL := Lib.hid H.out.1
  rcases hok : Tr.ok xs with _ | _
  · have Hf := Lib.hid (show Tr.leavesOf xs = 0 by simp [Tr.leavesOf, hok])
    have Hok := Lib.hid hok
    clear hok
    go_enter Try.func31, Try.ntmps31
    go_wp2_with fail
    refine (implTreeOk_any _ _ _ xs _ H.out hn hnc).mono ?_
    rintro e w1 ⟨rfl, hd⟩
    rw [Hok.out]
    go_wp2
    go_ret
    exact ⟨Kit.ret_int Hf.out.symm, hd⟩
  · have hn1 : 1 ≤ n := by have := (Tr.ok_iff.1 hok).2; rw [HL.out] at this; omega
    have Hf := Lib.hid (show Tr.leavesOf xs = (Tr.turns xs xs.length : Nat) by simp [Tr.leavesOf, hok, Tr.turns_all xs (by rw [HL.out]; exact hn1)])
    have Hok := Lib.hid hok
    clear hok
    go_enter Try.func31, Try.ntmps31
    go_wp2_with fail
    refine (implTreeOk_any _ _ _ xs _ H.out hn hnc).mono ?_
    rintro e w1 ⟨rfl, hb1⟩
    have H1 := Lib.hid (H.out.below hb1)
    have Hb1 := Lib.hid hb1
    clear hb1
    rw [Hok.out]
    go_wp2
    go_loopw [4, 3] (fun kv nv wr => ∃ k : Nat, 1 ≤ k ∧ k ≤ n ∧ kv = .int .i64 k ∧ nv = .int .i64 (Tr.turns xs k : Nat) ∧ Drawn w1 wr) (fun k _ _ => n - (intOf k).toNat)
    case atStart => exact ⟨1, by omega, by omega, rfl, rfl, Drawn.refl _⟩
    case round =>
      obtain ⟨k, hk1, hk, rfl, rfl, hD⟩ := hrel
      obtain ⟨j, rfl⟩ : ∃ j, k = j + 1 := ⟨k - 1, by omega⟩
      have hle := Tr.turns_le xs (j + 1)
      by_cases hlt : j + 1 < n
      · obtain ⟨ad, rfl, hb, hl, hd⟩ := (H1.out.drawn hD).at_ hlt
        obtain ⟨hl', hd'⟩ := (H1.out.drawn hD).here (show j < n by omega)
        have Hs := Lib.hid (show Tr.turns xs (j + 1 + 1) = if Tr.d xs (j + 1) ≤ Tr.d xs j then Tr.turns xs (j + 1) + 1 else Tr.turns xs (j + 1) from rfl)
        clear hl hl'
        have a1 : IntKind.i64.wrap (((j + 1 : Nat) : Int) - 1) = (j : Int) := by rw [Kit.w64 (by omega) (by omega)]; omega
        by_cases hq : Tr.d xs (j + 1) ≤ Tr.d xs j
        · have q : decide (Tr.d xs (j + 1) ≤ Tr.d xs j) = true := by simpa using hq
          have Hq := Lib.hid hq
          clear hq
          go_wp2
          go_quiet (fail)
          clear a1
          go_wp2
          go_roundw
          case rel => exact ⟨j + 1 + 1, by omega, by omega, by go_num, by rw [Hs.out, if_pos Hq.out]; go_num, hD.drewN _⟩
          case measure => simp [intOf]; omega
        · have q : decide (Tr.d xs (j + 1) ≤ Tr.d xs j) = false := by simpa using hq
          have Hq := Lib.hid hq
          clear hq
          go_wp2
          go_quiet (fail)
          clear a1
          go_wp2
          go_roundw
          case rel => exact ⟨j + 1 + 1, by omega, by omega, by go_num, by rw [Hs.out, if_neg (by have := Hq.out; omega)], hD.drewN _⟩
          case measure => simp [intOf]; omega
      · obtain rfl : j + 1 = n := by omega
        go_wp2
        go_ret
        exact ⟨Kit.ret_int (by rw [Hf.out, HL.out]), Drawn.below Hb1.out hD⟩

end Go.Proofs.Ytkpogjfaimpkdaa
