/- Texts of one claim laid into one file, in build order: NdSm, SameS, At, Big. -/
import Derived.Test.YtgkkeejhfofcaaaHf1
import Derived.Test.YtgkkeejhfofcaaaHf3
import Derived.Outline
import Derived.StillTailTactics
import Derived.Test.YtgkkeejhfofcaaaRows
/- Two lists of nodes that agree so far. -/
namespace Go.Proofs.Ytgkkeejhfofcaaa
open Go.RowKit
set_option linter.unusedVariables false

/-- the first k nodes agree -/
def Tr.same (xs ys : Tr) (k : Nat) : Prop := ∀ j, j < k → Tr.l xs j = Tr.l ys j ∧ Tr.d xs j = Tr.d ys j

end Go.Proofs.Ytgkkeejhfofcaaa

/- Contracts (SameS). -/
namespace Go.Proofs.Ytgkkeejhfofcaaa
open Go.RowKit
set_option linter.unusedVariables false

set_option maxHeartbeats 800000 in
set_option maxRecDepth 100000 in
theorem specSameTree_any (A A' : Option Addr) (n c n' c' : Nat) (xs ys : Tr) (w : World) (h : NdIn w w.heap.size A n xs) (hn : n ≤ 1048576) (h' : NdIn w w.heap.size A' n' ys) (hn' : n' ≤ 1048576) :
    Calls Try.prog 18 #[.slice A n c, .slice A' n' c'] w fun e w' => e = .returned (.bool (decide (xs = ys))) ∧ Drawn w w' := by
  have H := Lib.hid h
  have H' := Lib.hid h'
  clear h h'
  have HL := Lib.hid H.out.1
  have HL' := Lib.hid H'.out.1
  by_cases hnn : n = n'
  · go_enter Try.func18, Try.ntmps18
    have Hnn := Lib.hid hnn
    have hne : ((n : Int) != (n' : Int)) = false := by simp [hnn]
    clear hnn
    go_wp2
    go_loopw [5] (fun iv wr => ∃ k : Nat, k ≤ n ∧ iv = .int .i64 k ∧ Tr.same xs ys k ∧ Drawn w wr) (fun i _ => n - (intOf i).toNat)
    case atStart => exact ⟨0, by omega, rfl, fun j hj => absurd hj (by omega), Drawn.refl _⟩
    case round =>
      obtain ⟨k, hk, rfl, hsm, hD⟩ := hrel
      have Hsm := Lib.hid hsm
      clear hsm
      by_cases hlt : k < n
      · obtain ⟨ad, rfl, hb, hl, hd⟩ := (H.out.drawn hD).at_ hlt
        obtain ⟨ad', rfl, hb', hl', hd'⟩ := (H'.out.drawn hD).at_ (k := k) (by rw [← Hnn.out]; exact hlt)
        have hlt' : (k : Int) < (n' : Int) := by rw [← Hnn.out]; omega
        have hk0 : (0 : Int) ≤ (k : Int) := by omega
        by_cases hq1 : Tr.l xs k = Tr.l ys k
        · by_cases hq2 : Tr.d xs k = Tr.d ys k
          · have Hq := Lib.hid (And.intro hq1 hq2)
            have q1 : (Tr.l xs k == Tr.l ys k) = true := by simpa using hq1
            have q2 : (Tr.d xs k == Tr.d ys k) = true := by simpa using hq2
            clear hq1 hq2
            go_wp2
            go_quiet (fail)
            go_wp2
            go_roundw
            case rel => exact ⟨k + 1, by omega, by go_num, fun j hj => by
              rcases Nat.lt_succ_iff_lt_or_eq.1 hj with h' | rfl
              · exact Hsm.out j h'
              · exact Hq.out, hD.drewN _⟩
            case measure => simp [intOf]; omega
          · have Hq := Lib.hid hq2
            have q1 : (Tr.l xs k == Tr.l ys k) = true := by simpa using hq1
            have q2 : (Tr.d xs k == Tr.d ys k) = false := by simpa using hq2
            clear hq1 hq2
            go_wp2
            go_quiet (fail)
            go_wp2
            go_ret
            refine ⟨Kit.ret_bool ?_, hD.drewN _⟩
            symm
            rw [decide_eq_false_iff_not]
            rintro rfl
            exact Hq.out rfl
        · have Hq := Lib.hid hq1
          have q1 : (Tr.l xs k == Tr.l ys k) = false := by simpa using hq1
          clear hq1
          go_wp2
          go_quiet (fail)
          go_wp2
          go_ret
          refine ⟨Kit.ret_bool ?_, hD.drewN _⟩
          symm
          rw [decide_eq_false_iff_not]
          rintro rfl
          exact Hq.out rfl
      · obtain rfl : k = n := by omega
        go_wp2
        go_ret
        refine ⟨Kit.ret_bool ?_, hD⟩
        symm
        rw [decide_eq_true_eq]
        exact Tr.ext (by rw [HL.out, HL'.out]; exact Hnn.out) (fun j hj => Hsm.out j (by rw [← HL.out]; exact hj))
  · have hne : ((n : Int) != (n' : Int)) = true := by simp; omega
    have Hq := Lib.hid (show decide (xs = ys) = false by
      rw [decide_eq_false_iff_not]; rintro rfl; exact hnn (HL.out.symm.trans HL'.out))
    clear hnn
    go_enter Try.func18, Try.ntmps18
    go_wp2
    go_ret
    exact ⟨Kit.ret_bool Hq.out.symm, Drawn.refl _⟩

end Go.Proofs.Ytgkkeejhfofcaaa

/- Contracts (At). -/
namespace Go.Proofs.Ytgkkeejhfofcaaa
open Go.RowKit
set_option linter.unusedVariables false

set_option maxHeartbeats 800000 in
set_option maxRecDepth 100000 in
theorem at0_any (a : Option Addr) (n cap : Nat) (cs : List Int) (w : World) (h : CodeIn w w.heap.size a cs) (hn : cs.length = n) (hl : n ≤ 1048576) :
    Calls Try.prog 20 #[.slice a n cap, .int .i64 0] w fun e w' => (∃ z : Nat, z < 256 ∧ e = .returned (.int .i64 (z : Int))) ∧ Below w.heap.size w w' := by
  by_cases h1 : 0 < n
  · obtain ⟨b, off, rfl, hb, hc, h0, h256⟩ := h 0 (by omega)
    obtain ⟨z, hz⟩ := Int.eq_ofNat_of_zero_le h0
    rw [hz] at hc h256
    rw [Nat.add_zero] at hc
    have a0 : IntKind.i64.wrap (z : Int) = (z : Int) := Kit.w64 (by omega) (by omega)
    have g0 : decide (0 < n) = true := decide_eq_true h1
    have g1 : (0 : Int) < (n : Int) := by omega
    have hz2 : z < 256 := by omega
    clear h hz h0 h256 hn
    go_enter Try.func20, Try.ntmps20
    go_wp2
    go_ret
    exact ⟨⟨z, hz2, rfl⟩, Below.refl _ _⟩
  · have g0 : decide (0 < n) = false := decide_eq_false h1
    obtain rfl : n = 0 := by omega
    go_enter Try.func20, Try.ntmps20
    go_wp2
    go_ret
    exact ⟨⟨0, by omega, rfl⟩, Below.refl _ _⟩
end Go.Proofs.Ytgkkeejhfofcaaa

/- Laws over a code: codes that are too long; the code as bytes. -/
namespace Go.Proofs.Ytgkkeejhfofcaaa
open Go.RowKit
set_option linter.unusedVariables false

set_option maxHeartbeats 400000 in
theorem big_small (a : Option Addr) (n cap : Nat) (h : (n : Int) ≤ 1048576) (w : World) :
    Calls Try.prog 10 #[.slice a n cap] w fun e w' => e = .returned (.bool false) ∧ w = w' := by
  go_enter Try.func10, Try.ntmps10
  go_wp2
  go_ret
  exact ⟨Kit.ret_bool (by simp; try omega), rfl⟩
set_option maxHeartbeats 400000 in
theorem big_big (a : Option Addr) (n cap : Nat) (h : (1048576 : Int) < n) (w : World) :
    Calls Try.prog 10 #[.slice a n cap] w fun e w' => e = .returned (.bool true) ∧ w = w' := by
  go_enter Try.func10, Try.ntmps10
  go_wp2
  go_ret
  exact ⟨Kit.ret_bool (by simp; try omega), rfl⟩

theorem code_of {w : World} {a : Option Addr} {n cap : Nat} {zs : List Int} (h : Kit.BytesIn w a n cap zs) : (zs.take n).length = n ∧ CodeIn w w.heap.size a (zs.take n) := by
  rcases h with ⟨rfl, rfl, rfl, rfl⟩ | ⟨x, rfl, hl, hm, hz, hcell, hwz⟩
  · exact ⟨rfl, fun j hj => by simp at hj⟩
  · have hlen : (zs.take n).length = n := by simp; omega
    refine ⟨hlen, fun j hj => ?_⟩
    have hj' : j < n := by omega
    have hc := hcell j (by omega)
    obtain ⟨b, off, spot⟩ := x
    have hspot : spot = none := by
      have := World.cell?_spot (hcell 0 (by omega))
      simpa [Addr.add] using this
    subst hspot
    have e : ((⟨b, off, none⟩ : Addr).add j) = ⟨b, off + j, none⟩ := by unfold Addr.add; split <;> simp_all
    rw [e] at hc
    have hg : (zs.take n).getD j 0 = zs.getD j 0 := by simp [List.getD, hj']
    refine ⟨b, off, rfl, ?_, by rw [hg]; exact hc, ?_⟩
    · rcases Nat.lt_or_ge b w.heap.size with h' | h'
      · exact h'
      · simp [World.cell?, Array.getElem?_eq_none h'] at hc
    · rw [hg]
      have hm : zs.getD j 0 ∈ zs := by
        rw [List.getD_eq_getElem?_getD, List.getElem?_eq_getElem (by omega)]
        exact List.getElem_mem _
      have := hwz _ hm
      simp only [List.getD_eq_getElem?_getD] at this ⊢
      simp [Lit.wf, IntKind.min, IntKind.max, IntKind.signed, IntKind.bits] at this
      omega


end Go.Proofs.Ytgkkeejhfofcaaa
