/- Texts of one claim laid into one file, in build order: IntE, ExNodeAt, NdOpen, CoOpen. -/
import Derived.Test.YtofpcedpmbecgaaHd1
import Derived.Test.YtofpcedpmbecgaaHd10
import Derived.Test.YtofpcedpmbecgaaHd11
import Derived.Test.YtofpcedpmbecgaaHd2
import Derived.Test.YtofpcedpmbecgaaHd3
import Derived.ChangeArms
import Derived.ChangeSlices
import Derived.Deep.SlicePairs
import Derived.Lib.SmallJoins
import Derived.Outline
import Derived.Test.YtofpcedpmbecgaaRows
import Derived.WideShapes
/- Contracts (IntE). -/
namespace Go.Proofs.Ytofpcedpmbecgaa
open Go.RowKit
set_option linter.unusedVariables false

set_option maxHeartbeats 800000 in
set_option maxRecDepth 100000 in
theorem eqIntS_any (A A' : Option Addr) (n c n' c' : Nat) (xs ys : List Int) (w : World) (h : IntIn w w.heap.size A n xs) (h' : IntIn w w.heap.size A' n' ys) (hn : n ≤ 1048576) (hn' : n' ≤ 1048576) :
    Calls Try.prog 39 #[.slice A n c, .slice A' n' c'] w fun e w' => e = .returned (.bool (decide (xs = ys))) ∧ Below w.heap.size w w' := by
  have H := Lib.hid h
  have H' := Lib.hid h'
  clear h h'
  have HL := Lib.hid H.out.1
  have HL' := Lib.hid H'.out.1
  by_cases hnn : n = n'
  · go_enter Try.func39, Try.ntmps39
    have Hnn := Lib.hid hnn
    have hne : ((n : Int) != (n' : Int)) = false := by simp [hnn]
    clear hnn
    go_wp2
    go_loopw [5] (fun iv wr => ∃ k : Nat, k ≤ n ∧ iv = .int .i64 k ∧ (∀ j, j < k → Zs.at xs j = Zs.at ys j) ∧ Drawn w wr) (fun i _ => n - (intOf i).toNat)
    case atStart => exact ⟨0, by omega, rfl, fun j hj => absurd hj (by omega), Drawn.refl _⟩
    case round =>
      obtain ⟨k, hk, rfl, hsm, hD⟩ := hrel
      have Hsm := Lib.hid hsm
      clear hsm
      by_cases hlt : k < n
      · obtain ⟨ad, rfl, hb, hl⟩ := (H.out.drawn hD).at_ hlt
        obtain ⟨ad', rfl, hb', hl'⟩ := (H'.out.drawn hD).at_ (k := k) (by rw [← Hnn.out]; exact hlt)
        have hlt' : (k : Int) < (n' : Int) := by rw [← Hnn.out]; omega
        have hk0 : (0 : Int) ≤ (k : Int) := by omega
        by_cases hq1 : Zs.at xs k = Zs.at ys k
        · have Hq := Lib.hid hq1
          have q1 : (Zs.at xs k != Zs.at ys k) = false := by simpa using hq1
          clear hq1
          go_wp2
          go_quiet (fail)
          go_wp2
          go_roundw
          case rel => exact ⟨k + 1, by omega, by go_num, fun j hj => by
            rcases Nat.lt_succ_iff_lt_or_eq.1 hj with h' | rfl
            · exact Hsm.out j h'
            · exact Hq.out, hD.drewN _⟩
          case measure => simp [intOf]; omega
        · have Hq := Lib.hid hq1
          have q1 : (Zs.at xs k != Zs.at ys k) = true := by simpa using hq1
          clear hq1
          go_wp2
          go_quiet (fail)
          go_wp2
          go_ret
          refine ⟨Kit.ret_bool ?_, (hD.drewN _).toBelow⟩
          symm
          rw [decide_eq_false_iff_not]
          rintro rfl
          exact Hq.out rfl
      · obtain rfl : k = n := by omega
        go_wp2
        go_ret
        refine ⟨Kit.ret_bool ?_, hD.toBelow⟩
        symm
        rw [decide_eq_true_eq]
        exact Zs.ext (by rw [HL.out, HL'.out]; exact Hnn.out) (fun j hj => Hsm.out j (by rw [← HL.out]; exact hj))
  · have hne : ((n : Int) != (n' : Int)) = true := by simp; omega
    have Hq := Lib.hid (show decide (xs = ys) = false by
      rw [decide_eq_false_iff_not]; rintro rfl; exact hnn (HL.out.symm.trans HL'.out))
    clear hnn
    go_enter Try.func39, Try.ntmps39
    go_wp2
    go_ret
    exact ⟨Kit.ret_bool Hq.out.symm, Below.refl _ _⟩


end Go.Proofs.Ytofpcedpmbecgaa

/- Contracts (ExNodeAt). -/
namespace Go.Proofs.Ytofpcedpmbecgaa
open Go.RowKit
set_option linter.unusedVariables false

set_option maxHeartbeats 800000 in
set_option maxRecDepth 100000 in
theorem exactNodeAt_walk (A0 : Option Addr) (n0 c0 : Nat) (x0 : Tr) (A1 : Option Addr) (n1 c1 : Nat) (z1 : List Int) (le0 : n0 ≤ maxLen) (_wf0 : Tr.wf x0) (le1 : n1 ≤ maxLen) (w : World) (h0 : NdIn w w.heap.size A0 n0 x0) (h1 : IntIn w w.heap.size A1 n1 z1) :
    Calls Try.prog 8 #[.slice A0 n0 c0, .slice A1 n1 c1] w fun e w' => e = .returned (.bool true) ∧ Below w.heap.size w w' := by
  have Ia0 := Lib.hid h0
  have Ia1 := Lib.hid h1
  clear h0 h1
  unfold maxLen at le0 le1
  by_cases hb1 : (1048576 : Int) < n1
  · go_enter Try.func8, Try.ntmps8
    go_wp2
    go_ret
    exact ⟨rfl, Below.refl _ _⟩
  by_cases hs0 : n0 ≤ 1048576
  rotate_left
  · go_enter Try.func8, Try.ntmps8
    go_wp2_with fail
    refine (szNodeS_any _ _ _ _ _ le0 (by omega) (by omega)).mono ?_
    rintro e w' ⟨rfl, rfl⟩
    rw [if_neg (by omega)]
    go_wp2
    go_ret
    exact ⟨rfl, Below.refl _ _⟩
  have hn0 : n0 ≤ 1048576 := by omega
  have hn1 : n1 ≤ 1048576 := by omega
  go_enter Try.func8, Try.ntmps8
  go_wp2_with fail
  refine (szNodeS_any _ _ _ _ _ le0 (by omega) (by omega)).mono ?_
  rintro e w' ⟨rfl, rfl⟩
  rw [if_pos (by omega)]
  have La0 := Lib.hid (Below.refl (World.heap w).size w)
  have La1 := Lib.hid (Below.refl (World.heap w).size w)
  have LW := Lib.hid (Below.refl (World.heap w).size w)
  go_wp2_with fail
  refine (toNodeS_any _ _ _ x0 _ (NdIn.to_below Ia0.out La0.out) hn0).mono ?_
  rintro e w1 ⟨rfl, ho, hb⟩
  have La0 := Lib.hid (La0.out.trans (hb.mono La0.out.size))
  have La1 := Lib.hid (La1.out.trans (hb.mono La1.out.size))
  have LW := Lib.hid (LW.out.trans (hb.mono LW.out.size))
  clear hb
  have Is0 := Lib.hid (NdIn.of_own ho)
  have Ls0 := Lib.hid (Below.refl (World.heap w1).size w1)
  clear ho
  go_wp2_with fail
  refine (toIntS_any _ _ _ z1 _ (IntIn.to_below Ia1.out La1.out) hn1).mono ?_
  rintro e w2 ⟨rfl, ho, hb⟩
  have La0 := Lib.hid (La0.out.trans (hb.mono La0.out.size))
  have La1 := Lib.hid (La1.out.trans (hb.mono La1.out.size))
  have Ls0 := Lib.hid (Ls0.out.trans (hb.mono Ls0.out.size))
  have LW := Lib.hid (LW.out.trans (hb.mono LW.out.size))
  clear hb
  have Is1 := Lib.hid (IntIn.of_own ho)
  have Ls1 := Lib.hid (Below.refl (World.heap w2).size w2)
  clear ho
  go_wp2_with fail
  refine (specNodeAt_any _ _ _ _ _ _ x0 z1 _ (NdIn.to_below Is0.out Ls0.out) (IntIn.to_below Is1.out Ls1.out) hn0 hn1).mono ?_
  rintro e w3 ⟨rfl, hb⟩
  have La0 := Lib.hid (La0.out.trans (hb.mono La0.out.size))
  have La1 := Lib.hid (La1.out.trans (hb.mono La1.out.size))
  have Ls0 := Lib.hid (Ls0.out.trans (hb.mono Ls0.out.size))
  have Ls1 := Lib.hid (Ls1.out.trans (hb.mono Ls1.out.size))
  have LW := Lib.hid (LW.out.trans (hb.mono LW.out.size))
  clear hb
  go_wp2_with fail
  refine (toNodeS_any _ _ _ x0 _ (NdIn.to_below Ia0.out La0.out) hn0).mono ?_
  rintro e w4 ⟨rfl, ho, hb⟩
  have La0 := Lib.hid (La0.out.trans (hb.mono La0.out.size))
  have La1 := Lib.hid (La1.out.trans (hb.mono La1.out.size))
  have Ls0 := Lib.hid (Ls0.out.trans (hb.mono Ls0.out.size))
  have Ls1 := Lib.hid (Ls1.out.trans (hb.mono Ls1.out.size))
  have LW := Lib.hid (LW.out.trans (hb.mono LW.out.size))
  clear hb
  have Ix0 := Lib.hid (NdIn.of_own ho)
  have Lx0 := Lib.hid (Below.refl (World.heap w4).size w4)
  clear ho
  go_wp2_with fail
  refine (toIntS_any _ _ _ z1 _ (IntIn.to_below Ia1.out La1.out) hn1).mono ?_
  rintro e w5 ⟨rfl, ho, hb⟩
  have La0 := Lib.hid (La0.out.trans (hb.mono La0.out.size))
  have La1 := Lib.hid (La1.out.trans (hb.mono La1.out.size))
  have Ls0 := Lib.hid (Ls0.out.trans (hb.mono Ls0.out.size))
  have Ls1 := Lib.hid (Ls1.out.trans (hb.mono Ls1.out.size))
  have Lx0 := Lib.hid (Lx0.out.trans (hb.mono Lx0.out.size))
  have LW := Lib.hid (LW.out.trans (hb.mono LW.out.size))
  clear hb
  have Ix1 := Lib.hid (IntIn.of_own ho)
  have Lx1 := Lib.hid (Below.refl (World.heap w5).size w5)
  clear ho
  go_wp2_with fail
  refine (implNodeAt_any _ _ _ _ _ _ x0 z1 _ (NdIn.to_below Ix0.out Lx0.out) (IntIn.to_below Ix1.out Lx1.out) hn0 hn1 (Nat.le_refl _)).mono ?_
  rintro e w6 ⟨rfl, hb⟩
  have La0 := Lib.hid (La0.out.trans (hb.mono La0.out.size))
  have La1 := Lib.hid (La1.out.trans (hb.mono La1.out.size))
  have Ls0 := Lib.hid (Ls0.out.trans (hb.mono Ls0.out.size))
  have Ls1 := Lib.hid (Ls1.out.trans (hb.mono Ls1.out.size))
  have Lx0 := Lib.hid (Lx0.out.trans (hb.mono Lx0.out.size))
  have Lx1 := Lib.hid (Lx1.out.trans (hb.mono Lx1.out.size))
  have LW := Lib.hid (LW.out.trans (hb.mono LW.out.size))
  clear hb
  go_wp2_with fail
  refine (toNodeS_any _ _ _ x0 _ (NdIn.to_below Ia0.out La0.out) hn0).mono ?_
  rintro e w7 ⟨rfl, ho, hb⟩
  have La0 := Lib.hid (La0.out.trans (hb.mono La0.out.size))
  have La1 := Lib.hid (La1.out.trans (hb.mono La1.out.size))
  have Ls0 := Lib.hid (Ls0.out.trans (hb.mono Ls0.out.size))
  have Ls1 := Lib.hid (Ls1.out.trans (hb.mono Ls1.out.size))
  have Lx0 := Lib.hid (Lx0.out.trans (hb.mono Lx0.out.size))
  have Lx1 := Lib.hid (Lx1.out.trans (hb.mono Lx1.out.size))
  have LW := Lib.hid (LW.out.trans (hb.mono LW.out.size))
  clear hb
  have Iy0 := Lib.hid (NdIn.of_own ho)
  have Ly0 := Lib.hid (Below.refl (World.heap w7).size w7)
  clear ho
  go_wp2_with fail
  refine (eqNodeS_any _ _ _ _ _ _ x0 x0 _ (NdIn.to_below Ix0.out Lx0.out) (NdIn.to_below Iy0.out Ly0.out) hn0 hn0).mono ?_
  rintro e w8 ⟨rfl, hb⟩
  have La0 := Lib.hid (La0.out.trans (hb.mono La0.out.size))
  have La1 := Lib.hid (La1.out.trans (hb.mono La1.out.size))
  have Ls0 := Lib.hid (Ls0.out.trans (hb.mono Ls0.out.size))
  have Ls1 := Lib.hid (Ls1.out.trans (hb.mono Ls1.out.size))
  have Lx0 := Lib.hid (Lx0.out.trans (hb.mono Lx0.out.size))
  have Lx1 := Lib.hid (Lx1.out.trans (hb.mono Lx1.out.size))
  have Ly0 := Lib.hid (Ly0.out.trans (hb.mono Ly0.out.size))
  have LW := Lib.hid (LW.out.trans (hb.mono LW.out.size))
  clear hb
  go_wp2_with fail
  refine (toIntS_any _ _ _ z1 _ (IntIn.to_below Ia1.out La1.out) hn1).mono ?_
  rintro e w9 ⟨rfl, ho, hb⟩
  have La0 := Lib.hid (La0.out.trans (hb.mono La0.out.size))
  have La1 := Lib.hid (La1.out.trans (hb.mono La1.out.size))
  have Ls0 := Lib.hid (Ls0.out.trans (hb.mono Ls0.out.size))
  have Ls1 := Lib.hid (Ls1.out.trans (hb.mono Ls1.out.size))
  have Lx0 := Lib.hid (Lx0.out.trans (hb.mono Lx0.out.size))
  have Lx1 := Lib.hid (Lx1.out.trans (hb.mono Lx1.out.size))
  have Ly0 := Lib.hid (Ly0.out.trans (hb.mono Ly0.out.size))
  have LW := Lib.hid (LW.out.trans (hb.mono LW.out.size))
  clear hb
  have Iy1 := Lib.hid (IntIn.of_own ho)
  have Ly1 := Lib.hid (Below.refl (World.heap w9).size w9)
  clear ho
  go_wp2_with fail
  refine (eqIntS_any _ _ _ _ _ _ z1 z1 _ (IntIn.to_below Ix1.out Lx1.out) (IntIn.to_below Iy1.out Ly1.out) hn1 hn1).mono ?_
  rintro e w10 ⟨rfl, hb⟩
  have La0 := Lib.hid (La0.out.trans (hb.mono La0.out.size))
  have La1 := Lib.hid (La1.out.trans (hb.mono La1.out.size))
  have Ls0 := Lib.hid (Ls0.out.trans (hb.mono Ls0.out.size))
  have Ls1 := Lib.hid (Ls1.out.trans (hb.mono Ls1.out.size))
  have Lx0 := Lib.hid (Lx0.out.trans (hb.mono Lx0.out.size))
  have Lx1 := Lib.hid (Lx1.out.trans (hb.mono Lx1.out.size))
  have Ly0 := Lib.hid (Ly0.out.trans (hb.mono Ly0.out.size))
  have Ly1 := Lib.hid (Ly1.out.trans (hb.mono Ly1.out.size))
  have LW := Lib.hid (LW.out.trans (hb.mono LW.out.size))
  clear hb
  go_wp2
  go_ret
  exact ⟨rfl, LW.out⟩

end Go.Proofs.Ytofpcedpmbecgaa

/- An argument []Node, opened: it reads as a list of nodes. -/
namespace Go.Proofs.Ytofpcedpmbecgaa
open Go.RowKit Go.ChangeShapes Go.WideShapes Go.Deep
set_option linter.unusedVariables false

theorem open_nodes {H : Type} {enc : TypeId × Value → H} {P : Program} {w : World} {base : Nat} {spare : Nat → Bool} {held : Bool} {t e : TypeId} {f0 f1 : Field} {fuel : Nat} {a : Option Addr} {len cap : Nat} {x : DataW H × List MemPlace}
    (ht : P.underlying t = some (.slice e)) (he : P.underlying e = some (.struct #[f0, f1]))
    (ce : P.cellsOf e = 2) (o0 : f0.offset = 0) (o1 : f1.offset = 1) (c0 : P.cellsOf f0.type = 1) (c1 : P.cellsOf f1.type = 1)
    (k0 : P.underlying f0.type = some (.int .i64)) (k1 : P.underlying f1.type = some (.int .i64))
    (h : DataW.trod enc P w base spare held fuel t [.slice a len cap] = some x) : ∃ xs : Tr, NdIn w w.heap.size a len xs ∧ Tr.wf xs ∧ len ≤ maxLen := by
  have hnil : Tr.wf [] := fun k => by simp [Tr.l, Tr.d]
  rcases open_slice_pairs ht he ce o0 o1 c0 c1 h with ⟨hcs, _⟩ | ⟨ad, l, c, m, n, V0, V1, D0, D1, P0, P1, hcs, _, hl, hm, hmm, _, hi⟩
  · simp at hcs
    obtain ⟨rfl, rfl, rfl⟩ := hcs
    exact ⟨[], ⟨rfl, fun h => absurd h (by omega), fun ad e => by cases e⟩, hnil, by simp [maxLen]⟩
  · simp at hcs
    obtain ⟨rfl, rfl, rfl⟩ := hcs
    have hlm : len ≤ m := by rw [hmm]; split <;> omega
    have each : ∀ i, i < len → ∃ q : Int × Int, w.cell? (ad.add (i * 2)) = some (.int .i64 q.1) ∧ w.cell? (ad.add (i * 2 + 1)) = some (.int .i64 q.2) ∧ (Lit.int .i64 q.1).wf = true ∧ (Lit.int .i64 q.2).wf = true := by
      intro i hil
      obtain ⟨h1, h2, h3, h4⟩ := hi i (by omega)
      obtain ⟨z0, e0, _, w0⟩ := DataW.trod_int k0 h3
      obtain ⟨z1, e1, _, w1⟩ := DataW.trod_int k1 h4
      simp at e0 e1
      exact ⟨(z0, z1), by rw [h1, e0], by rw [h2, e1], w0, w1⟩
    obtain ⟨q, hq⟩ := choose_lt each
    have hget (k : Nat) (hk : k < len) : ((List.range len).map q).getD k (0, 0) = q k := by simp [List.getD_eq_getElem?_getD, hk]
    refine ⟨(List.range len).map q, ⟨by simp, fun hn => ⟨ad, rfl, ?_⟩, fun ad' e k hk => ?_⟩, fun k => ?_, by omega⟩
    · have := World.block_lt_of_cell? w _ (hq 0 hn).1
      rwa [block_of_add] at this
    · obtain rfl : ad = ad' := by injection e
      simp only [Tr.l, Tr.d, hget k hk]
      exact ⟨(hq k hk).1, (hq k hk).2.1⟩
    · by_cases hk : k < len
      · simp only [Tr.l, Tr.d, hget k hk]
        exact ⟨Kit.wf_le (hq k hk).2.2.1, Kit.wf_le (hq k hk).2.2.2⟩
      · simp [Tr.l, Tr.d, List.getD_eq_getElem?_getD, hk]

end Go.Proofs.Ytofpcedpmbecgaa

/- Contracts (CoOpen). -/
namespace Go.Proofs.Ytofpcedpmbecgaa
open Go.RowKit
set_option linter.unusedVariables false

open Go.ChangeShapes Go.WideShapes Go.Deep Go.Joins
theorem open_introw {H : Type} {enc : TypeId × Value → H} {P : Program} {w : World} {base : Nat} {spare : Nat → Bool} {held : Bool} {t e : TypeId} {fuel : Nat} {v : Value} {x : DataW H × List MemPlace}
    (ht : P.underlying t = some (.slice e)) (he : P.underlying e = some (.int .i64)) (hc : P.cellsOf e = 1)
    (h : DataW.trod enc P w base spare held fuel t [v] = some x) : ∃ (A : Option Addr) (n c : Nat) (zs : List Int), v = .slice A n c ∧ IntIn w w.heap.size A n zs ∧ n ≤ maxLen := by
  rcases open_ints ht he hc h with ⟨hcs, _⟩ | ⟨a, l, c, zs, hcs, _, hl, hm, hz, _, hcell, hwz⟩
  · simp at hcs
    subst hcs
    exact ⟨none, 0, 0, [], rfl, ⟨rfl, fun h => absurd h (by omega), fun ad e => by cases e⟩, by simp [maxLen]⟩
  · simp at hcs
    subst hcs
    have hlz : l ≤ zs.length := by rw [hz]; split <;> omega
    refine ⟨some a, l, c, zs.take l, rfl, ⟨by simp; omega, fun hn => ⟨a, rfl, ?_⟩, fun ad e k hk => ?_⟩, by omega⟩
    · have := World.block_lt_of_cell? w _ (hcell 0 (by omega))
      rwa [block_of_add] at this
    · obtain rfl : a = ad := by injection e
      rw [hcell k (by omega)]
      simp [Zs.at, List.getD_eq_getElem?_getD, hk]
end Go.Proofs.Ytofpcedpmbecgaa
