/- Texts of one claim laid into one file, in build order: NdEq, NdM, ExMapsOf. -/
import Derived.Test.YtnfjdlocmdgefaaEm1
import Derived.Test.YtnfjdlocmdgefaaEm15
import Derived.Test.YtnfjdlocmdgefaaEm16
import Derived.Test.YtnfjdlocmdgefaaEm18
import Derived.Test.YtnfjdlocmdgefaaEm2
import Derived.Outline
import Derived.StillTailTactics
import Derived.Test.YtnfjdlocmdgefaaRows
/- Contracts of the harness over []Node: equality. -/
namespace Go.Proofs.Ytnfjdlocmdgefaa
open Go.RowKit
set_option linter.unusedVariables false

set_option maxHeartbeats 400000 in
theorem eqNode_any (a b c d : Int) (w : World) :
    Calls Try.prog 47 #[.agg #[.int .i64 a, .int .i64 b], .agg #[.int .i64 c, .int .i64 d]] w fun e w' => e = .returned (.bool (decide (a = c ∧ b = d))) ∧ Below w.heap.size w w' := by
  have hB : ∀ o1 o2, Below w.heap.size w ((w.alloc o1).alloc o2) := fun o1 o2 => ((Below.refl _ _).alloc (Nat.le_refl _) _).alloc (by simp) _
  by_cases h1 : a = c
  · by_cases h2 : b = d
    · subst h1 h2
      go_enter Try.func47, Try.ntmps47
      go_wp2
      go_ret
      exact ⟨Kit.ret_bool (by simp), hB _ _⟩
    · have h2' : (b != d) = true := by simpa using h2
      subst h1
      go_enter Try.func47, Try.ntmps47
      go_wp2
      go_ret
      exact ⟨Kit.ret_bool (by simp [h2]), hB _ _⟩
  · have h1' : (a != c) = true := by simpa using h1
    go_enter Try.func47, Try.ntmps47
    go_wp2
    go_ret
    exact ⟨Kit.ret_bool (by simp [h1]), hB _ _⟩


set_option maxHeartbeats 800000 in
set_option maxRecDepth 100000 in
theorem eqNodeS_any (A A' : Option Addr) (n c n' c' : Nat) (xs ys : Tr) (w : World) (h : NdIn w w.heap.size A n xs) (h' : NdIn w w.heap.size A' n' ys) (hn : n ≤ 1048576) (hn' : n' ≤ 1048576) :
    Calls Try.prog 20 #[.slice A n c, .slice A' n' c'] w fun e w' => e = .returned (.bool (decide (xs = ys))) ∧ Below w.heap.size w w' := by
  have H := Lib.hid h
  have H' := Lib.hid h'
  clear h h'
  have HL := Lib.hid H.out.1
  have HL' := Lib.hid H'.out.1
  by_cases hnn : n = n'
  · go_enter Try.func20, Try.ntmps20
    have Hnn := Lib.hid hnn
    have hne : ((n : Int) != (n' : Int)) = false := by simp [hnn]
    clear hnn
    go_wp2
    go_loopw [5] (fun iv wr => ∃ k : Nat, k ≤ n ∧ iv = .int .i64 k ∧ Tr.same xs ys k ∧ Below w.heap.size w wr) (fun i _ => n - (intOf i).toNat)
    case atStart => exact ⟨0, by omega, rfl, fun j hj => absurd hj (by omega), Below.refl _ _⟩
    case round =>
      obtain ⟨k, hk, rfl, hsm, hB⟩ := hrel
      have hsz := hB.size
      have Hsm := Lib.hid hsm
      have HB := Lib.hid hB
      clear hsm hB
      by_cases hlt : k < n
      · obtain ⟨ad, rfl, hb, hl, hd⟩ := (H.out.below HB.out).at_ hlt
        obtain ⟨ad', rfl, hb', hl', hd'⟩ := (H'.out.below HB.out).at_ (k := k) (by rw [← Hnn.out]; exact hlt)
        have hlt' : (k : Int) < (n' : Int) := by rw [← Hnn.out]; omega
        have hk0 : (0 : Int) ≤ (k : Int) := by omega
        have HB2 := Lib.hid HB.out.drew
        have hsz2 := HB.out.drew.size
        by_cases hq : Tr.l xs k = Tr.l ys k ∧ Tr.d xs k = Tr.d ys k
        · have hq' : decide (Tr.l xs k = Tr.l ys k ∧ Tr.d xs k = Tr.d ys k) = true := by simpa using hq
          have Hq := Lib.hid hq
          clear hq
          go_wp2
          go_still_tail 8, (by kernel_rfl)
          change wpList _ _ _ _ _ wr.drew
          generalize wr.drew = w2 at HB2 hsz2 ⊢
          go_wp2_with (go_at_call 47; refine (eqNode_any _ _ _ _ _).mono ?_; rintro e w3 ⟨rfl, hb3⟩)
          go_roundw
          case rel => exact ⟨k + 1, by omega, by go_num, fun j hj => by
            rcases Nat.lt_succ_iff_lt_or_eq.1 hj with h' | rfl
            · exact Hsm.out j h'
            · exact Hq.out, HB2.out.trans (hb3.mono hsz2)⟩
          case measure => simp [intOf]; omega
        · have hq' : decide (Tr.l xs k = Tr.l ys k ∧ Tr.d xs k = Tr.d ys k) = false := by simpa using hq
          have Hq := Lib.hid hq
          clear hq
          go_wp2
          go_still_tail 8, (by kernel_rfl)
          change wpList _ _ _ _ _ wr.drew
          generalize wr.drew = w2 at HB2 hsz2 ⊢
          go_wp2_with (go_at_call 47; refine (eqNode_any _ _ _ _ _).mono ?_; rintro e w3 ⟨rfl, hb3⟩)
          go_ret
          refine ⟨Kit.ret_bool ?_, HB2.out.trans (hb3.mono hsz2)⟩
          symm
          rw [decide_eq_false_iff_not]
          rintro rfl
          exact Hq.out ⟨rfl, rfl⟩
      · obtain rfl : k = n := by omega
        go_wp2
        go_ret
        refine ⟨Kit.ret_bool ?_, HB.out⟩
        symm
        rw [decide_eq_true_eq]
        exact Tr.ext (by rw [HL.out, HL'.out]; exact Hnn.out) (fun j hj => Hsm.out j (by rw [← HL.out]; exact hj))
  · have hne : ((n : Int) != (n' : Int)) = true := by simp; omega
    have Hq := Lib.hid (show decide (xs = ys) = false by
      rw [decide_eq_false_iff_not]; rintro rfl; exact hnn (HL.out.symm.trans HL'.out))
    clear hnn
    go_enter Try.func20, Try.ntmps20
    go_wp2
    go_ret
    exact ⟨Kit.ret_bool Hq.out.symm, Below.refl _ _⟩

end Go.Proofs.Ytnfjdlocmdgefaa

/- Contracts (NdM). -/
namespace Go.Proofs.Ytnfjdlocmdgefaa
open Go.RowKit
set_option linter.unusedVariables false

set_option maxHeartbeats 800000 in
set_option maxRecDepth 100000 in
theorem markNodeS_any (A : Option Addr) (n c base : Nat) (e0 : TypeId) (k0 : Int) (xs : Tr) (w : World) (h : w.ownsRow base e0 2 (.slice A n c) n (Tr.cells xs)) (hn : n ≤ 1048576) (h0 : 0 ≤ k0) (h1 : k0 ≤ 1073741824) :
    Calls Try.prog 21 #[.slice A n c, .int .i64 k0] w fun e w' => e = .returned (.int .i64 (k0 + 2 * n)) ∧ w'.ownsRow base e0 2 (.slice A n c) n (Tr.cells (Tr.marks k0 n)) ∧ w.grownBy w' (Value.ownBlock (.slice A n c)) := by
  have H := Lib.hid h
  have HL := Lib.hid (show xs.length = n by have := h.1; rw [Tr.cells_length] at this; omega)
  clear h
  go_enter Try.func21, Try.ntmps21
  go_wp2
  go_loopw [5, 1] (fun iv kv wr => ∃ j : Nat, j ≤ n ∧ iv = .int .i64 j ∧ kv = .int .i64 (k0 + 2 * j) ∧ wr.ownsRow base e0 2 (.slice A n c) n (Tr.cells (Tr.marked k0 xs j)) ∧ w.grownBy wr (Value.ownBlock (.slice A n c))) (fun i _ _ => n - (intOf i).toNat)
  case atStart => exact ⟨0, by omega, rfl, by simp, by simpa [Tr.marked, Tr.marks] using H.out, World.grownBy.refl _ _⟩
  case round =>
    obtain ⟨j, hj, rfl, rfl, hown, hgr⟩ := hrel
    by_cases hlt : j < n
    · obtain ⟨g, rfl, hg⟩ := own_form hown (by omega)
      have Ho := Lib.hid hown
      have Hg := Lib.hid hgr
      have c0 := own_even hown (k := j) (by rw [Tr.marked_length _ _ _ (by rw [HL.out]; omega), HL.out]; exact hlt)
      have c1 := own_odd hown (k := j) (by rw [Tr.marked_length _ _ _ (by rw [HL.out]; omega), HL.out]; exact hlt)
      have f0 := hown.frozenAt (j * 2)
      have f1 := hown.frozenAt (j * 2 + 1)
      clear hown hgr hg
      go_wp2
      go_roundw
      case rel =>
        refine ⟨j + 1, by omega, by go_num, by go_num, ?_, grown_tr Hg.out (grown_tr (Ho.out.stored _ _).2 ((Ho.out.stored _ _).1.stored _ _).2)⟩
        have := own_set Ho.out j (k0 + 2 * (j : Nat)) (k0 + 2 * (j : Nat) + 1)
        rw [Tr.marked_set _ _ _ (by rw [HL.out]; exact hlt)] at this
        exact this
      case measure => simp [intOf]; omega
    · obtain rfl : j = n := by omega
      have Ho := Lib.hid hown
      have Hg := Lib.hid hgr
      clear hown hgr
      go_wp2
      go_ret
      refine ⟨rfl, ?_, Hg.out⟩
      have := Ho.out
      rw [← HL.out, Tr.marked_all, HL.out] at this
      exact this

end Go.Proofs.Ytnfjdlocmdgefaa

/- Contracts (ExMapsOf). -/
namespace Go.Proofs.Ytnfjdlocmdgefaa
open Go.RowKit
set_option linter.unusedVariables false


theorem RowsD.old {w w' : World} {base : Nat} {v : Value} {vs : List Value} {ms : List Tr} {row : Option Nat} (h : RowsD w base v vs ms) (hg : w.grownBy w' row) (hlt : ∀ g, row = some g → g < base) : RowsD w' base v vs ms := by
  have ne : ∀ {u : Value} {e : TypeId} {sz k : Nat} {zs : List Value}, w.ownsRow base e sz u k zs → u.ownBlock = none ∨ u.ownBlock ≠ row := fun ho => by
    cases hr : row with
    | none => 
      rename_i u _ _ _ _
      cases hu : u.ownBlock with
      | none => exact .inl rfl
      | some q => exact .inr (by simp)
    | some g => exact .inr fun e => by have := (ho.lt g e).1; have := hlt g hr; omega
  exact h.other hg (ne h.1.1) (fun u hu => by obtain ⟨k, zs, hz⟩ := h.1.mem hu; exact ne hz)
theorem Rm.at_le {R : List Tr} (h : ∀ L ∈ R, L.length ≤ 24) : ∀ i, i ≤ R.length → Rm.at R i ≤ 24 * i
  | 0, _ => Nat.le_refl _
  | i + 1, hi => by
    have a := Rm.at_le h i (by omega)
    have b := h _ (by rw [List.getD_eq_getElem?_getD, List.getElem?_eq_getElem (show i < R.length by omega)]; exact List.getElem_mem _ : R.getD i [] ∈ R)
    have e : Rm.at R (i + 1) = Rm.at R i + (R.getD i []).length := rfl
    omega
theorem specMapsOf_rows {xs ys : Tr} {A A' : Option Addr} {n n' c c' : Nat} (R : List Tr) (hR : R = Am.all xs ys) (w : World) (ha : NdIn w w.heap.size A n xs) (hb : NdIn w w.heap.size A' n' ys) (hn : n ≤ 1048576) (hn' : n' ≤ 1048576) :
    Calls Try.prog 16 #[.slice A n c, .slice A' n' c'] w fun e w' => ∃ Av cv, e = .returned (.slice Av R.length cv) ∧ Hid (∃ vs, RowsP w' w.heap.size (.slice Av R.length cv) vs R) ∧ Below w.heap.size w w' :=
  (specMapsOf_any (c := c) (c' := c') w ha hb hn hn').mono (by
    rintro e w' ⟨v, vs, rfl, h, hb⟩
    rw [← hR] at h
    obtain ⟨Av, cv, rfl⟩ := own_slice h.1
    rw [h.2.1] at h ⊢
    exact ⟨Av, cv, rfl, Lib.hid ⟨vs, h⟩, hb⟩)
theorem implMapsOf_rows {xs ys : Tr} {A A' : Option Addr} {n n' c c' : Nat} (R : List Tr) (hR : R = Am.all xs ys) (w : World) (ha : NdIn w w.heap.size A n xs) (hb : NdIn w w.heap.size A' n' ys) (hn : n ≤ 1048576) (hn' : n' ≤ 1048576) (hc : n ≤ c) (hc' : n' ≤ c') :
    Calls Try.prog 8 #[.slice A n c, .slice A' n' c'] w fun e w' => ∃ Av cv, e = .returned (.slice Av R.length cv) ∧ Hid (∃ vs, RowsD w' w.heap.size (.slice Av R.length cv) vs R) ∧ Below w.heap.size w w' :=
  (implMapsOf_any (c := c) (c' := c') w ha hb hn hn' hc hc').mono (by
    rintro e w' ⟨v, vs, rfl, h, hb⟩
    rw [← hR] at h
    obtain ⟨Av, cv, rfl⟩ := own_slice h.1.1
    have hl := h.1.2.1
    rw [hl] at h ⊢
    exact ⟨Av, cv, rfl, Lib.hid ⟨vs, h⟩, hb⟩)
set_option maxHeartbeats 800000 in
set_option maxRecDepth 100000 in
theorem exactMapsOf_walk (A0 : Option Addr) (n0 c0 : Nat) (x0 : Tr) (A1 : Option Addr) (n1 c1 : Nat) (x1 : Tr) (le0 : n0 ≤ maxLen) (_wf0 : Tr.wf x0) (le1 : n1 ≤ maxLen) (_wf1 : Tr.wf x1) (w : World) (h0 : NdIn w w.heap.size A0 n0 x0) (h1 : NdIn w w.heap.size A1 n1 x1) :
    Calls Try.prog 4 #[.slice A0 n0 c0, .slice A1 n1 c1] w fun e w' => e = .returned (.bool true) ∧ Below w.heap.size w w' := by
  have Ia0 := Lib.hid h0
  clear h0
  unfold maxLen at le0
  have Ia1 := Lib.hid h1
  clear h1
  unfold maxLen at le1
  by_cases hs0 : n0 ≤ 1048576
  rotate_left
  · go_enter Try.func4, Try.ntmps4
    go_wp2_with fail
    refine (szNodeS_any _ _ _ _ _ le0 (by omega) (by omega)).mono ?_
    rintro e w' ⟨rfl, rfl⟩
    rw [if_neg (by omega)]
    go_wp2
    go_ret
    exact ⟨rfl, Below.refl _ _⟩
  by_cases hs1 : n0 + n1 ≤ 1048576
  rotate_left
  · go_enter Try.func4, Try.ntmps4
    go_wp2_with fail
    refine (szNodeS_any _ _ _ _ _ le0 (by omega) (by omega)).mono ?_
    rintro e w' ⟨rfl, rfl⟩
    rw [if_pos (by omega)]
    go_wp2_with fail
    refine (szNodeS_any _ _ _ _ _ le1 (by omega) (by omega)).mono ?_
    rintro e w' ⟨rfl, rfl⟩
    rw [if_neg (by omega)]
    go_wp2
    go_ret
    exact ⟨rfl, Below.refl _ _⟩
  have hn0 : n0 ≤ 1048576 := by omega
  have hn1 : n1 ≤ 1048576 := by omega
  obtain ⟨R, hR⟩ : ∃ R, R = Am.all x0 x1 := ⟨_, rfl⟩
  have hR1 : R.length ≤ 3125 := by rw [hR]; exact Am.all_len
  have hR2 : ∀ L ∈ R, L.length ≤ 24 := by rw [hR]; exact fun L hL => Am.all_small hL
  have HL : ∀ i, i < R.length → (R.getD i []).length ≤ 1048576 := fun i hi => Nat.le_trans (hR2 _ (by rw [List.getD_eq_getElem?_getD, List.getElem?_eq_getElem hi]; exact List.getElem_mem _)) (by decide)
  have HT : Rm.at R R.length ≤ 1048576 := by have := Rm.at_le hR2 R.length (Nat.le_refl _); omega
  have HRd := Lib.hid hR
  clear hR hR2
  go_enter Try.func4, Try.ntmps4
  go_wp2_with fail
  refine (szNodeS_any _ _ _ _ _ le0 (by omega) (by omega)).mono ?_
  rintro e w' ⟨rfl, rfl⟩
  rw [if_pos (by omega)]
  go_wp2_with fail
  refine (szNodeS_any _ _ _ _ _ le1 (by omega) (by omega)).mono ?_
  rintro e w' ⟨rfl, rfl⟩
  rw [if_pos (by omega)]
  have La0 := Lib.hid (Below.refl (World.heap w).size w)
  have La1 := Lib.hid (Below.refl (World.heap w).size w)
  have LW := Lib.hid (Below.refl (World.heap w).size w)
  go_wp2_with fail
  refine (toNodeS_any _ _ _ x0 _ (NdIn.to_below Ia0.out La0.out) hn0).mono ?_
  rintro e w1 ⟨rfl, ho, hb⟩
  have La0 := Lib.hid (La0.out.trans (hb.mono La0.out.size))
  have La1 := Lib.hid (La1.out.trans (hb.mono La1.out.size))
  have LW := Lib.hid (LW.out.trans (hb.mono LW.out.size))
  clear hb
  have Is0 := Lib.hid (NdIn.of_own ho)
  have Ls0 := Lib.hid (Below.refl (World.heap w1).size w1)
  clear ho
  go_wp2_with fail
  refine (toNodeS_any _ _ _ x1 _ (NdIn.to_below Ia1.out La1.out) hn1).mono ?_
  rintro e w2 ⟨rfl, ho, hb⟩
  have La0 := Lib.hid (La0.out.trans (hb.mono La0.out.size))
  have La1 := Lib.hid (La1.out.trans (hb.mono La1.out.size))
  have Ls0 := Lib.hid (Ls0.out.trans (hb.mono Ls0.out.size))
  have LW := Lib.hid (LW.out.trans (hb.mono LW.out.size))
  clear hb
  have Is1 := Lib.hid (NdIn.of_own ho)
  have Ls1 := Lib.hid (Below.refl (World.heap w2).size w2)
  clear ho
  go_wp2_with fail
  refine (specMapsOf_rows R HRd.out _ (NdIn.to_below Is0.out Ls0.out) (NdIn.to_below Is1.out Ls1.out) hn0 hn1).mono ?_
  rintro e w3 ⟨Aw0, cw0, rfl, ho, hb⟩
  have La0 := Lib.hid (La0.out.trans (hb.mono La0.out.size))
  have La1 := Lib.hid (La1.out.trans (hb.mono La1.out.size))
  have Ls0 := Lib.hid (Ls0.out.trans (hb.mono Ls0.out.size))
  have Ls1 := Lib.hid (Ls1.out.trans (hb.mono Ls1.out.size))
  have LW := Lib.hid (LW.out.trans (hb.mono LW.out.size))
  clear hb
  obtain ⟨vsw0, ho⟩ := ho.out
  have Iw0 := Lib.hid ho
  have Lw0 := Lib.hid (Below.refl (World.heap w3).size w3)
  clear ho
  have Ma0_x0 := La0.out.size
  have Ma1_x0 := La1.out.size
  have Mw0_x0 := Lw0.out.size
  have MW_x0 := LW.out.size
  go_wp2_with fail
  refine (toNodeS_any _ _ _ x0 _ (NdIn.to_below Ia0.out La0.out) hn0).mono ?_
  rintro e w4 ⟨rfl, ho, hb⟩
  have La0 := Lib.hid (La0.out.trans (hb.mono La0.out.size))
  have La1 := Lib.hid (La1.out.trans (hb.mono La1.out.size))
  have Lw0 := Lib.hid (Lw0.out.trans (hb.mono Lw0.out.size))
  have LW := Lib.hid (LW.out.trans (hb.mono LW.out.size))
  clear hb
  have Ox0 := Lib.hid ho
  clear ho
  have Ma0_x1 := La0.out.size
  have Ma1_x1 := La1.out.size
  have Mw0_x1 := Lw0.out.size
  have MW_x1 := LW.out.size
  have Mx0_x1 := fun k hk => (Ox0.out.lt k hk).2
  go_wp2_with fail
  refine (toNodeS_any _ _ _ x1 _ (NdIn.to_below Ia1.out La1.out) hn1).mono ?_
  rintro e w5 ⟨rfl, ho, hb⟩
  have La0 := Lib.hid (La0.out.trans (hb.mono La0.out.size))
  have La1 := Lib.hid (La1.out.trans (hb.mono La1.out.size))
  have Lw0 := Lib.hid (Lw0.out.trans (hb.mono Lw0.out.size))
  have Ox0 := Lib.hid (own_below Ox0.out hb)
  have LW := Lib.hid (LW.out.trans (hb.mono LW.out.size))
  clear hb
  have Ox1 := Lib.hid ho
  clear ho
  have Ma0_g0 := La0.out.size
  have Ma1_g0 := La1.out.size
  have Mw0_g0 := Lw0.out.size
  have MW_g0 := LW.out.size
  have Mx0_g0 := fun k hk => (Ox0.out.lt k hk).2
  have Mx1_g0 := fun k hk => (Ox1.out.lt k hk).2
  go_wp2_with fail
  refine (implMapsOf_rows R HRd.out _ (NdIn.of_own Ox0.out) (NdIn.of_own Ox1.out) hn0 hn1 (Nat.le_refl _) (Nat.le_refl _)).mono ?_
  rintro e w6 ⟨Ag0, cg0, rfl, ho, hb⟩
  have hz := hb.size
  have La0 := Lib.hid (La0.out.trans (hb.mono La0.out.size))
  have La1 := Lib.hid (La1.out.trans (hb.mono La1.out.size))
  have Lw0 := Lib.hid (Lw0.out.trans (hb.mono Lw0.out.size))
  have Ox0 := Lib.hid (own_below Ox0.out hb)
  have Ox1 := Lib.hid (own_below Ox1.out hb)
  have LW := Lib.hid (LW.out.trans (hb.mono LW.out.size))
  clear hb
  obtain ⟨vsg0, ho⟩ := ho.out
  have Og0 := Lib.hid ho
  have Zg0 := hz
  clear hz
  clear ho
  go_wp2_with fail
  refine (eqPairSS_same _ _ _ _ _ _ _ _ _ R _ Og0.out.1 (RowsP.below Iw0.out Lw0.out) rfl (by omega) HL).mono ?_
  rintro e w7 ⟨rfl, hb⟩
  have La0 := Lib.hid (La0.out.trans (hb.mono La0.out.size))
  have La1 := Lib.hid (La1.out.trans (hb.mono La1.out.size))
  have Lw0 := Lib.hid (Lw0.out.trans (hb.mono Lw0.out.size))
  have Ox0 := Lib.hid (own_below Ox0.out hb)
  have Ox1 := Lib.hid (own_below Ox1.out hb)
  have Og0 := Lib.hid (RowsD.below Og0.out hb)
  have Zg0 := Nat.le_trans Zg0 hb.size
  have LW := Lib.hid (LW.out.trans (hb.mono LW.out.size))
  clear hb
  go_wp2_with fail
  refine (toNodeS_any _ _ _ x0 _ (NdIn.to_below Ia0.out La0.out) hn0).mono ?_
  rintro e w8 ⟨rfl, ho, hb⟩
  have La0 := Lib.hid (La0.out.trans (hb.mono La0.out.size))
  have La1 := Lib.hid (La1.out.trans (hb.mono La1.out.size))
  have Lw0 := Lib.hid (Lw0.out.trans (hb.mono Lw0.out.size))
  have Ox0 := Lib.hid (own_below Ox0.out hb)
  have Ox1 := Lib.hid (own_below Ox1.out hb)
  have Og0 := Lib.hid (RowsD.below Og0.out hb)
  have Zg0 := Nat.le_trans Zg0 hb.size
  have LW := Lib.hid (LW.out.trans (hb.mono LW.out.size))
  clear hb
  have Iy0 := Lib.hid (NdIn.of_own ho)
  have Ly0 := Lib.hid (Below.refl (World.heap w8).size w8)
  clear ho
  go_wp2_with fail
  refine (eqNodeS_any _ _ _ _ _ _ x0 x0 _ (NdIn.of_own Ox0.out) (NdIn.to_below Iy0.out Ly0.out) hn0 hn0).mono ?_
  rintro e w9 ⟨rfl, hb⟩
  have La0 := Lib.hid (La0.out.trans (hb.mono La0.out.size))
  have La1 := Lib.hid (La1.out.trans (hb.mono La1.out.size))
  have Lw0 := Lib.hid (Lw0.out.trans (hb.mono Lw0.out.size))
  have Ly0 := Lib.hid (Ly0.out.trans (hb.mono Ly0.out.size))
  have Ox0 := Lib.hid (own_below Ox0.out hb)
  have Ox1 := Lib.hid (own_below Ox1.out hb)
  have Og0 := Lib.hid (RowsD.below Og0.out hb)
  have Zg0 := Nat.le_trans Zg0 hb.size
  have LW := Lib.hid (LW.out.trans (hb.mono LW.out.size))
  clear hb
  go_wp2_with fail
  refine (toNodeS_any _ _ _ x1 _ (NdIn.to_below Ia1.out La1.out) hn1).mono ?_
  rintro e w10 ⟨rfl, ho, hb⟩
  have La0 := Lib.hid (La0.out.trans (hb.mono La0.out.size))
  have La1 := Lib.hid (La1.out.trans (hb.mono La1.out.size))
  have Lw0 := Lib.hid (Lw0.out.trans (hb.mono Lw0.out.size))
  have Ox0 := Lib.hid (own_below Ox0.out hb)
  have Ox1 := Lib.hid (own_below Ox1.out hb)
  have Og0 := Lib.hid (RowsD.below Og0.out hb)
  have Zg0 := Nat.le_trans Zg0 hb.size
  have LW := Lib.hid (LW.out.trans (hb.mono LW.out.size))
  clear hb
  have Iy1 := Lib.hid (NdIn.of_own ho)
  have Ly1 := Lib.hid (Below.refl (World.heap w10).size w10)
  clear ho
  go_wp2_with fail
  refine (eqNodeS_any _ _ _ _ _ _ x1 x1 _ (NdIn.of_own Ox1.out) (NdIn.to_below Iy1.out Ly1.out) hn1 hn1).mono ?_
  rintro e w11 ⟨rfl, hb⟩
  have La0 := Lib.hid (La0.out.trans (hb.mono La0.out.size))
  have La1 := Lib.hid (La1.out.trans (hb.mono La1.out.size))
  have Lw0 := Lib.hid (Lw0.out.trans (hb.mono Lw0.out.size))
  have Ly1 := Lib.hid (Ly1.out.trans (hb.mono Ly1.out.size))
  have Ox0 := Lib.hid (own_below Ox0.out hb)
  have Ox1 := Lib.hid (own_below Ox1.out hb)
  have Og0 := Lib.hid (RowsD.below Og0.out hb)
  have Zg0 := Nat.le_trans Zg0 hb.size
  have LW := Lib.hid (LW.out.trans (hb.mono LW.out.size))
  clear hb
  go_wp2_with fail
  refine (markNodeS_any _ _ _ _ _ 1 (x0) _ Ox0.out hn0 (by omega) (by omega)).mono ?_
  rintro e w12 ⟨rfl, ho, hg⟩
  have La0 := Lib.hid (La0.out.grown hg La0.out.size (fun k hk => Nat.le_trans Ma0_x0 (Ox0.out.lt k hk).1))
  have La1 := Lib.hid (La1.out.grown hg La1.out.size (fun k hk => Nat.le_trans Ma1_x0 (Ox0.out.lt k hk).1))
  have Lw0 := Lib.hid (Lw0.out.grown hg Lw0.out.size (fun k hk => Nat.le_trans Mw0_x0 (Ox0.out.lt k hk).1))
  have LW := Lib.hid (LW.out.grown hg LW.out.size (fun k hk => Nat.le_trans MW_x0 (Ox0.out.lt k hk).1))
  have Zg0 := Nat.le_trans Zg0 hg.size
  have Ox1 := Lib.hid (own_grown Ox1.out hg Mx0_x1)
  have Og0 := Lib.hid (RowsD.old Og0.out hg Mx0_g0)
  have Ox0 := Lib.hid ho
  clear ho hg
  go_wp2_with fail
  refine (markNodeS_any _ _ _ _ _ ((1 + 2 * (n0 : Int))) (x1) _ Ox1.out hn1 (by omega) (by omega)).mono ?_
  rintro e w13 ⟨rfl, ho, hg⟩
  have La0 := Lib.hid (La0.out.grown hg La0.out.size (fun k hk => Nat.le_trans Ma0_x1 (Ox1.out.lt k hk).1))
  have La1 := Lib.hid (La1.out.grown hg La1.out.size (fun k hk => Nat.le_trans Ma1_x1 (Ox1.out.lt k hk).1))
  have Lw0 := Lib.hid (Lw0.out.grown hg Lw0.out.size (fun k hk => Nat.le_trans Mw0_x1 (Ox1.out.lt k hk).1))
  have LW := Lib.hid (LW.out.grown hg LW.out.size (fun k hk => Nat.le_trans MW_x1 (Ox1.out.lt k hk).1))
  have Zg0 := Nat.le_trans Zg0 hg.size
  have Og0 := Lib.hid (RowsD.old Og0.out hg Mx1_g0)
  have Ox1 := Lib.hid ho
  clear ho hg
  go_wp2_with fail
  refine (eqPairSS_same _ _ _ _ _ _ _ _ _ R _ Og0.out.1 (RowsP.below Iw0.out Lw0.out) rfl (by omega) HL).mono ?_
  rintro e w14 ⟨rfl, hb⟩
  have La0 := Lib.hid (La0.out.trans (hb.mono La0.out.size))
  have La1 := Lib.hid (La1.out.trans (hb.mono La1.out.size))
  have Lw0 := Lib.hid (Lw0.out.trans (hb.mono Lw0.out.size))
  have Ox1 := Lib.hid (own_below Ox1.out hb)
  have Og0 := Lib.hid (RowsD.below Og0.out hb)
  have Zg0 := Nat.le_trans Zg0 hb.size
  have LW := Lib.hid (LW.out.trans (hb.mono LW.out.size))
  clear hb
  go_wp2_with fail
  refine (markPairSS_any _ _ _ _ _ R 1 _ Og0.out rfl (by omega) (by omega) (by omega) HT Zg0).mono ?_
  rintro e w15 ⟨rfl, ho, hb⟩
  have La0 := Lib.hid (La0.out.trans (hb.mono Ma0_g0))
  have La1 := Lib.hid (La1.out.trans (hb.mono Ma1_g0))
  have Lw0 := Lib.hid (Lw0.out.trans (hb.mono Mw0_g0))
  have LW := Lib.hid (LW.out.trans (hb.mono MW_g0))
  have Zg0 := Nat.le_trans Zg0 hb.size
  have Og0 := Lib.hid ho
  clear ho hb
  go_wp2_with fail
  refine (heldPairSS_any _ _ _ _ _ R 1 _ Og0.out.1 rfl (by omega) (by omega) (by omega) HT).mono ?_
  rintro e w' ⟨rfl, hw'⟩
  subst hw'
  go_wp2_with fail
  refine (toNodeS_any _ _ _ x0 _ (NdIn.to_below Ia0.out La0.out) hn0).mono ?_
  rintro e w16 ⟨rfl, ho, hb⟩
  have La0 := Lib.hid (La0.out.trans (hb.mono La0.out.size))
  have La1 := Lib.hid (La1.out.trans (hb.mono La1.out.size))
  have Lw0 := Lib.hid (Lw0.out.trans (hb.mono Lw0.out.size))
  have Og0 := Lib.hid (RowsD.below Og0.out hb)
  have Zg0 := Nat.le_trans Zg0 hb.size
  have LW := Lib.hid (LW.out.trans (hb.mono LW.out.size))
  clear hb
  have Iz0 := Lib.hid (NdIn.of_own ho)
  have Lz0 := Lib.hid (Below.refl (World.heap w16).size w16)
  clear ho
  go_wp2_with fail
  refine (toNodeS_any _ _ _ x1 _ (NdIn.to_below Ia1.out La1.out) hn1).mono ?_
  rintro e w17 ⟨rfl, ho, hb⟩
  have La0 := Lib.hid (La0.out.trans (hb.mono La0.out.size))
  have La1 := Lib.hid (La1.out.trans (hb.mono La1.out.size))
  have Lw0 := Lib.hid (Lw0.out.trans (hb.mono Lw0.out.size))
  have Lz0 := Lib.hid (Lz0.out.trans (hb.mono Lz0.out.size))
  have Og0 := Lib.hid (RowsD.below Og0.out hb)
  have Zg0 := Nat.le_trans Zg0 hb.size
  have LW := Lib.hid (LW.out.trans (hb.mono LW.out.size))
  clear hb
  have Iz1 := Lib.hid (NdIn.of_own ho)
  have Lz1 := Lib.hid (Below.refl (World.heap w17).size w17)
  clear ho
  go_wp2_with fail
  refine (implMapsOf_rows R HRd.out _ (NdIn.to_below Iz0.out Lz0.out) (NdIn.to_below Iz1.out Lz1.out) hn0 hn1 (Nat.le_refl _) (Nat.le_refl _)).mono ?_
  rintro e w18 ⟨Ah0, ch0, rfl, ho, hb⟩
  have La0 := Lib.hid (La0.out.trans (hb.mono La0.out.size))
  have La1 := Lib.hid (La1.out.trans (hb.mono La1.out.size))
  have Lw0 := Lib.hid (Lw0.out.trans (hb.mono Lw0.out.size))
  have Lz0 := Lib.hid (Lz0.out.trans (hb.mono Lz0.out.size))
  have Lz1 := Lib.hid (Lz1.out.trans (hb.mono Lz1.out.size))
  have Og0 := Lib.hid (RowsD.below Og0.out hb)
  have Zg0 := Nat.le_trans Zg0 hb.size
  have LW := Lib.hid (LW.out.trans (hb.mono LW.out.size))
  clear hb
  obtain ⟨vsh0, ho⟩ := ho.out
  have Ih0 := Lib.hid ho
  have Lh0 := Lib.hid (Below.refl (World.heap w18).size w18)
  clear ho
  have Ih0 := Lib.hid Ih0.out.1
  go_wp2_with fail
  refine (eqPairSS_same _ _ _ _ _ _ _ _ _ R _ (RowsP.below Ih0.out Lh0.out) (RowsP.below Iw0.out Lw0.out) rfl (by omega) HL).mono ?_
  rintro e w19 ⟨rfl, hb⟩
  have La0 := Lib.hid (La0.out.trans (hb.mono La0.out.size))
  have La1 := Lib.hid (La1.out.trans (hb.mono La1.out.size))
  have Lw0 := Lib.hid (Lw0.out.trans (hb.mono Lw0.out.size))
  have Lz0 := Lib.hid (Lz0.out.trans (hb.mono Lz0.out.size))
  have Lz1 := Lib.hid (Lz1.out.trans (hb.mono Lz1.out.size))
  have Lh0 := Lib.hid (Lh0.out.trans (hb.mono Lh0.out.size))
  have Og0 := Lib.hid (RowsD.below Og0.out hb)
  have Zg0 := Nat.le_trans Zg0 hb.size
  have LW := Lib.hid (LW.out.trans (hb.mono LW.out.size))
  clear hb
  go_wp2_with fail
  refine (heldPairSS_any _ _ _ _ _ R 1 _ Og0.out.1 rfl (by omega) (by omega) (by omega) HT).mono ?_
  rintro e w' ⟨rfl, hw'⟩
  subst hw'
  go_wp2
  go_ret
  exact ⟨rfl, LW.out⟩

end Go.Proofs.Ytnfjdlocmdgefaa
