/- Texts of one claim laid into one file, in build order: ExApplyOp, NdOpen. -/
import Derived.Test.YtofpcedpmbecgaaHe1
import Derived.Test.YtofpcedpmbecgaaHe20
import Derived.Test.YtofpcedpmbecgaaHe22
import Derived.Test.YtofpcedpmbecgaaHe23
import Derived.Test.YtofpcedpmbecgaaHe24
import Derived.Test.YtofpcedpmbecgaaHe3
import Derived.ChangeArms
import Derived.Deep.SlicePairs
import Derived.WideShapes
/- Contracts (ExApplyOp). -/
namespace Go.Proofs.Ytofpcedpmbecgaa
open Go.RowKit
set_option linter.unusedVariables false

theorem Oc.apply_len (xs : Tr) (o : Opr) : (Oc.apply xs o).1.length ≤ 24 := by
  rcases h : Tr.ok xs with _ | _
  · rw [Oc.apply_no h]; exact Nat.zero_le _
  · by_cases c : Oc.code xs o (Tr.nodeAt xs o.p) = 0
    · rw [Oc.apply_done h c]
      exact (Tr.len24 (Oc.new_ok h c).1).2
    · rw [Oc.apply_fail h c]
      exact (Tr.len24 h).2
theorem Bx5.grown {w w' : World} {b : Nat} {v0 v1 v2 v3 v4 : Value} {row : Option Nat} (h : Bx5 w b v0 v1 v2 v3 v4) (hg : w.grownBy w' row) (hne : some b ≠ row) : Bx5 w' b v0 v1 v2 v3 v4 := by
  have e := hg.block b h.lt hne
  exact ⟨(World.cell?_of_block (a := ⟨b, 0, none⟩) e).trans h.1, (World.cell?_of_block (a := ⟨b, 1, none⟩) e).trans h.2.1, (World.cell?_of_block (a := ⟨b, 2, none⟩) e).trans h.2.2.1, (World.cell?_of_block (a := ⟨b, 3, none⟩) e).trans h.2.2.2.1, (World.cell?_of_block (a := ⟨b, 4, none⟩) e).trans h.2.2.2.2⟩
set_option maxHeartbeats 3200000 in
set_option maxRecDepth 100000 in
theorem exactApplyOp_walk (A0 : Option Addr) (n0 c0 : Nat) (x0 : Tr) (k a f z : Int) (P : Option Addr) (m q : Nat) (p : List Int) (le0 : n0 ≤ maxLen) (_wf0 : Tr.wf x0) (lem : m ≤ maxLen) (w : World) (h0 : NdIn w w.heap.size A0 n0 x0) (h1 : IntIn w w.heap.size P m p) :
    Calls Try.prog 9 #[.slice A0 n0 c0, .agg #[.int .i64 k, .slice P m q, .int .i64 a, .int .i64 f, .int .i64 z]] w fun e w' => e = .returned (.bool true) ∧ Below w.heap.size w w' := by
  have Ia0 := Lib.hid h0
  have Ia1 := Lib.hid h1
  clear h0 h1
  unfold maxLen at le0 lem
  obtain ⟨wz, hwz⟩ : ∃ wz, wz = w.alloc (.cells #[.int .i64 k, .slice P m q, .int .i64 a, .int .i64 f, .int .i64 z] 56) := ⟨_, rfl⟩
  obtain ⟨s, hs⟩ : ∃ s, s = w.heap.size := ⟨_, rfl⟩
  have hbz : Below w.heap.size w wz := by rw [hwz]; exact (Below.refl _ _).alloc (Nat.le_refl _) _
  have Ibx := Lib.hid (show Bx5 wz s (.int .i64 k) (.slice P m q) (.int .i64 a) (.int .i64 f) (.int .i64 z) by rw [hwz, hs]; exact Bx5.made _ _ _ _ _ _ _)
  have HW := Lib.hid hwz
  have HS := Lib.hid hs
  have HBZ := Lib.hid hbz
  clear hwz hs hbz
  by_cases hs0 : n0 ≤ 1048576
  rotate_left
  · go_enter Try.func9, Try.ntmps9
    go_wp2_with fail
    refine (szNodeS_any _ _ _ _ _ le0 (by omega) (by omega)).mono ?_
    rintro e w' ⟨rfl, rfl⟩
    rw [if_neg (by omega), ← HW.out]
    go_wp2
    go_ret
    exact ⟨rfl, HBZ.out⟩
  obtain ⟨x0', x1', x2', x3', x4'⟩ := Ibx.out
  by_cases hs1 : n0 + m ≤ 1048576
  rotate_left
  · go_enter Try.func9, Try.ntmps9
    go_wp2_with fail
    refine (szNodeS_any _ _ _ _ _ le0 (by omega) (by omega)).mono ?_
    rintro e w' ⟨rfl, rfl⟩
    rw [if_pos (by omega), ← HW.out, ← HS.out]
    go_wp2_with fail
    refine (szOp_any _ _ _ _ _ _ _ _ _ lem (by omega) (by omega)).mono ?_
    rintro e w' ⟨rfl, hb⟩
    rw [if_neg (by omega)]
    have HB2 := Lib.hid (HBZ.out.trans (hb.mono HBZ.out.size))
    clear hb
    go_wp2
    go_ret
    exact ⟨rfl, HB2.out⟩
  have hn0 : n0 ≤ 1048576 := by omega
  have hm : m ≤ 1048576 := by omega
  obtain ⟨R, hR⟩ : ∃ R, R = Oc.apply x0 ⟨k, p, a, f, z⟩ := ⟨_, rfl⟩
  have HN : R.1.length ≤ 1048576 := by rw [hR]; exact Nat.le_trans (Oc.apply_len _ _) (by decide)
  have CS := Lib.hid (fun (wq : World) (A B : Option Addr) (cA cB : Nat) (hN : NdIn wq wq.heap.size A n0 x0) (hI : IntIn wq wq.heap.size B m p) => show Calls Try.prog 23 #[.slice A n0 cA, .agg #[.int .i64 k, .slice B m cB, .int .i64 a, .int .i64 f, .int .i64 z]] wq (OwnNdC 40 R wq) from by rw [hR]; exact specApplyOp_any A n0 cA x0 k a f z p B m cB wq hN hI hn0 hm)
  have CI := Lib.hid (fun (wq : World) (A B : Option Addr) (cA cB : Nat) (hN : NdIn wq wq.heap.size A n0 x0) (hI : IntIn wq wq.heap.size B m p) => show n0 ≤ cA → Calls Try.prog 22 #[.slice A n0 cA, .agg #[.int .i64 k, .slice B m cB, .int .i64 a, .int .i64 f, .int .i64 z]] wq (OwnNdC 40 R wq) from by rw [hR]; exact fun hc => implApplyOp_any A n0 cA x0 k a f z p B m cB wq hN hI hn0 hm hc)
  clear hR
  go_enter Try.func9, Try.ntmps9
  go_wp2_with fail
  refine (szNodeS_any _ _ _ _ _ le0 (by omega) (by omega)).mono ?_
  rintro e w' ⟨rfl, rfl⟩
  rw [if_pos (by omega), ← HW.out, ← HS.out]
  go_wp2_with fail
  refine (szOp_any _ _ _ _ _ _ _ _ _ lem (by omega) (by omega)).mono ?_
  rintro e wy ⟨rfl, hb⟩
  rw [if_pos (by omega)]
  have La0 := Lib.hid (HBZ.out.trans (hb.mono HBZ.out.size))
  have La1 := Lib.hid La0.out
  have LW := Lib.hid La0.out
  have Lbx := Lib.hid hb
  clear hb x0' x1' x2' x3' x4'
  have Za0 := Lib.hid (NdIn.to_below Ia0.out La0.out)
  have Za1 := Lib.hid (IntIn.to_below Ia1.out La1.out)
  obtain ⟨x0, x1, x2, x3, x4⟩ := (Ibx.out.below Lbx.out Ibx.out.lt)
  have S0 := Lib.hid (show wy.drew.cell? ⟨s, 0, none⟩ = some (.int .i64 k) ∧ wy.drew.cell? ⟨s, 1, none⟩ = some (.slice P m q) ∧ wy.drew.cell? ⟨s, 2, none⟩ = some (.int .i64 a) ∧ wy.drew.cell? ⟨s, 3, none⟩ = some (.int .i64 f) ∧ wy.drew.cell? ⟨s, 4, none⟩ = some (.int .i64 z) ∧ BelA wy wy.drew from ⟨x0, x1, x2, x3, x4, (Drawn.refl _).drew.toBelow⟩)
  clear x0 x1 x2 x3 x4
  have CA := Lib.hid (fun (wq : World) (hb : Below wy.heap.size wy wq) => toNodeS_any A0 n0 c0 x0 wq (Za0.out.to_below hb) hn0)
  have CB := Lib.hid (fun (wq : World) (hb : Below wy.heap.size wy wq) => toOp_any k a f z p P m q wq (Za1.out.to_below hb) hm)
  go_wp2_with fail
  go_region_held3 (fun wq => wq.cell? ⟨s, 0, none⟩ = some (.int .i64 k) ∧ wq.cell? ⟨s, 1, none⟩ = some (.slice P m q) ∧ wq.cell? ⟨s, 2, none⟩ = some (.int .i64 a) ∧ wq.cell? ⟨s, 3, none⟩ = some (.int .i64 f) ∧ wq.cell? ⟨s, 4, none⟩ = some (.int .i64 z) ∧ BelA wy wq) (first | (with_reducible exact SC1) | (with_reducible exact SB1) | (with_reducible exact SA1) | (with_reducible exact S0.out)) (first | (go_at_call 33; refine (CA.out _ (c5_below (by assumption))).mono ?_; rintro e w1 ⟨rfl, hoA, hbA⟩; have SA1 := c5_keep (by assumption) hbA; have HOA := Lib.hid hoA; clear hoA hbA) | (go_loud (go_at_call 45; refine (CB.out _ (c5_below SA1)).mono ?_; rintro e w2 ⟨gB, rfl, hoB, hbB, hgB⟩; have SB1 := c5_keep SA1 hbB; have HNA := Lib.hid (NdIn.of_own (own_below HOA.out hbB)); have HIB := Lib.hid (IntIn.of_own hoB); clear hoB hbB hgB)) | (go_loud (go_at_call 23; refine (CS.out w2 _ _ _ _ HNA.out HIB.out).mono ?_; rintro e w3 ⟨Aw0, cw0, rfl, ho, hb⟩; have SC1 := c5_keep SB1 hb)))
  have hbt := c5_below SC1
  clear hb
  have La0 := Lib.hid (La0.out.trans (hbt.mono La0.out.size))
  have La1 := Lib.hid (La1.out.trans (hbt.mono La1.out.size))
  have Lbx := Lib.hid (Lbx.out.trans (hbt.mono Lbx.out.size))
  have LW := Lib.hid (LW.out.trans (hbt.mono LW.out.size))
  clear hbt
  clear SA1 SB1 SC1 CA CB S0 Za0 Za1 HOA HNA HIB
  have Iw0 := Lib.hid (NdIn.of_own ho)
  have Lw0 := Lib.hid (Below.refl (World.heap w3).size w3)
  clear ho
  have Ma0_x0 := La0.out.size
  have Ma1_x0 := La1.out.size
  have Mbx_x0 := Lbx.out.size
  have Mw0_x0 := Lw0.out.size
  have MW_x0 := LW.out.size
  go_wp2_with fail
  refine (toNodeS_any _ _ _ x0 _ (NdIn.to_below Ia0.out La0.out) hn0).mono ?_
  rintro e w4 ⟨rfl, ho, hb⟩
  have La0 := Lib.hid (La0.out.trans (hb.mono La0.out.size))
  have La1 := Lib.hid (La1.out.trans (hb.mono La1.out.size))
  have Lbx := Lib.hid (Lbx.out.trans (hb.mono Lbx.out.size))
  have Lw0 := Lib.hid (Lw0.out.trans (hb.mono Lw0.out.size))
  have LW := Lib.hid (LW.out.trans (hb.mono LW.out.size))
  clear hb
  have Ox0 := Lib.hid ho
  clear ho
  obtain ⟨x0, x1, x2, x3, x4⟩ := (Ibx.out.below Lbx.out Ibx.out.lt)
  have Ma0_x1 := La0.out.size
  have Ma1_x1 := La1.out.size
  have Mbx_x1 := Lbx.out.size
  have Mw0_x1 := Lw0.out.size
  have MW_x1 := LW.out.size
  have Mx0_x1 := fun k hk => (Ox0.out.lt k hk).2
  have CB := Lib.hid (toOp_any k a f z p P m q w4 (IntIn.to_below Ia1.out La1.out) hm)
  go_wp2_with fail
  refine CB.out.mono ?_
  rintro e w5 ⟨g1, rfl, ho, hb, -⟩
  have La0 := Lib.hid (La0.out.trans (hb.mono La0.out.size))
  have La1 := Lib.hid (La1.out.trans (hb.mono La1.out.size))
  have Lbx := Lib.hid (Lbx.out.trans (hb.mono Lbx.out.size))
  have Lw0 := Lib.hid (Lw0.out.trans (hb.mono Lw0.out.size))
  have Ox0 := Lib.hid (own_below Ox0.out hb)
  have LW := Lib.hid (LW.out.trans (hb.mono LW.out.size))
  clear hb
  have Ox1 := Lib.hid ho
  clear ho CB
  clear x0 x1 x2 x3 x4
  obtain ⟨w6, hw6⟩ : ∃ x, x = w5.alloc (.cells #[.int .i64 k, .slice (some ⟨g1, 0, none⟩) m m, .int .i64 a, .int .i64 f, .int .i64 z] 33) := ⟨_, rfl⟩
  obtain ⟨t, ht⟩ : ∃ t, t = w5.heap.size := ⟨_, rfl⟩
  have hb : Below w5.heap.size w5 w6 := by rw [hw6]; exact (Below.refl _ _).alloc (Nat.le_refl _) _
  have hbx : Bx5 w6 t (.int .i64 k) (.slice (some ⟨g1, 0, none⟩) m m) (.int .i64 a) (.int .i64 f) (.int .i64 z) := by rw [hw6, ht]; exact Bx5.made _ _ _ _ _ _ _
  have NTx0 := Lib.hid (show ∀ k, (Value.slice (some ⟨w3.heap.size, 0, none⟩) n0 n0).ownBlock = some k → k < t from fun k hk => by rw [ht]; exact (Ox0.out.lt k hk).2)
  have NTx1 := Lib.hid (show ∀ k, (Value.slice (some ⟨g1, 0, none⟩) m m).ownBlock = some k → k < t from fun k hk => by rw [ht]; exact (Ox1.out.lt k hk).2)
  have HWw6 := Lib.hid hw6
  have HT := Lib.hid ht
  clear hw6 ht
  have La0 := Lib.hid (La0.out.trans (hb.mono La0.out.size))
  have La1 := Lib.hid (La1.out.trans (hb.mono La1.out.size))
  have Lbx := Lib.hid (Lbx.out.trans (hb.mono Lbx.out.size))
  have Lw0 := Lib.hid (Lw0.out.trans (hb.mono Lw0.out.size))
  have Ox0 := Lib.hid (own_below Ox0.out hb)
  have Ox1 := Lib.hid (own_below Ox1.out hb)
  have LW := Lib.hid (LW.out.trans (hb.mono LW.out.size))
  clear hb
  have Fby := Lib.hid hbx
  clear hbx
  have Ma0_g0 := La0.out.size
  have Ma1_g0 := La1.out.size
  have Mbx_g0 := Lbx.out.size
  have Mw0_g0 := Lw0.out.size
  have MW_g0 := LW.out.size
  have Mx0_g0 := fun k hk => (Ox0.out.lt k hk).2
  have Mx1_g0 := fun k hk => (Ox1.out.lt k hk).2
  have CI1 := Lib.hid (CI.out w6 _ _ n0 m (NdIn.of_own Ox0.out) (IntIn.of_own Ox1.out) (Nat.le_refl _))
  go_wp2_with fail
  rw [← HWw6.out]
  refine CI1.out.mono ?_
  rintro e w7 ⟨Ag0, cg0, rfl, ho, hb⟩
  have Fby := Lib.hid (Fby.out.keep hb)
  have La0 := Lib.hid (La0.out.trans (hb.mono La0.out.size))
  have La1 := Lib.hid (La1.out.trans (hb.mono La1.out.size))
  have Lbx := Lib.hid (Lbx.out.trans (hb.mono Lbx.out.size))
  have Lw0 := Lib.hid (Lw0.out.trans (hb.mono Lw0.out.size))
  have Ox0 := Lib.hid (own_below Ox0.out hb)
  have Ox1 := Lib.hid (own_below Ox1.out hb)
  have LW := Lib.hid (LW.out.trans (hb.mono LW.out.size))
  clear hb
  have Og0 := Lib.hid ho
  clear ho CI1
  try rw [← HT.out]
  go_wp2_with fail
  refine (eqNodeS_any _ _ _ _ _ _ R.1 R.1 _ (NdIn.of_own Og0.out) (NdIn.to_below Iw0.out Lw0.out) HN HN).mono ?_
  rintro e w8 ⟨rfl, hb⟩
  have Fby := Lib.hid (Fby.out.keep hb)
  have La0 := Lib.hid (La0.out.trans (hb.mono La0.out.size))
  have La1 := Lib.hid (La1.out.trans (hb.mono La1.out.size))
  have Lbx := Lib.hid (Lbx.out.trans (hb.mono Lbx.out.size))
  have Lw0 := Lib.hid (Lw0.out.trans (hb.mono Lw0.out.size))
  have Ox0 := Lib.hid (own_below Ox0.out hb)
  have Ox1 := Lib.hid (own_below Ox1.out hb)
  have Og0 := Lib.hid (own_below Og0.out hb)
  have LW := Lib.hid (LW.out.trans (hb.mono LW.out.size))
  clear hb
  go_wp2_with fail
  refine (toNodeS_any _ _ _ x0 _ (NdIn.to_below Ia0.out La0.out) hn0).mono ?_
  rintro e w9 ⟨rfl, ho, hb⟩
  have Fby := Lib.hid (Fby.out.keep hb)
  have La0 := Lib.hid (La0.out.trans (hb.mono La0.out.size))
  have La1 := Lib.hid (La1.out.trans (hb.mono La1.out.size))
  have Lbx := Lib.hid (Lbx.out.trans (hb.mono Lbx.out.size))
  have Lw0 := Lib.hid (Lw0.out.trans (hb.mono Lw0.out.size))
  have Ox0 := Lib.hid (own_below Ox0.out hb)
  have Ox1 := Lib.hid (own_below Ox1.out hb)
  have Og0 := Lib.hid (own_below Og0.out hb)
  have LW := Lib.hid (LW.out.trans (hb.mono LW.out.size))
  clear hb
  have Iy0 := Lib.hid (NdIn.of_own ho)
  have Ly0 := Lib.hid (Below.refl (World.heap w9).size w9)
  clear ho
  go_wp2_with fail
  refine (eqNodeS_any _ _ _ _ _ _ x0 x0 _ (NdIn.of_own Ox0.out) (NdIn.to_below Iy0.out Ly0.out) hn0 hn0).mono ?_
  rintro e w10 ⟨rfl, hb⟩
  have Fby := Lib.hid (Fby.out.keep hb)
  have La0 := Lib.hid (La0.out.trans (hb.mono La0.out.size))
  have La1 := Lib.hid (La1.out.trans (hb.mono La1.out.size))
  have Lbx := Lib.hid (Lbx.out.trans (hb.mono Lbx.out.size))
  have Lw0 := Lib.hid (Lw0.out.trans (hb.mono Lw0.out.size))
  have Ly0 := Lib.hid (Ly0.out.trans (hb.mono Ly0.out.size))
  have Ox0 := Lib.hid (own_below Ox0.out hb)
  have Ox1 := Lib.hid (own_below Ox1.out hb)
  have Og0 := Lib.hid (own_below Og0.out hb)
  have LW := Lib.hid (LW.out.trans (hb.mono LW.out.size))
  clear hb
  obtain ⟨x0, x1, x2, x3, x4⟩ := (Ibx.out.below Lbx.out Ibx.out.lt)
  obtain ⟨y0, y1, y2, y3, y4⟩ := Fby.out
  have S0 := Lib.hid (show w10.drew.cell? ⟨s, 0, none⟩ = some (.int .i64 k) ∧ w10.drew.cell? ⟨s, 1, none⟩ = some (.slice P m q) ∧ w10.drew.cell? ⟨s, 2, none⟩ = some (.int .i64 a) ∧ w10.drew.cell? ⟨s, 3, none⟩ = some (.int .i64 f) ∧ w10.drew.cell? ⟨s, 4, none⟩ = some (.int .i64 z) ∧ w10.drew.cell? ⟨t, 0, none⟩ = some (.int .i64 k) ∧ w10.drew.cell? ⟨t, 1, none⟩ = some (.slice (some ⟨g1, 0, none⟩) m m) ∧ w10.drew.cell? ⟨t, 2, none⟩ = some (.int .i64 a) ∧ w10.drew.cell? ⟨t, 3, none⟩ = some (.int .i64 f) ∧ w10.drew.cell? ⟨t, 4, none⟩ = some (.int .i64 z) ∧ BelA w10 w10.drew from ⟨x0, x1, x2, x3, x4, y0, y1, y2, y3, y4, (Drawn.refl _).drew.toBelow⟩)
  clear x0 x1 x2 x3 x4
  clear y0 y1 y2 y3 y4
  have Za1 := Lib.hid (IntIn.to_below Ia1.out La1.out)
  have Zx1 := Lib.hid (IntIn.of_own Ox1.out)
  have CB := Lib.hid (fun (wq : World) (hb : Below w10.heap.size w10 wq) => toOp_any k a f z p P m q wq (Za1.out.to_below hb) hm)
  have CE := Lib.hid (fun (wq : World) (hb : Below w10.heap.size w10 wq) (gg : Nat) (hi : IntIn wq wq.heap.size (some ⟨gg, 0, none⟩) m p) => eqOp_any k a f z p (some ⟨g1, 0, none⟩) (some ⟨gg, 0, none⟩) m m m m wq (Zx1.out.to_below hb) hi hm hm)
  go_wp2_with fail
  go_region_held3 (fun wq => wq.cell? ⟨s, 0, none⟩ = some (.int .i64 k) ∧ wq.cell? ⟨s, 1, none⟩ = some (.slice P m q) ∧ wq.cell? ⟨s, 2, none⟩ = some (.int .i64 a) ∧ wq.cell? ⟨s, 3, none⟩ = some (.int .i64 f) ∧ wq.cell? ⟨s, 4, none⟩ = some (.int .i64 z) ∧ wq.cell? ⟨t, 0, none⟩ = some (.int .i64 k) ∧ wq.cell? ⟨t, 1, none⟩ = some (.slice (some ⟨g1, 0, none⟩) m m) ∧ wq.cell? ⟨t, 2, none⟩ = some (.int .i64 a) ∧ wq.cell? ⟨t, 3, none⟩ = some (.int .i64 f) ∧ wq.cell? ⟨t, 4, none⟩ = some (.int .i64 z) ∧ BelA w10 wq) (first | (with_reducible exact SD) | (with_reducible exact SB) | (with_reducible exact S0.out)) (first | (go_at_call 45; refine (CB.out _ (c10_below (by assumption))).mono ?_; rintro e w11 ⟨gB, rfl, hoB, hbB, hgB⟩; have SB := c10_keep (by assumption) hbB; have HIB := Lib.hid (IntIn.of_own hoB); clear hoB hbB hgB) | (go_loud (go_at_call 46; refine (CE.out _ (c10_below SB) _ HIB.out).mono ?_; rintro e w12 ⟨rfl, hbE⟩; have SD := c10_keep SB hbE)))
  have hbt := c10_below SD
  have Fby := Lib.hid (Fby.out.keep hbt)
  have La0 := Lib.hid (La0.out.trans (hbt.mono La0.out.size))
  have La1 := Lib.hid (La1.out.trans (hbt.mono La1.out.size))
  have Lbx := Lib.hid (Lbx.out.trans (hbt.mono Lbx.out.size))
  have Lw0 := Lib.hid (Lw0.out.trans (hbt.mono Lw0.out.size))
  have Ox0 := Lib.hid (own_below Ox0.out hbt)
  have Ox1 := Lib.hid (own_below Ox1.out hbt)
  have Og0 := Lib.hid (own_below Og0.out hbt)
  have LW := Lib.hid (LW.out.trans (hbt.mono LW.out.size))
  clear hbt
  clear SB SD CB CE S0 Za1 Zx1 HIB hbE
  go_wp2_with fail
  refine (markNodeS_any _ _ _ _ _ 1 (x0) _ Ox0.out hn0 (by omega) (by omega)).mono ?_
  rintro e w13 ⟨rfl, ho, hg⟩
  have La0 := Lib.hid (La0.out.grown hg La0.out.size (fun k hk => Nat.le_trans Ma0_x0 (Ox0.out.lt k hk).1))
  have La1 := Lib.hid (La1.out.grown hg La1.out.size (fun k hk => Nat.le_trans Ma1_x0 (Ox0.out.lt k hk).1))
  have Lbx := Lib.hid (Lbx.out.grown hg Lbx.out.size (fun k hk => Nat.le_trans Mbx_x0 (Ox0.out.lt k hk).1))
  have Lw0 := Lib.hid (Lw0.out.grown hg Lw0.out.size (fun k hk => Nat.le_trans Mw0_x0 (Ox0.out.lt k hk).1))
  have LW := Lib.hid (LW.out.grown hg LW.out.size (fun k hk => Nat.le_trans MW_x0 (Ox0.out.lt k hk).1))
  have Ox1 := Lib.hid (own_grown Ox1.out hg Mx0_x1)
  have Og0 := Lib.hid (own_grown Og0.out hg Mx0_g0)
  have Ox0 := Lib.hid ho
  have Fby := Lib.hid (Fby.out.grown hg (fun e => Nat.lt_irrefl _ (NTx0.out _ e.symm)))
  clear ho hg
  obtain ⟨y0, y1, y2, y3, y4⟩ := Fby.out
  have CM := Lib.hid (markOp_any k a f z _ m m _ _ (1 + 2 * (n0 : Int)) p _ Ox1.out hm (by omega) (by omega))
  go_wp2_with fail
  refine CM.out.mono ?_
  rintro e w14 ⟨rfl, ho, hg⟩
  have La0 := Lib.hid (La0.out.grown hg La0.out.size (fun k hk => Nat.le_trans Ma0_x1 (Ox1.out.lt k hk).1))
  have La1 := Lib.hid (La1.out.grown hg La1.out.size (fun k hk => Nat.le_trans Ma1_x1 (Ox1.out.lt k hk).1))
  have Lbx := Lib.hid (Lbx.out.grown hg Lbx.out.size (fun k hk => Nat.le_trans Mbx_x1 (Ox1.out.lt k hk).1))
  have Lw0 := Lib.hid (Lw0.out.grown hg Lw0.out.size (fun k hk => Nat.le_trans Mw0_x1 (Ox1.out.lt k hk).1))
  have LW := Lib.hid (LW.out.grown hg LW.out.size (fun k hk => Nat.le_trans MW_x1 (Ox1.out.lt k hk).1))
  have Og0 := Lib.hid (own_grown Og0.out hg Mx1_g0)
  clear ho hg CM y0 y1 y2 y3 y4
  go_wp2_with fail
  refine (eqNodeS_any _ _ _ _ _ _ R.1 R.1 _ (NdIn.of_own Og0.out) (NdIn.to_below Iw0.out Lw0.out) HN HN).mono ?_
  rintro e w15 ⟨rfl, hb⟩
  have La0 := Lib.hid (La0.out.trans (hb.mono La0.out.size))
  have La1 := Lib.hid (La1.out.trans (hb.mono La1.out.size))
  have Lbx := Lib.hid (Lbx.out.trans (hb.mono Lbx.out.size))
  have Lw0 := Lib.hid (Lw0.out.trans (hb.mono Lw0.out.size))
  have Og0 := Lib.hid (own_below Og0.out hb)
  have LW := Lib.hid (LW.out.trans (hb.mono LW.out.size))
  clear hb
  go_wp2_with fail
  refine (markNodeS_any _ _ _ _ _ 1 (R.1) _ Og0.out HN (by omega) (by omega)).mono ?_
  rintro e w16 ⟨rfl, ho, hg⟩
  have La0 := Lib.hid (La0.out.grown hg La0.out.size (fun k hk => Nat.le_trans Ma0_g0 (Og0.out.lt k hk).1))
  have La1 := Lib.hid (La1.out.grown hg La1.out.size (fun k hk => Nat.le_trans Ma1_g0 (Og0.out.lt k hk).1))
  have Lbx := Lib.hid (Lbx.out.grown hg Lbx.out.size (fun k hk => Nat.le_trans Mbx_g0 (Og0.out.lt k hk).1))
  have Lw0 := Lib.hid (Lw0.out.grown hg Lw0.out.size (fun k hk => Nat.le_trans Mw0_g0 (Og0.out.lt k hk).1))
  have LW := Lib.hid (LW.out.grown hg LW.out.size (fun k hk => Nat.le_trans MW_g0 (Og0.out.lt k hk).1))
  have Og0 := Lib.hid ho
  clear ho hg
  go_wp2_with fail
  refine (heldNodeS_any _ _ _ _ _ 1 _ Og0.out HN (by omega) (by omega)).mono ?_
  rintro e w' ⟨rfl, rfl⟩
  have Za0 := Lib.hid (NdIn.to_below Ia0.out La0.out)
  have Za1 := Lib.hid (IntIn.to_below Ia1.out La1.out)
  obtain ⟨x0, x1, x2, x3, x4⟩ := (Ibx.out.below Lbx.out Ibx.out.lt)
  have S0 := Lib.hid (show w16.drew.cell? ⟨s, 0, none⟩ = some (.int .i64 k) ∧ w16.drew.cell? ⟨s, 1, none⟩ = some (.slice P m q) ∧ w16.drew.cell? ⟨s, 2, none⟩ = some (.int .i64 a) ∧ w16.drew.cell? ⟨s, 3, none⟩ = some (.int .i64 f) ∧ w16.drew.cell? ⟨s, 4, none⟩ = some (.int .i64 z) ∧ BelA w16 w16.drew from ⟨x0, x1, x2, x3, x4, (Drawn.refl _).drew.toBelow⟩)
  clear x0 x1 x2 x3 x4
  have CA := Lib.hid (fun (wq : World) (hb : Below w16.heap.size w16 wq) => toNodeS_any A0 n0 c0 x0 wq (Za0.out.to_below hb) hn0)
  have CB := Lib.hid (fun (wq : World) (hb : Below w16.heap.size w16 wq) => toOp_any k a f z p P m q wq (Za1.out.to_below hb) hm)
  go_wp2_with fail
  go_region_held3 (fun wq => wq.cell? ⟨s, 0, none⟩ = some (.int .i64 k) ∧ wq.cell? ⟨s, 1, none⟩ = some (.slice P m q) ∧ wq.cell? ⟨s, 2, none⟩ = some (.int .i64 a) ∧ wq.cell? ⟨s, 3, none⟩ = some (.int .i64 f) ∧ wq.cell? ⟨s, 4, none⟩ = some (.int .i64 z) ∧ BelA w16 wq) (first | (with_reducible exact SC2) | (with_reducible exact SB2) | (with_reducible exact SA2) | (with_reducible exact S0.out)) (first | (go_at_call 33; refine (CA.out _ (c5_below (by assumption))).mono ?_; rintro e w17 ⟨rfl, hoA, hbA⟩; have SA2 := c5_keep (by assumption) hbA; have HOA := Lib.hid hoA; clear hoA hbA) | (go_loud (go_at_call 45; refine (CB.out _ (c5_below SA2)).mono ?_; rintro e w18 ⟨gB, rfl, hoB, hbB, hgB⟩; have SB2 := c5_keep SA2 hbB; have HNA := Lib.hid (NdIn.of_own (own_below HOA.out hbB)); have HIB := Lib.hid (IntIn.of_own hoB); clear hoB hbB hgB)) | (go_loud (go_at_call 22; refine (CI.out w18 _ _ _ _ HNA.out HIB.out (Nat.le_refl _)).mono ?_; rintro e w19 ⟨Ah0, ch0, rfl, ho, hb⟩; have SC2 := c5_keep SB2 hb)))
  have hbt := c5_below SC2
  clear hb
  have La0 := Lib.hid (La0.out.trans (hbt.mono La0.out.size))
  have La1 := Lib.hid (La1.out.trans (hbt.mono La1.out.size))
  have Lbx := Lib.hid (Lbx.out.trans (hbt.mono Lbx.out.size))
  have Lw0 := Lib.hid (Lw0.out.trans (hbt.mono Lw0.out.size))
  have Og0 := Lib.hid (own_below Og0.out hbt)
  have LW := Lib.hid (LW.out.trans (hbt.mono LW.out.size))
  clear hbt
  clear SA2 SB2 SC2 CA CB S0 Za0 Za1 HOA HNA HIB
  have Ih0 := Lib.hid (NdIn.of_own ho)
  have Lh0 := Lib.hid (Below.refl (World.heap w19).size w19)
  clear ho
  go_wp2_with fail
  refine (eqNodeS_any _ _ _ _ _ _ R.1 R.1 _ (NdIn.to_below Ih0.out Lh0.out) (NdIn.to_below Iw0.out Lw0.out) HN HN).mono ?_
  rintro e w20 ⟨rfl, hb⟩
  have La0 := Lib.hid (La0.out.trans (hb.mono La0.out.size))
  have La1 := Lib.hid (La1.out.trans (hb.mono La1.out.size))
  have Lbx := Lib.hid (Lbx.out.trans (hb.mono Lbx.out.size))
  have Lw0 := Lib.hid (Lw0.out.trans (hb.mono Lw0.out.size))
  have Lh0 := Lib.hid (Lh0.out.trans (hb.mono Lh0.out.size))
  have Og0 := Lib.hid (own_below Og0.out hb)
  have LW := Lib.hid (LW.out.trans (hb.mono LW.out.size))
  clear hb
  go_wp2_with fail
  refine (heldNodeS_any _ _ _ _ _ 1 _ Og0.out HN (by omega) (by omega)).mono ?_
  rintro e w' ⟨rfl, rfl⟩
  go_wp2
  go_ret
  exact ⟨rfl, LW.out⟩

end Go.Proofs.Ytofpcedpmbecgaa

/- An argument []Node, opened: it reads as a list of nodes. -/
namespace Go.Proofs.Ytofpcedpmbecgaa
open Go.RowKit Go.ChangeShapes Go.WideShapes Go.Deep
set_option linter.unusedVariables false

theorem open_nodes {H : Type} {enc : TypeId × Value → H} {P : Program} {w : World} {base : Nat} {spare : Nat → Bool} {held : Bool} {t e : TypeId} {f0 f1 : Field} {fuel : Nat} {a : Option Addr} {len cap : Nat} {x : DataW H × List MemPlace}
    (ht : P.underlying t = some (.slice e)) (he : P.underlying e = some (.struct #[f0, f1]))
    (ce : P.cellsOf e = 2) (o0 : f0.offset = 0) (o1 : f1.offset = 1) (c0 : P.cellsOf f0.type = 1) (c1 : P.cellsOf f1.type = 1)
    (k0 : P.underlying f0.type = some (.int .i64)) (k1 : P.underlying f1.type = some (.int .i64))
    (h : DataW.trod enc P w base spare held fuel t [.slice a len cap] = some x) : ∃ xs : Tr, NdIn w w.heap.size a len xs ∧ Tr.wf xs ∧ len ≤ maxLen := by
  have hnil : Tr.wf [] := fun k => by simp [Tr.l, Tr.d]
  rcases open_slice_pairs ht he ce o0 o1 c0 c1 h with ⟨hcs, _⟩ | ⟨ad, l, c, m, n, V0, V1, D0, D1, P0, P1, hcs, _, hl, hm, hmm, _, hi⟩
  · simp at hcs
    obtain ⟨rfl, rfl, rfl⟩ := hcs
    exact ⟨[], ⟨rfl, fun h => absurd h (by omega), fun ad e => by cases e⟩, hnil, by simp [maxLen]⟩
  · simp at hcs
    obtain ⟨rfl, rfl, rfl⟩ := hcs
    have hlm : len ≤ m := by rw [hmm]; split <;> omega
    have each : ∀ i, i < len → ∃ q : Int × Int, w.cell? (ad.add (i * 2)) = some (.int .i64 q.1) ∧ w.cell? (ad.add (i * 2 + 1)) = some (.int .i64 q.2) ∧ (Lit.int .i64 q.1).wf = true ∧ (Lit.int .i64 q.2).wf = true := by
      intro i hil
      obtain ⟨h1, h2, h3, h4⟩ := hi i (by omega)
      obtain ⟨z0, e0, _, w0⟩ := DataW.trod_int k0 h3
      obtain ⟨z1, e1, _, w1⟩ := DataW.trod_int k1 h4
      simp at e0 e1
      exact ⟨(z0, z1), by rw [h1, e0], by rw [h2, e1], w0, w1⟩
    obtain ⟨q, hq⟩ := choose_lt each
    have hget (k : Nat) (hk : k < len) : ((List.range len).map q).getD k (0, 0) = q k := by simp [List.getD_eq_getElem?_getD, hk]
    refine ⟨(List.range len).map q, ⟨by simp, fun hn => ⟨ad, rfl, ?_⟩, fun ad' e k hk => ?_⟩, fun k => ?_, by omega⟩
    · have := World.block_lt_of_cell? w _ (hq 0 hn).1
      rwa [block_of_add] at this
    · obtain rfl : ad = ad' := by injection e
      simp only [Tr.l, Tr.d, hget k hk]
      exact ⟨(hq k hk).1, (hq k hk).2.1⟩
    · by_cases hk : k < len
      · simp only [Tr.l, Tr.d, hget k hk]
        exact ⟨Kit.wf_le (hq k hk).2.2.1, Kit.wf_le (hq k hk).2.2.2⟩
      · simp [Tr.l, Tr.d, List.getD_eq_getElem?_getD, hk]

end Go.Proofs.Ytofpcedpmbecgaa
