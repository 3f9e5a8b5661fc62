/- Contracts (HarC). -/
import Derived.Test.YtpdpkcadolcbmaaHarB
import Derived.Test.YtpdpkcadolcbmaaIntH
import Derived.Outline
namespace Go.Proofs.Ytpdpkcadolcbmaa
open Go.RowKit
set_option linter.unusedVariables false

set_option maxHeartbeats 1600000 in
set_option maxRecDepth 100000 in
theorem eqCost_any (A0 A1 A2 : Option Addr) (n0 n1 n2 c0 c1 c2 : Nat) (k : Co) (B0 B1 B2 : Option Addr) (m0 m1 m2 d0 d1 d2 : Nat) (l : Co) (w : World) (h : CoIn w w.heap.size A0 A1 A2 n0 n1 n2 k) (h' : CoIn w w.heap.size B0 B1 B2 m0 m1 m2 l)
    (h0 : n0 ≤ 1048576) (h1 : n1 ≤ 1048576) (h2 : n2 ≤ 1048576) (l0 : m0 ≤ 1048576) (l1 : m1 ≤ 1048576) (l2 : m2 ≤ 1048576) :
    Calls Try.prog 23 #[.agg #[.slice A0 n0 c0, .slice A1 n1 c1, .slice A2 n2 c2], .agg #[.slice B0 m0 d0, .slice B1 m1 d1, .slice B2 m2 d2]] w fun e w' => e = .returned (.bool (Co.same k l)) ∧ Below w.heap.size w w' := by
  have H := Lib.hid h
  have H' := Lib.hid h'
  clear h h'
  obtain ⟨o1, ho1⟩ : ∃ o, o = Obj.cells #[.slice A0 n0 c0, .slice A1 n1 c1, .slice A2 n2 c2] 26 := ⟨_, rfl⟩
  obtain ⟨o2, ho2⟩ : ∃ o, o = Obj.cells #[.slice B0 m0 d0, .slice B1 m1 d1, .slice B2 m2 d2] 26 := ⟨_, rfl⟩
  have hba := (Below.refl w.heap.size w).alloc (Nat.le_refl _) o1
  have HB := Lib.hid (hba.alloc hba.size o2)
  have hlt : w.heap.size < (w.alloc o1).heap.size := by simp
  have GL := Lib.hid (show w.heap.size < ((w.alloc o1).alloc o2).heap.size ∧ w.heap.size + 1 < ((w.alloc o1).alloc o2).heap.size by simp; omega)
  have GA := Lib.hid ((show Box3 (w.alloc o1) w.heap.size (.slice A0 n0 c0) (.slice A1 n1 c1) (.slice A2 n2 c2) by rw [ho1]; exact Box3.made _ _ _ _ _).alloc hlt o2)
  have GB := Lib.hid (show Box3 ((w.alloc o1).alloc o2) (w.alloc o1).heap.size (.slice B0 m0 d0) (.slice B1 m1 d1) (.slice B2 m2 d2) by rw [ho2]; exact Box3.made _ _ _ _ _)
  have hs1 : (w.alloc o1).heap.size = w.heap.size + 1 := by simp
  rw [hs1] at GB
  clear hba hlt hs1
  subst ho1
  subst ho2
  have HA := Lib.hid (H.out.to_below HB.out)
  have HA' := Lib.hid (H'.out.to_below HB.out)
  cases e0 : decide (k.d = l.d) with
  | false =>
    have Hf := Lib.hid (show Co.same k l = false by unfold Co.same; rw [e0]; rfl)
    have E0 := Lib.hid e0
    clear e0
    go_enter Try.func23, Try.ntmps23
    obtain ⟨g0, g1, g2⟩ := GA.out
    obtain ⟨g3, g4, g5⟩ := GB.out
    go_wp2_with fail
    clear g0 g1 g2 g3 g4 g5
    refine (eqIntS_any _ _ _ _ _ _ k.d l.d _ HA.out.1 HA'.out.1 h0 l0).mono ?_
    rintro e w1 ⟨rfl, hd⟩
    have HB := Lib.hid (HB.out.trans (hd.mono HB.out.size))
    have GA := Lib.hid (GA.out.below hd (GL.out.1))
    have GB := Lib.hid (GB.out.below hd (GL.out.2))
    have HA := Lib.hid (HA.out.to_below hd)
    have HA' := Lib.hid (HA'.out.to_below hd)
    have GL := Lib.hid (And.intro (Nat.lt_of_lt_of_le GL.out.1 hd.size) (Nat.lt_of_lt_of_le GL.out.2 hd.size))
    clear hd
    rw [E0.out]
    go_wp2
    go_ret
    exact ⟨Kit.ret_bool Hf.out.symm, HB.out⟩
  | true =>
    cases e1 : decide (k.i = l.i) with
    | false =>
      have Hf := Lib.hid (show Co.same k l = false by unfold Co.same; rw [e0, e1]; rfl)
      have E0 := Lib.hid e0
      have E1 := Lib.hid e1
      clear e0 e1
      go_enter Try.func23, Try.ntmps23
      obtain ⟨g0, g1, g2⟩ := GA.out
      obtain ⟨g3, g4, g5⟩ := GB.out
      go_wp2_with fail
      clear g0 g1 g2 g3 g4 g5
      refine (eqIntS_any _ _ _ _ _ _ k.d l.d _ HA.out.1 HA'.out.1 h0 l0).mono ?_
      rintro e w1 ⟨rfl, hd⟩
      have HB := Lib.hid (HB.out.trans (hd.mono HB.out.size))
      have GA := Lib.hid (GA.out.below hd (GL.out.1))
      have GB := Lib.hid (GB.out.below hd (GL.out.2))
      have HA := Lib.hid (HA.out.to_below hd)
      have HA' := Lib.hid (HA'.out.to_below hd)
      have GL := Lib.hid (And.intro (Nat.lt_of_lt_of_le GL.out.1 hd.size) (Nat.lt_of_lt_of_le GL.out.2 hd.size))
      clear hd
      rw [E0.out]
      obtain ⟨g0, g1, g2⟩ := GA.out
      obtain ⟨g3, g4, g5⟩ := GB.out
      go_wp2_with fail
      clear g0 g1 g2 g3 g4 g5
      refine (eqIntS_any _ _ _ _ _ _ k.i l.i _ HA.out.2.1 HA'.out.2.1 h1 l1).mono ?_
      rintro e w2 ⟨rfl, hd⟩
      have HB := Lib.hid (HB.out.trans (hd.mono HB.out.size))
      have GA := Lib.hid (GA.out.below hd (GL.out.1))
      have GB := Lib.hid (GB.out.below hd (GL.out.2))
      have HA := Lib.hid (HA.out.to_below hd)
      have HA' := Lib.hid (HA'.out.to_below hd)
      have GL := Lib.hid (And.intro (Nat.lt_of_lt_of_le GL.out.1 hd.size) (Nat.lt_of_lt_of_le GL.out.2 hd.size))
      clear hd
      rw [E1.out]
      go_wp2
      go_ret
      exact ⟨Kit.ret_bool Hf.out.symm, HB.out⟩
    | true =>
      cases e2 : decide (k.r = l.r) with
      | false =>
        have Hf := Lib.hid (show Co.same k l = false by unfold Co.same; rw [e0, e1, e2]; rfl)
        have E0 := Lib.hid e0
        have E1 := Lib.hid e1
        have E2 := Lib.hid e2
        clear e0 e1 e2
        go_enter Try.func23, Try.ntmps23
        obtain ⟨g0, g1, g2⟩ := GA.out
        obtain ⟨g3, g4, g5⟩ := GB.out
        go_wp2_with fail
        clear g0 g1 g2 g3 g4 g5
        refine (eqIntS_any _ _ _ _ _ _ k.d l.d _ HA.out.1 HA'.out.1 h0 l0).mono ?_
        rintro e w1 ⟨rfl, hd⟩
        have HB := Lib.hid (HB.out.trans (hd.mono HB.out.size))
        have GA := Lib.hid (GA.out.below hd (GL.out.1))
        have GB := Lib.hid (GB.out.below hd (GL.out.2))
        have HA := Lib.hid (HA.out.to_below hd)
        have HA' := Lib.hid (HA'.out.to_below hd)
        have GL := Lib.hid (And.intro (Nat.lt_of_lt_of_le GL.out.1 hd.size) (Nat.lt_of_lt_of_le GL.out.2 hd.size))
        clear hd
        rw [E0.out]
        obtain ⟨g0, g1, g2⟩ := GA.out
        obtain ⟨g3, g4, g5⟩ := GB.out
        go_wp2_with fail
        clear g0 g1 g2 g3 g4 g5
        refine (eqIntS_any _ _ _ _ _ _ k.i l.i _ HA.out.2.1 HA'.out.2.1 h1 l1).mono ?_
        rintro e w2 ⟨rfl, hd⟩
        have HB := Lib.hid (HB.out.trans (hd.mono HB.out.size))
        have GA := Lib.hid (GA.out.below hd (GL.out.1))
        have GB := Lib.hid (GB.out.below hd (GL.out.2))
        have HA := Lib.hid (HA.out.to_below hd)
        have HA' := Lib.hid (HA'.out.to_below hd)
        have GL := Lib.hid (And.intro (Nat.lt_of_lt_of_le GL.out.1 hd.size) (Nat.lt_of_lt_of_le GL.out.2 hd.size))
        clear hd
        rw [E1.out]
        obtain ⟨g0, g1, g2⟩ := GA.out
        obtain ⟨g3, g4, g5⟩ := GB.out
        go_wp2_with fail
        clear g0 g1 g2 g3 g4 g5
        refine (eqIntS_any _ _ _ _ _ _ k.r l.r _ HA.out.2.2 HA'.out.2.2 h2 l2).mono ?_
        rintro e w3 ⟨rfl, hd⟩
        have HB := Lib.hid (HB.out.trans (hd.mono HB.out.size))
        have GA := Lib.hid (GA.out.below hd (GL.out.1))
        have GB := Lib.hid (GB.out.below hd (GL.out.2))
        have HA := Lib.hid (HA.out.to_below hd)
        have HA' := Lib.hid (HA'.out.to_below hd)
        have GL := Lib.hid (And.intro (Nat.lt_of_lt_of_le GL.out.1 hd.size) (Nat.lt_of_lt_of_le GL.out.2 hd.size))
        clear hd
        rw [E2.out]
        go_wp2
        go_ret
        exact ⟨Kit.ret_bool Hf.out.symm, HB.out⟩
      | true =>
        have Hf := Lib.hid (show Co.same k l = true by unfold Co.same; rw [e0, e1, e2]; rfl)
        have E0 := Lib.hid e0
        have E1 := Lib.hid e1
        have E2 := Lib.hid e2
        clear e0 e1 e2
        go_enter Try.func23, Try.ntmps23
        obtain ⟨g0, g1, g2⟩ := GA.out
        obtain ⟨g3, g4, g5⟩ := GB.out
        go_wp2_with fail
        clear g0 g1 g2 g3 g4 g5
        refine (eqIntS_any _ _ _ _ _ _ k.d l.d _ HA.out.1 HA'.out.1 h0 l0).mono ?_
        rintro e w1 ⟨rfl, hd⟩
        have HB := Lib.hid (HB.out.trans (hd.mono HB.out.size))
        have GA := Lib.hid (GA.out.below hd (GL.out.1))
        have GB := Lib.hid (GB.out.below hd (GL.out.2))
        have HA := Lib.hid (HA.out.to_below hd)
        have HA' := Lib.hid (HA'.out.to_below hd)
        have GL := Lib.hid (And.intro (Nat.lt_of_lt_of_le GL.out.1 hd.size) (Nat.lt_of_lt_of_le GL.out.2 hd.size))
        clear hd
        rw [E0.out]
        obtain ⟨g0, g1, g2⟩ := GA.out
        obtain ⟨g3, g4, g5⟩ := GB.out
        go_wp2_with fail
        clear g0 g1 g2 g3 g4 g5
        refine (eqIntS_any _ _ _ _ _ _ k.i l.i _ HA.out.2.1 HA'.out.2.1 h1 l1).mono ?_
        rintro e w2 ⟨rfl, hd⟩
        have HB := Lib.hid (HB.out.trans (hd.mono HB.out.size))
        have GA := Lib.hid (GA.out.below hd (GL.out.1))
        have GB := Lib.hid (GB.out.below hd (GL.out.2))
        have HA := Lib.hid (HA.out.to_below hd)
        have HA' := Lib.hid (HA'.out.to_below hd)
        have GL := Lib.hid (And.intro (Nat.lt_of_lt_of_le GL.out.1 hd.size) (Nat.lt_of_lt_of_le GL.out.2 hd.size))
        clear hd
        rw [E1.out]
        obtain ⟨g0, g1, g2⟩ := GA.out
        obtain ⟨g3, g4, g5⟩ := GB.out
        go_wp2_with fail
        clear g0 g1 g2 g3 g4 g5
        refine (eqIntS_any _ _ _ _ _ _ k.r l.r _ HA.out.2.2 HA'.out.2.2 h2 l2).mono ?_
        rintro e w3 ⟨rfl, hd⟩
        have HB := Lib.hid (HB.out.trans (hd.mono HB.out.size))
        have GA := Lib.hid (GA.out.below hd (GL.out.1))
        have GB := Lib.hid (GB.out.below hd (GL.out.2))
        have HA := Lib.hid (HA.out.to_below hd)
        have HA' := Lib.hid (HA'.out.to_below hd)
        have GL := Lib.hid (And.intro (Nat.lt_of_lt_of_le GL.out.1 hd.size) (Nat.lt_of_lt_of_le GL.out.2 hd.size))
        clear hd
        rw [E2.out]
        go_wp2
        go_ret
        exact ⟨Kit.ret_bool Hf.out.symm, HB.out⟩
set_option maxHeartbeats 1600000 in
set_option maxRecDepth 100000 in
theorem markCost_any (A0 A1 A2 : Option Addr) (c0 c1 c2 base : Nat) (k0 : Int) (k : Co) (w : World) (h : OwnC w base A0 A1 A2 c0 c1 c2 k) (hb : base ≤ w.heap.size) (l0 : k.d.length ≤ 1048576) (l1 : k.i.length ≤ 1048576) (l2 : k.r.length ≤ 1048576) (h0 : 0 ≤ k0) (h1 : k0 ≤ 1000000) :
    Calls Try.prog 28 #[.agg #[.slice A0 k.d.length c0, .slice A1 k.i.length c1, .slice A2 k.r.length c2], .int .i64 k0] w fun e w' => e = .returned (.int .i64 (k0 + k.d.length + k.i.length + k.r.length)) ∧ OwnC w' base A0 A1 A2 c0 c1 c2 (Co.marks k0 k) ∧ Below base w w' ∧ w.heap.size ≤ w'.heap.size ∧ Only3 (.slice A0 k.d.length c0) (.slice A1 k.i.length c1) (.slice A2 k.r.length c2) w w' := by
  obtain ⟨o0, o1, o2, a01, a02, a12⟩ := h
  obtain ⟨wa, hwa⟩ : ∃ wa, wa = w.alloc (.cells #[.slice A0 k.d.length c0, .slice A1 k.i.length c1, .slice A2 k.r.length c2] 26) := ⟨_, rfl⟩
  have HX := Lib.hid (show Box3 wa w.heap.size (.slice A0 k.d.length c0) (.slice A1 k.i.length c1) (.slice A2 k.r.length c2) by rw [hwa]; exact Box3.made _ _ _ _ _)
  have HSL := Lib.hid (show w.heap.size < wa.heap.size by rw [hwa]; simp)
  have HBW := Lib.hid (show Below base w wa by rw [hwa]; exact (Below.refl _ _).alloc hb _)
  have hl : ∀ (v : Value) (n : Nat) (ys : List Value), w.ownsRow base 3 1 v n ys → ∀ b, v.ownBlock = some b → b ≠ w.heap.size := fun v n ys ho b hb => by have := (ho.lt b hb).2; omega
  have HL := Lib.hid (And.intro (hl _ _ _ o0) (And.intro (hl _ _ _ o1) (hl _ _ _ o2)))
  have HO := Lib.hid (show wa.ownsRow base 3 1 (.slice A0 k.d.length c0) k.d.length (ints k.d) ∧ wa.ownsRow base 3 1 (.slice A1 k.i.length c1) k.i.length (ints k.i) ∧ wa.ownsRow base 3 1 (.slice A2 k.r.length c2) k.r.length (ints k.r) by
    rw [hwa]; exact ⟨o0.alloc _, o1.alloc _, o2.alloc _⟩)
  have HAP := Lib.hid (And.intro a01 (And.intro a02 a12))
  have HSW := Lib.hid (show base ≤ wa.heap.size ∧ w.heap.size ≤ wa.heap.size by rw [hwa]; simp; omega)
  have HON := Lib.hid (show Only3 (.slice A0 k.d.length c0) (.slice A1 k.i.length c1) (.slice A2 k.r.length c2) w wa by rw [hwa]; exact fun i hi _ _ _ => Below.heap_alloc w _ i hi)
  clear o0 o1 o2 a01 a02 a12 hl hb
  obtain ⟨N0, hN0⟩ : ∃ N0 : Int, N0 = (k.d.length : Int) := ⟨_, rfl⟩
  obtain ⟨N1, hN1⟩ : ∃ N1 : Int, N1 = (k.i.length : Int) := ⟨_, rfl⟩
  go_enter Try.func28, Try.ntmps28
  go_wp2_with fail
  rw [← hwa]
  refine (markIntS_any A0 _ c0 base _ k0 k.d _ HO.out.1 l0 h0 (by omega)).mono ?_
  rintro e w1 ⟨rfl, ho, hg⟩
  have HX := Lib.hid (HX.out.grown hg HSL.out HL.out.1)
  have HON := Lib.hid (show Only3 _ _ _ w _ from fun i hi h1 h2 h3 => (hg.block i (Nat.lt_of_lt_of_le hi HSW.out.2) (fun e => h1 e.symm)).trans (HON.out i hi h1 h2 h3))
  have HBW := Lib.hid (own_below_of HBW.out HO.out.1 hg (Nat.le_refl _) HSW.out.1)
  have HO := Lib.hid (And.intro ho (And.intro (World.ownsRow.kept HO.out.2.1 hg HAP.out.1.symm) (World.ownsRow.kept HO.out.2.2 hg HAP.out.2.1.symm)))
  have HSL := Lib.hid (Nat.lt_of_lt_of_le HSL.out hg.size)
  have HSW := Lib.hid (And.intro (Nat.le_trans HSW.out.1 hg.size) (Nat.le_trans HSW.out.2 hg.size))
  clear ho hg
  have g0 := HX.out.2.1
  go_wp2_with fail
  clear g0
  refine (markIntS_any A1 _ c1 base _ (k0 + k.d.length) k.i _ HO.out.2.1 l1 (by omega) (by omega)).mono ?_
  rintro e w2 ⟨rfl, ho, hg⟩
  have HX := Lib.hid (HX.out.grown hg HSL.out HL.out.2.1)
  have HON := Lib.hid (show Only3 _ _ _ w _ from fun i hi h1 h2 h3 => (hg.block i (Nat.lt_of_lt_of_le hi HSW.out.2) (fun e => h2 e.symm)).trans (HON.out i hi h1 h2 h3))
  have HBW := Lib.hid (own_below_of HBW.out HO.out.2.1 hg (Nat.le_refl _) HSW.out.1)
  have HO := Lib.hid (And.intro (World.ownsRow.kept HO.out.1 hg HAP.out.1) (And.intro ho (World.ownsRow.kept HO.out.2.2 hg HAP.out.2.2.symm)))
  have HSL := Lib.hid (Nat.lt_of_lt_of_le HSL.out hg.size)
  have HSW := Lib.hid (And.intro (Nat.le_trans HSW.out.1 hg.size) (Nat.le_trans HSW.out.2 hg.size))
  clear ho hg
  have g0 := HX.out.2.2
  go_wp2_with fail
  clear g0
  refine (markIntS_any A2 _ c2 base _ (k0 + k.d.length + k.i.length) k.r _ HO.out.2.2 l2 (by omega) (by omega)).mono ?_
  rintro e w3 ⟨rfl, ho, hg⟩
  have HON := Lib.hid (show Only3 _ _ _ w _ from fun i hi h1 h2 h3 => (hg.block i (Nat.lt_of_lt_of_le hi HSW.out.2) (fun e => h3 e.symm)).trans (HON.out i hi h1 h2 h3))
  have HBW := Lib.hid (own_below_of HBW.out HO.out.2.2 hg (Nat.le_refl _) HSW.out.1)
  have HO := Lib.hid (And.intro (World.ownsRow.kept HO.out.1 hg HAP.out.2.1) (And.intro (World.ownsRow.kept HO.out.2.1 hg HAP.out.2.2) ho))
  have HSW := Lib.hid (And.intro (Nat.le_trans HSW.out.1 hg.size) (Nat.le_trans HSW.out.2 hg.size))
  clear ho hg
  go_wp2
  go_ret
  refine ⟨rfl, ?_, HBW.out, HSW.out.2, HON.out⟩
  unfold OwnC
  rw [Co.marks_d, Co.marks_i, Co.marks_r]
  exact ⟨HO.out.1, HO.out.2.1, HO.out.2.2, HAP.out⟩
set_option maxHeartbeats 1600000 in
set_option maxRecDepth 100000 in
theorem heldCost_own (A0 A1 A2 : Option Addr) (n0 n1 n2 c0 c1 c2 base : Nat) (k0 : Int) (w : World) (h0 : 0 ≤ k0) (h1 : k0 ≤ 1000000) (l0 : n0 ≤ 1048576) (l1 : n1 ≤ 1048576) (l2 : n2 ≤ 1048576)
    (o0 : w.ownsRow base 3 1 (.slice A0 n0 c0) n0 (ints (Zs.marks k0 n0))) (o1 : w.ownsRow base 3 1 (.slice A1 n1 c1) n1 (ints (Zs.marks (k0 + n0) n1))) (o2 : w.ownsRow base 3 1 (.slice A2 n2 c2) n2 (ints (Zs.marks (k0 + n0 + n1) n2))) :
    Calls Try.prog 29 #[.agg #[.slice A0 n0 c0, .slice A1 n1 c1, .slice A2 n2 c2], .int .i64 k0] w fun e w' => e = .returned (.int .i64 (k0 + n0 + n1 + n2)) ∧ Below w.heap.size w w' := by
  have HB := Lib.hid ((Below.refl w.heap.size w).alloc (Nat.le_refl _) (.cells #[.slice A0 n0 c0, .slice A1 n1 c1, .slice A2 n2 c2] 26))
  have HX := Lib.hid (Box3.made w (.slice A0 n0 c0) (.slice A1 n1 c1) (.slice A2 n2 c2) 26)
  have HO := Lib.hid (And.intro (own_below o0 HB.out) (And.intro (own_below o1 HB.out) (own_below o2 HB.out)))
  clear o0 o1 o2
  go_enter Try.func29, Try.ntmps29
  go_wp2_with fail
  refine (heldIntS_any A0 _ c0 base _ k0 _ HO.out.1 l0 h0 (by omega)).mono ?_
  rintro e w' ⟨rfl, rfl⟩
  go_wp2_with fail
  refine (heldIntS_any A1 _ c1 base _ (k0 + n0) _ HO.out.2.1 l1 (by omega) (by omega)).mono ?_
  rintro e w' ⟨rfl, rfl⟩
  go_wp2_with fail
  refine (heldIntS_any A2 _ c2 base _ (k0 + n0 + n1) _ HO.out.2.2 l2 (by omega) (by omega)).mono ?_
  rintro e w' ⟨rfl, rfl⟩
  go_wp2
  go_ret
  exact ⟨rfl, HB.out⟩
theorem heldCost_any (A0 A1 A2 : Option Addr) (c0 c1 c2 base : Nat) (k0 : Int) (k : Co) (w : World) (h : OwnC w base A0 A1 A2 c0 c1 c2 (Co.marks k0 k)) (l0 : k.d.length ≤ 1048576) (l1 : k.i.length ≤ 1048576) (l2 : k.r.length ≤ 1048576) (h0 : 0 ≤ k0) (h1 : k0 ≤ 1000000) :
    Calls Try.prog 29 #[.agg #[.slice A0 k.d.length c0, .slice A1 k.i.length c1, .slice A2 k.r.length c2], .int .i64 k0] w fun e w' => e = .returned (.int .i64 (k0 + k.d.length + k.i.length + k.r.length)) ∧ Below w.heap.size w w' := by
  unfold OwnC at h
  rw [Co.marks_d, Co.marks_i, Co.marks_r] at h
  exact heldCost_own A0 A1 A2 _ _ _ c0 c1 c2 base k0 w h0 h1 l0 l1 l2 h.1 h.2.1 h.2.2.1

end Go.Proofs.Ytpdpkcadolcbmaa
