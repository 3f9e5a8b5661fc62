/- Texts of one claim laid into one file, in build order: HarB, IntE, HarQ, CoX, NdPt, NdTo, NdSm, NdEq, ExLeastCost, NdOpen, CoOpen. -/
import Derived.Test.YtnfjdlocmdgefaaEl1
import Derived.Test.YtnfjdlocmdgefaaEl2
import Derived.Test.YtnfjdlocmdgefaaEl3
import Derived.Test.YtnfjdlocmdgefaaEl7
import Derived.Test.YtnfjdlocmdgefaaEl8
import Derived.ChangeArms
import Derived.ChangeSlices
import Derived.Deep.RegionHeld3
import Derived.Deep.SlicePairs
import Derived.Laws.Entries
import Derived.Laws.MakeOwn
import Derived.Lib.SmallJoins
import Derived.Outline
import Derived.StillTailTactics
import Derived.Test.YtnfjdlocmdgefaaRows
import Derived.WideShapes
/- Contracts (HarB). -/
namespace Go.Proofs.Ytnfjdlocmdgefaa
open Go.RowKit
set_option linter.unusedVariables false

/-- three rows of the call's own, apart -/
def OwnC (w : World) (base : Nat) (A0 A1 A2 : Option Addr) (c0 c1 c2 : Nat) (k : Co) : Prop :=
  w.ownsRow base 3 1 (.slice A0 k.d.length c0) k.d.length (ints k.d) ∧ w.ownsRow base 3 1 (.slice A1 k.i.length c1) k.i.length (ints k.i) ∧ w.ownsRow base 3 1 (.slice A2 k.r.length c2) k.r.length (ints k.r) ∧
  Apart (.slice A0 k.d.length c0) (.slice A1 k.i.length c1) ∧ Apart (.slice A0 k.d.length c0) (.slice A2 k.r.length c2) ∧ Apart (.slice A1 k.i.length c1) (.slice A2 k.r.length c2)
theorem OwnC.below {w w' : World} {base : Nat} {A0 A1 A2 : Option Addr} {c0 c1 c2 : Nat} {k : Co} (h : OwnC w base A0 A1 A2 c0 c1 c2 k) (hb : Below w.heap.size w w') : OwnC w' base A0 A1 A2 c0 c1 c2 k :=
  ⟨own_below h.1 hb, own_below h.2.1 hb, own_below h.2.2.1 hb, h.2.2.2⟩
/-- the old blocks but those of three rows stand as they did -/
def Only3 (v0 v1 v2 : Value) (w w' : World) : Prop := ∀ i, i < w.heap.size → v0.ownBlock ≠ some i → v1.ownBlock ≠ some i → v2.ownBlock ≠ some i → w'.heap[i]? = w.heap[i]?
theorem OwnC.lt {w : World} {base : Nat} {A0 A1 A2 : Option Addr} {c0 c1 c2 : Nat} {k : Co} (h : OwnC w base A0 A1 A2 c0 c1 c2 k) {s : Nat} (hs : w.heap.size ≤ s) :
    (Value.slice A0 k.d.length c0).ownBlock ≠ some s ∧ (Value.slice A1 k.i.length c1).ownBlock ≠ some s ∧ (Value.slice A2 k.r.length c2).ownBlock ≠ some s :=
  ⟨fun e => by have := (h.1.lt s e).2; omega, fun e => by have := (h.2.1.lt s e).2; omega, fun e => by have := (h.2.2.1.lt s e).2; omega⟩
theorem Box3.only {w w' : World} {g : Nat} {u0 u1 u2 v0 v1 v2 : Value} (h : Box3 w g v0 v1 v2) (ho : Only3 u0 u1 u2 w w') (hl : g < w.heap.size) (hn : u0.ownBlock ≠ some g ∧ u1.ownBlock ≠ some g ∧ u2.ownBlock ≠ some g) : Box3 w' g v0 v1 v2 := by
  have e := ho g hl hn.1 hn.2.1 hn.2.2
  exact ⟨(World.cell?_of_block (a := ⟨g, 0, none⟩) e).trans h.1, (World.cell?_of_block (a := ⟨g, 1, none⟩) e).trans h.2.1, (World.cell?_of_block (a := ⟨g, 2, none⟩) e).trans h.2.2⟩
theorem Box3.grown {w w' : World} {g : Nat} {r : Option Nat} {v0 v1 v2 : Value} (h : Box3 w g v0 v1 v2) (hg : w.grownBy w' r) (hl : g < w.heap.size) (hr : ∀ b, r = some b → b ≠ g) : Box3 w' g v0 v1 v2 := by
  have e := hg.block g hl (fun e => hr g e.symm rfl)
  exact ⟨(World.cell?_of_block (a := ⟨g, 0, none⟩) e).trans h.1, (World.cell?_of_block (a := ⟨g, 1, none⟩) e).trans h.2.1, (World.cell?_of_block (a := ⟨g, 2, none⟩) e).trans h.2.2⟩

end Go.Proofs.Ytnfjdlocmdgefaa

/- Contracts (IntE). -/
namespace Go.Proofs.Ytnfjdlocmdgefaa
open Go.RowKit
set_option linter.unusedVariables false

set_option maxHeartbeats 800000 in
set_option maxRecDepth 100000 in
theorem eqIntS_any (A A' : Option Addr) (n c n' c' : Nat) (xs ys : List Int) (w : World) (h : IntIn w w.heap.size A n xs) (h' : IntIn w w.heap.size A' n' ys) (hn : n ≤ 1048576) (hn' : n' ≤ 1048576) :
    Calls Try.prog 53 #[.slice A n c, .slice A' n' c'] w fun e w' => e = .returned (.bool (decide (xs = ys))) ∧ Below w.heap.size w w' := by
  have H := Lib.hid h
  have H' := Lib.hid h'
  clear h h'
  have HL := Lib.hid H.out.1
  have HL' := Lib.hid H'.out.1
  by_cases hnn : n = n'
  · go_enter Try.func53, Try.ntmps53
    have Hnn := Lib.hid hnn
    have hne : ((n : Int) != (n' : Int)) = false := by simp [hnn]
    clear hnn
    go_wp2
    go_loopw [5] (fun iv wr => ∃ k : Nat, k ≤ n ∧ iv = .int .i64 k ∧ (∀ j, j < k → Zs.at xs j = Zs.at ys j) ∧ Drawn w wr) (fun i _ => n - (intOf i).toNat)
    case atStart => exact ⟨0, by omega, rfl, fun j hj => absurd hj (by omega), Drawn.refl _⟩
    case round =>
      obtain ⟨k, hk, rfl, hsm, hD⟩ := hrel
      have Hsm := Lib.hid hsm
      clear hsm
      by_cases hlt : k < n
      · obtain ⟨ad, rfl, hb, hl⟩ := (H.out.drawn hD).at_ hlt
        obtain ⟨ad', rfl, hb', hl'⟩ := (H'.out.drawn hD).at_ (k := k) (by rw [← Hnn.out]; exact hlt)
        have hlt' : (k : Int) < (n' : Int) := by rw [← Hnn.out]; omega
        have hk0 : (0 : Int) ≤ (k : Int) := by omega
        by_cases hq1 : Zs.at xs k = Zs.at ys k
        · have Hq := Lib.hid hq1
          have q1 : (Zs.at xs k != Zs.at ys k) = false := by simpa using hq1
          clear hq1
          go_wp2
          go_quiet (fail)
          go_wp2
          go_roundw
          case rel => exact ⟨k + 1, by omega, by go_num, fun j hj => by
            rcases Nat.lt_succ_iff_lt_or_eq.1 hj with h' | rfl
            · exact Hsm.out j h'
            · exact Hq.out, hD.drewN _⟩
          case measure => simp [intOf]; omega
        · have Hq := Lib.hid hq1
          have q1 : (Zs.at xs k != Zs.at ys k) = true := by simpa using hq1
          clear hq1
          go_wp2
          go_quiet (fail)
          go_wp2
          go_ret
          refine ⟨Kit.ret_bool ?_, (hD.drewN _).toBelow⟩
          symm
          rw [decide_eq_false_iff_not]
          rintro rfl
          exact Hq.out rfl
      · obtain rfl : k = n := by omega
        go_wp2
        go_ret
        refine ⟨Kit.ret_bool ?_, hD.toBelow⟩
        symm
        rw [decide_eq_true_eq]
        exact Zs.ext (by rw [HL.out, HL'.out]; exact Hnn.out) (fun j hj => Hsm.out j (by rw [← HL.out]; exact hj))
  · have hne : ((n : Int) != (n' : Int)) = true := by simp; omega
    have Hq := Lib.hid (show decide (xs = ys) = false by
      rw [decide_eq_false_iff_not]; rintro rfl; exact hnn (HL.out.symm.trans HL'.out))
    clear hnn
    go_enter Try.func53, Try.ntmps53
    go_wp2
    go_ret
    exact ⟨Kit.ret_bool Hq.out.symm, Below.refl _ _⟩


end Go.Proofs.Ytnfjdlocmdgefaa

/- Contracts (HarQ). -/
namespace Go.Proofs.Ytnfjdlocmdgefaa
open Go.RowKit
set_option linter.unusedVariables false

set_option maxHeartbeats 1600000 in
set_option maxRecDepth 100000 in
theorem eqCost_any (A0 A1 A2 : Option Addr) (n0 n1 n2 c0 c1 c2 : Nat) (k : Co) (B0 B1 B2 : Option Addr) (m0 m1 m2 d0 d1 d2 : Nat) (l : Co) (w : World) (h : CoIn w w.heap.size A0 A1 A2 n0 n1 n2 k) (h' : CoIn w w.heap.size B0 B1 B2 m0 m1 m2 l)
    (h0 : n0 ≤ 1048576) (h1 : n1 ≤ 1048576) (h2 : n2 ≤ 1048576) (l0 : m0 ≤ 1048576) (l1 : m1 ≤ 1048576) (l2 : m2 ≤ 1048576) :
    Calls Try.prog 27 #[.agg #[.slice A0 n0 c0, .slice A1 n1 c1, .slice A2 n2 c2], .agg #[.slice B0 m0 d0, .slice B1 m1 d1, .slice B2 m2 d2]] w fun e w' => e = .returned (.bool (Co.same k l)) ∧ Below w.heap.size w w' := by
  have H := Lib.hid h
  have H' := Lib.hid h'
  clear h h'
  obtain ⟨o1, ho1⟩ : ∃ o, o = Obj.cells #[.slice A0 n0 c0, .slice A1 n1 c1, .slice A2 n2 c2] 27 := ⟨_, rfl⟩
  obtain ⟨o2, ho2⟩ : ∃ o, o = Obj.cells #[.slice B0 m0 d0, .slice B1 m1 d1, .slice B2 m2 d2] 27 := ⟨_, rfl⟩
  have hba := (Below.refl w.heap.size w).alloc (Nat.le_refl _) o1
  have HB := Lib.hid (hba.alloc hba.size o2)
  have hlt : w.heap.size < (w.alloc o1).heap.size := by simp
  have GL := Lib.hid (show w.heap.size < ((w.alloc o1).alloc o2).heap.size ∧ w.heap.size + 1 < ((w.alloc o1).alloc o2).heap.size by simp; omega)
  have GA := Lib.hid ((show Box3 (w.alloc o1) w.heap.size (.slice A0 n0 c0) (.slice A1 n1 c1) (.slice A2 n2 c2) by rw [ho1]; exact Box3.made _ _ _ _ _).alloc hlt o2)
  have GB := Lib.hid (show Box3 ((w.alloc o1).alloc o2) (w.alloc o1).heap.size (.slice B0 m0 d0) (.slice B1 m1 d1) (.slice B2 m2 d2) by rw [ho2]; exact Box3.made _ _ _ _ _)
  have hs1 : (w.alloc o1).heap.size = w.heap.size + 1 := by simp
  rw [hs1] at GB
  clear hba hlt hs1
  subst ho1
  subst ho2
  have HA := Lib.hid (H.out.to_below HB.out)
  have HA' := Lib.hid (H'.out.to_below HB.out)
  cases e0 : decide (k.d = l.d) with
  | false =>
    have Hf := Lib.hid (show Co.same k l = false by unfold Co.same; rw [e0]; rfl)
    have E0 := Lib.hid e0
    clear e0
    go_enter Try.func27, Try.ntmps27
    obtain ⟨g0, g1, g2⟩ := GA.out
    obtain ⟨g3, g4, g5⟩ := GB.out
    go_wp2_with fail
    clear g0 g1 g2 g3 g4 g5
    refine (eqIntS_any _ _ _ _ _ _ k.d l.d _ HA.out.1 HA'.out.1 h0 l0).mono ?_
    rintro e w1 ⟨rfl, hd⟩
    have HB := Lib.hid (HB.out.trans (hd.mono HB.out.size))
    have GA := Lib.hid (GA.out.below hd (GL.out.1))
    have GB := Lib.hid (GB.out.below hd (GL.out.2))
    have HA := Lib.hid (HA.out.to_below hd)
    have HA' := Lib.hid (HA'.out.to_below hd)
    have GL := Lib.hid (And.intro (Nat.lt_of_lt_of_le GL.out.1 hd.size) (Nat.lt_of_lt_of_le GL.out.2 hd.size))
    clear hd
    rw [E0.out]
    go_wp2
    go_ret
    exact ⟨Kit.ret_bool Hf.out.symm, HB.out⟩
  | true =>
    cases e1 : decide (k.i = l.i) with
    | false =>
      have Hf := Lib.hid (show Co.same k l = false by unfold Co.same; rw [e0, e1]; rfl)
      have E0 := Lib.hid e0
      have E1 := Lib.hid e1
      clear e0 e1
      go_enter Try.func27, Try.ntmps27
      obtain ⟨g0, g1, g2⟩ := GA.out
      obtain ⟨g3, g4, g5⟩ := GB.out
      go_wp2_with fail
      clear g0 g1 g2 g3 g4 g5
      refine (eqIntS_any _ _ _ _ _ _ k.d l.d _ HA.out.1 HA'.out.1 h0 l0).mono ?_
      rintro e w1 ⟨rfl, hd⟩
      have HB := Lib.hid (HB.out.trans (hd.mono HB.out.size))
      have GA := Lib.hid (GA.out.below hd (GL.out.1))
      have GB := Lib.hid (GB.out.below hd (GL.out.2))
      have HA := Lib.hid (HA.out.to_below hd)
      have HA' := Lib.hid (HA'.out.to_below hd)
      have GL := Lib.hid (And.intro (Nat.lt_of_lt_of_le GL.out.1 hd.size) (Nat.lt_of_lt_of_le GL.out.2 hd.size))
      clear hd
      rw [E0.out]
      obtain ⟨g0, g1, g2⟩ := GA.out
      obtain ⟨g3, g4, g5⟩ := GB.out
      go_wp2_with fail
      clear g0 g1 g2 g3 g4 g5
      refine (eqIntS_any _ _ _ _ _ _ k.i l.i _ HA.out.2.1 HA'.out.2.1 h1 l1).mono ?_
      rintro e w2 ⟨rfl, hd⟩
      have HB := Lib.hid (HB.out.trans (hd.mono HB.out.size))
      have GA := Lib.hid (GA.out.below hd (GL.out.1))
      have GB := Lib.hid (GB.out.below hd (GL.out.2))
      have HA := Lib.hid (HA.out.to_below hd)
      have HA' := Lib.hid (HA'.out.to_below hd)
      have GL := Lib.hid (And.intro (Nat.lt_of_lt_of_le GL.out.1 hd.size) (Nat.lt_of_lt_of_le GL.out.2 hd.size))
      clear hd
      rw [E1.out]
      go_wp2
      go_ret
      exact ⟨Kit.ret_bool Hf.out.symm, HB.out⟩
    | true =>
      cases e2 : decide (k.r = l.r) with
      | false =>
        have Hf := Lib.hid (show Co.same k l = false by unfold Co.same; rw [e0, e1, e2]; rfl)
        have E0 := Lib.hid e0
        have E1 := Lib.hid e1
        have E2 := Lib.hid e2
        clear e0 e1 e2
        go_enter Try.func27, Try.ntmps27
        obtain ⟨g0, g1, g2⟩ := GA.out
        obtain ⟨g3, g4, g5⟩ := GB.out
        go_wp2_with fail
        clear g0 g1 g2 g3 g4 g5
        refine (eqIntS_any _ _ _ _ _ _ k.d l.d _ HA.out.1 HA'.out.1 h0 l0).mono ?_
        rintro e w1 ⟨rfl, hd⟩
        have HB := Lib.hid (HB.out.trans (hd.mono HB.out.size))
        have GA := Lib.hid (GA.out.below hd (GL.out.1))
        have GB := Lib.hid (GB.out.below hd (GL.out.2))
        have HA := Lib.hid (HA.out.to_below hd)
        have HA' := Lib.hid (HA'.out.to_below hd)
        have GL := Lib.hid (And.intro (Nat.lt_of_lt_of_le GL.out.1 hd.size) (Nat.lt_of_lt_of_le GL.out.2 hd.size))
        clear hd
        rw [E0.out]
        obtain ⟨g0, g1, g2⟩ := GA.out
        obtain ⟨g3, g4, g5⟩ := GB.out
        go_wp2_with fail
        clear g0 g1 g2 g3 g4 g5
        refine (eqIntS_any _ _ _ _ _ _ k.i l.i _ HA.out.2.1 HA'.out.2.1 h1 l1).mono ?_
        rintro e w2 ⟨rfl, hd⟩
        have HB := Lib.hid (HB.out.trans (hd.mono HB.out.size))
        have GA := Lib.hid (GA.out.below hd (GL.out.1))
        have GB := Lib.hid (GB.out.below hd (GL.out.2))
        have HA := Lib.hid (HA.out.to_below hd)
        have HA' := Lib.hid (HA'.out.to_below hd)
        have GL := Lib.hid (And.intro (Nat.lt_of_lt_of_le GL.out.1 hd.size) (Nat.lt_of_lt_of_le GL.out.2 hd.size))
        clear hd
        rw [E1.out]
        obtain ⟨g0, g1, g2⟩ := GA.out
        obtain ⟨g3, g4, g5⟩ := GB.out
        go_wp2_with fail
        clear g0 g1 g2 g3 g4 g5
        refine (eqIntS_any _ _ _ _ _ _ k.r l.r _ HA.out.2.2 HA'.out.2.2 h2 l2).mono ?_
        rintro e w3 ⟨rfl, hd⟩
        have HB := Lib.hid (HB.out.trans (hd.mono HB.out.size))
        have GA := Lib.hid (GA.out.below hd (GL.out.1))
        have GB := Lib.hid (GB.out.below hd (GL.out.2))
        have HA := Lib.hid (HA.out.to_below hd)
        have HA' := Lib.hid (HA'.out.to_below hd)
        have GL := Lib.hid (And.intro (Nat.lt_of_lt_of_le GL.out.1 hd.size) (Nat.lt_of_lt_of_le GL.out.2 hd.size))
        clear hd
        rw [E2.out]
        go_wp2
        go_ret
        exact ⟨Kit.ret_bool Hf.out.symm, HB.out⟩
      | true =>
        have Hf := Lib.hid (show Co.same k l = true by unfold Co.same; rw [e0, e1, e2]; rfl)
        have E0 := Lib.hid e0
        have E1 := Lib.hid e1
        have E2 := Lib.hid e2
        clear e0 e1 e2
        go_enter Try.func27, Try.ntmps27
        obtain ⟨g0, g1, g2⟩ := GA.out
        obtain ⟨g3, g4, g5⟩ := GB.out
        go_wp2_with fail
        clear g0 g1 g2 g3 g4 g5
        refine (eqIntS_any _ _ _ _ _ _ k.d l.d _ HA.out.1 HA'.out.1 h0 l0).mono ?_
        rintro e w1 ⟨rfl, hd⟩
        have HB := Lib.hid (HB.out.trans (hd.mono HB.out.size))
        have GA := Lib.hid (GA.out.below hd (GL.out.1))
        have GB := Lib.hid (GB.out.below hd (GL.out.2))
        have HA := Lib.hid (HA.out.to_below hd)
        have HA' := Lib.hid (HA'.out.to_below hd)
        have GL := Lib.hid (And.intro (Nat.lt_of_lt_of_le GL.out.1 hd.size) (Nat.lt_of_lt_of_le GL.out.2 hd.size))
        clear hd
        rw [E0.out]
        obtain ⟨g0, g1, g2⟩ := GA.out
        obtain ⟨g3, g4, g5⟩ := GB.out
        go_wp2_with fail
        clear g0 g1 g2 g3 g4 g5
        refine (eqIntS_any _ _ _ _ _ _ k.i l.i _ HA.out.2.1 HA'.out.2.1 h1 l1).mono ?_
        rintro e w2 ⟨rfl, hd⟩
        have HB := Lib.hid (HB.out.trans (hd.mono HB.out.size))
        have GA := Lib.hid (GA.out.below hd (GL.out.1))
        have GB := Lib.hid (GB.out.below hd (GL.out.2))
        have HA := Lib.hid (HA.out.to_below hd)
        have HA' := Lib.hid (HA'.out.to_below hd)
        have GL := Lib.hid (And.intro (Nat.lt_of_lt_of_le GL.out.1 hd.size) (Nat.lt_of_lt_of_le GL.out.2 hd.size))
        clear hd
        rw [E1.out]
        obtain ⟨g0, g1, g2⟩ := GA.out
        obtain ⟨g3, g4, g5⟩ := GB.out
        go_wp2_with fail
        clear g0 g1 g2 g3 g4 g5
        refine (eqIntS_any _ _ _ _ _ _ k.r l.r _ HA.out.2.2 HA'.out.2.2 h2 l2).mono ?_
        rintro e w3 ⟨rfl, hd⟩
        have HB := Lib.hid (HB.out.trans (hd.mono HB.out.size))
        have GA := Lib.hid (GA.out.below hd (GL.out.1))
        have GB := Lib.hid (GB.out.below hd (GL.out.2))
        have HA := Lib.hid (HA.out.to_below hd)
        have HA' := Lib.hid (HA'.out.to_below hd)
        have GL := Lib.hid (And.intro (Nat.lt_of_lt_of_le GL.out.1 hd.size) (Nat.lt_of_lt_of_le GL.out.2 hd.size))
        clear hd
        rw [E2.out]
        go_wp2
        go_ret
        exact ⟨Kit.ret_bool Hf.out.symm, HB.out⟩

end Go.Proofs.Ytnfjdlocmdgefaa

/- Contracts (CoX). -/
namespace Go.Proofs.Ytnfjdlocmdgefaa
open Go.RowKit
set_option linter.unusedVariables false

/-- two variables of three cells each stand as they did; the world has only grown -/
def SixG (w0 : World) (s t : Nat) (wq : World) : Prop := Below w0.heap.size w0 wq ∧ s < w0.heap.size ∧ t < w0.heap.size
theorem six_keep {w0 wx wq : World} {s t : Nat} {a0 a1 a2 b0 b1 b2 : Option Value} (hS : wx.cell? ⟨s, 0, none⟩ = a0 ∧ wx.cell? ⟨s, 1, none⟩ = a1 ∧ wx.cell? ⟨s, 2, none⟩ = a2 ∧ wx.cell? ⟨t, 0, none⟩ = b0 ∧ wx.cell? ⟨t, 1, none⟩ = b1 ∧ wx.cell? ⟨t, 2, none⟩ = b2 ∧ SixG w0 s t wx)
    (hb : Below wx.heap.size wx wq) : wq.cell? ⟨s, 0, none⟩ = a0 ∧ wq.cell? ⟨s, 1, none⟩ = a1 ∧ wq.cell? ⟨s, 2, none⟩ = a2 ∧ wq.cell? ⟨t, 0, none⟩ = b0 ∧ wq.cell? ⟨t, 1, none⟩ = b1 ∧ wq.cell? ⟨t, 2, none⟩ = b2 ∧ SixG w0 s t wq := by
  obtain ⟨h0, h1, h2, k0, k1, k2, hB, hs, ht⟩ := hS
  have hz := hB.size
  have c (u o : Nat) (hu : u < w0.heap.size) : wq.cell? ⟨u, o, none⟩ = wx.cell? ⟨u, o, none⟩ := hb.cell (p := ⟨u, o, none⟩) (by simp only; omega)
  exact ⟨by rw [c s 0 hs, h0], by rw [c s 1 hs, h1], by rw [c s 2 hs, h2], by rw [c t 0 ht, k0], by rw [c t 1 ht, k1], by rw [c t 2 ht, k2], hB.trans (hb.mono hz), hs, ht⟩
theorem six_below {w0 wx : World} {s t : Nat} {a0 a1 a2 b0 b1 b2 : Option Value} (hS : wx.cell? ⟨s, 0, none⟩ = a0 ∧ wx.cell? ⟨s, 1, none⟩ = a1 ∧ wx.cell? ⟨s, 2, none⟩ = a2 ∧ wx.cell? ⟨t, 0, none⟩ = b0 ∧ wx.cell? ⟨t, 1, none⟩ = b1 ∧ wx.cell? ⟨t, 2, none⟩ = b2 ∧ SixG w0 s t wx) : Below w0.heap.size w0 wx := hS.2.2.2.2.2.2.1
theorem Co.same_self (k : Co) : Co.same k k = true := by simp [Co.same]

end Go.Proofs.Ytnfjdlocmdgefaa

/- Lists of which the first part is laid (NdPt). -/
namespace Go.Proofs.Ytnfjdlocmdgefaa
open Go.RowKit
set_option linter.unusedVariables false

/-- the first k nodes of xs, then zeros -/
def Tr.part (xs : Tr) (k : Nat) : Tr := xs.take k ++ List.replicate (xs.length - k) (0, 0)
theorem Tr.part_length (xs : Tr) (k : Nat) (hk : k ≤ xs.length) : (Tr.part xs k).length = xs.length := by simp [Tr.part]; omega
theorem Tr.part_set (xs : Tr) (k : Nat) (hk : k < xs.length) : (Tr.part xs k).set k (Tr.l xs k, Tr.d xs k) = Tr.part xs (k + 1) := by
  unfold Tr.part
  rw [List.set_append_right _ _ (by simp; omega)]
  rw [List.take_succ_eq_append_getElem hk, List.append_assoc]
  congr 1
  rw [show xs.length - k = (xs.length - (k + 1)) + 1 by omega, List.replicate_succ]
  simp [Tr.l, Tr.d, List.getD_eq_getElem?_getD, hk, show k - min k xs.length = 0 by omega]
theorem Tr.part_full (xs : Tr) : Tr.part xs xs.length = xs := by simp [Tr.part]
theorem Tr.part_none (xs : Tr) : Tr.part xs 0 = List.replicate xs.length (0, 0) := by simp [Tr.part]

theorem made_nodes (n : Nat) : (madeCells (Value.agg #[.int .i64 0, .int .i64 0]).cells (n * 2)).toList = Tr.cells (List.replicate n (0, 0)) := by
  have h1 (m : Nat) : Tr.cells (List.replicate m (0, 0)) = List.replicate (m * 2) (.int .i64 0) := by
    induction m with
    | zero => rfl
    | succ m ih => rw [List.replicate_succ, show (m + 1) * 2 = m * 2 + 1 + 1 by omega, List.replicate_succ, List.replicate_succ, ← ih]; rfl
  rw [h1]
  apply List.ext_getElem?
  intro j
  by_cases hj : j < n * 2
  · have h2 : j % 2 = 0 ∨ j % 2 = 1 := by omega
    rcases h2 with h2 | h2 <;> simp [madeCells, hj, h2, Value.cells]
  · simp [madeCells, hj]

end Go.Proofs.Ytnfjdlocmdgefaa

/- Contracts of the harness over []Node: size, copy. -/
namespace Go.Proofs.Ytnfjdlocmdgefaa
open Go.RowKit
set_option linter.unusedVariables false

set_option maxHeartbeats 400000 in
theorem szNodeS_any (A : Option Addr) (n c : Nat) (left : Int) (w : World) (hn : n ≤ 9223372036854775807) (h0 : 0 ≤ left) (h1 : left ≤ 1048576) :
    Calls Try.prog 17 #[.slice A n c, .int .i64 left] w fun e w' => e = .returned (.int .i64 (if (n : Int) ≤ left then left - n else -1)) ∧ w = w' := by
  by_cases h : (n : Int) ≤ left
  · rw [if_pos h]
    go_enter Try.func17, Try.ntmps17
    go_wp2
    go_ret
    exact ⟨rfl, rfl⟩
  · rw [if_neg h]
    go_enter Try.func17, Try.ntmps17
    go_wp2
    go_ret
    exact ⟨rfl, rfl⟩

set_option maxHeartbeats 400000 in
theorem toNode_any (a b : Int) (w : World) :
    Calls Try.prog 45 #[.agg #[.int .i64 a, .int .i64 b]] w fun e w' => e = .returned (.agg #[.int .i64 a, .int .i64 b]) ∧ Below w.heap.size w w' := by
  go_enter Try.func45, Try.ntmps45
  go_wp2
  exact bodyPost_ret (v := .agg #[.int .i64 a, .int .i64 b]) (by simp [results, Try.results45, go_sem]) rfl ⟨rfl, by repeat' (first | exact Below.refl _ _ | refine Below.alloc ?_ (by simp [Nat.le_add_right, Nat.add_assoc]) _ | refine Below.setCell ?_ (by simp [Nat.add_assoc]) _)⟩

theorem info_node : (Try.prog.info? 61).map (fun i => (i.zero, i.size, i.bytes)) = some (some (.agg #[.int .i64 0, .int .i64 0]), 2, 16) := by kernel_rfl

set_option maxHeartbeats 800000 in
set_option maxRecDepth 100000 in
theorem toNodeS_any (A : Option Addr) (n c : Nat) (xs : Tr) (w : World) (h : NdIn w w.heap.size A n xs) (hn : n ≤ 1048576) :
    Calls Try.prog 18 #[.slice A n c] w fun e w' => e = .returned (.slice (some ⟨w.heap.size, 0, none⟩) n n) ∧
      w'.ownsRow w.heap.size 61 2 (.slice (some ⟨w.heap.size, 0, none⟩) n n) n (Tr.cells xs) ∧ Below w.heap.size w w' := by
  have H := Lib.hid h
  clear h
  have HL := Lib.hid H.out.1
  obtain ⟨i0, hi, hz0, hz1, hz2⟩ := info_parts info_node
  go_enter Try.func18, Try.ntmps18
  go_wp2_with (at_make; refine wpList_make_full _ rfl _ _ 24 rfl w.heap.size 61 i0 (.agg #[.int .i64 0, .int .i64 0]) 2 Try.underlying24 hi hz0 hz1 _ _ _ _ n rfl rfl rfl rfl (by rw [hz2]; omega) (by unfold maxLen; omega) (Nat.le_refl _) ?_; intro w1 hown1 hgrow1)
  have hb1 : Below w.heap.size w w1 := (Below.refl _ w).grown hgrow1 (Nat.le_refl _) (fun _ h => by cases h)
  rw [made_nodes, ← HL.out, ← Tr.part_none, HL.out] at hown1
  go_loopw [4] (fun iv wr => ∃ k : Nat, k ≤ n ∧ iv = .int .i64 k ∧ wr.ownsRow w.heap.size 61 2 (.slice (some ⟨w.heap.size, 0, none⟩) n n) n (Tr.cells (Tr.part xs k)) ∧ Below w.heap.size w wr) (fun i _ => n - (intOf i).toNat)
  case atStart => exact ⟨0, by omega, rfl, hown1, hb1⟩
  case round =>
    obtain ⟨k, hk, rfl, hown, hB⟩ := hrel
    have hsz := hB.size
    by_cases hlt : k < n
    · obtain ⟨ad, rfl, hb, hl, hd⟩ := (H.out.below hB).at_ hlt
      have Ho := Lib.hid hown
      have HB := Lib.hid hB
      clear hown hB
      go_wp2_with (go_at_call 45; refine (toNode_any _ _ _).mono ?_; rintro e w' ⟨rfl, hb'⟩; have hb2 := Lib.hid hb'; clear hb'; have Ho2 := Lib.hid (own_below Ho.out hb2.out); have c0 := own_even Ho2.out (k := k) (by rw [Tr.part_length _ _ (by rw [HL.out]; omega), HL.out]; omega); have c1 := own_odd Ho2.out (k := k) (by rw [Tr.part_length _ _ (by rw [HL.out]; omega), HL.out]; omega); have f0 := Ho2.out.frozenAt (k * 2); have f1 := Ho2.out.frozenAt (k * 2 + 1))
      go_roundw
      case rel =>
        refine ⟨k + 1, by omega, by go_num, ?_, ?_⟩
        · have := own_set Ho2.out k (Tr.l xs k) (Tr.d xs k)
          rw [Tr.part_set xs k (by rw [HL.out]; exact hlt)] at this
          exact this
        · exact ((HB.out.trans (hb2.out.mono hsz)).setCell (Nat.le_refl _) _).setCell (Nat.le_refl _) _
      case measure => simp [intOf]; omega
    · obtain rfl : k = n := by omega
      rw [← HL.out, Tr.part_full, HL.out] at hown
      go_wp2
      go_ret
      exact ⟨rfl, hown, hB⟩

end Go.Proofs.Ytnfjdlocmdgefaa

/- Two lists of nodes that agree so far. -/
namespace Go.Proofs.Ytnfjdlocmdgefaa
open Go.RowKit
set_option linter.unusedVariables false

/-- the first k nodes agree -/
def Tr.same (xs ys : Tr) (k : Nat) : Prop := ∀ j, j < k → Tr.l xs j = Tr.l ys j ∧ Tr.d xs j = Tr.d ys j

end Go.Proofs.Ytnfjdlocmdgefaa

/- Contracts of the harness over []Node: equality. -/
namespace Go.Proofs.Ytnfjdlocmdgefaa
open Go.RowKit
set_option linter.unusedVariables false

set_option maxHeartbeats 400000 in
theorem eqNode_any (a b c d : Int) (w : World) :
    Calls Try.prog 47 #[.agg #[.int .i64 a, .int .i64 b], .agg #[.int .i64 c, .int .i64 d]] w fun e w' => e = .returned (.bool (decide (a = c ∧ b = d))) ∧ Below w.heap.size w w' := by
  have hB : ∀ o1 o2, Below w.heap.size w ((w.alloc o1).alloc o2) := fun o1 o2 => ((Below.refl _ _).alloc (Nat.le_refl _) _).alloc (by simp) _
  by_cases h1 : a = c
  · by_cases h2 : b = d
    · subst h1 h2
      go_enter Try.func47, Try.ntmps47
      go_wp2
      go_ret
      exact ⟨Kit.ret_bool (by simp), hB _ _⟩
    · have h2' : (b != d) = true := by simpa using h2
      subst h1
      go_enter Try.func47, Try.ntmps47
      go_wp2
      go_ret
      exact ⟨Kit.ret_bool (by simp [h2]), hB _ _⟩
  · have h1' : (a != c) = true := by simpa using h1
    go_enter Try.func47, Try.ntmps47
    go_wp2
    go_ret
    exact ⟨Kit.ret_bool (by simp [h1]), hB _ _⟩


set_option maxHeartbeats 800000 in
set_option maxRecDepth 100000 in
theorem eqNodeS_any (A A' : Option Addr) (n c n' c' : Nat) (xs ys : Tr) (w : World) (h : NdIn w w.heap.size A n xs) (h' : NdIn w w.heap.size A' n' ys) (hn : n ≤ 1048576) (hn' : n' ≤ 1048576) :
    Calls Try.prog 20 #[.slice A n c, .slice A' n' c'] w fun e w' => e = .returned (.bool (decide (xs = ys))) ∧ Below w.heap.size w w' := by
  have H := Lib.hid h
  have H' := Lib.hid h'
  clear h h'
  have HL := Lib.hid H.out.1
  have HL' := Lib.hid H'.out.1
  by_cases hnn : n = n'
  · go_enter Try.func20, Try.ntmps20
    have Hnn := Lib.hid hnn
    have hne : ((n : Int) != (n' : Int)) = false := by simp [hnn]
    clear hnn
    go_wp2
    go_loopw [5] (fun iv wr => ∃ k : Nat, k ≤ n ∧ iv = .int .i64 k ∧ Tr.same xs ys k ∧ Below w.heap.size w wr) (fun i _ => n - (intOf i).toNat)
    case atStart => exact ⟨0, by omega, rfl, fun j hj => absurd hj (by omega), Below.refl _ _⟩
    case round =>
      obtain ⟨k, hk, rfl, hsm, hB⟩ := hrel
      have hsz := hB.size
      have Hsm := Lib.hid hsm
      have HB := Lib.hid hB
      clear hsm hB
      by_cases hlt : k < n
      · obtain ⟨ad, rfl, hb, hl, hd⟩ := (H.out.below HB.out).at_ hlt
        obtain ⟨ad', rfl, hb', hl', hd'⟩ := (H'.out.below HB.out).at_ (k := k) (by rw [← Hnn.out]; exact hlt)
        have hlt' : (k : Int) < (n' : Int) := by rw [← Hnn.out]; omega
        have hk0 : (0 : Int) ≤ (k : Int) := by omega
        have HB2 := Lib.hid HB.out.drew
        have hsz2 := HB.out.drew.size
        by_cases hq : Tr.l xs k = Tr.l ys k ∧ Tr.d xs k = Tr.d ys k
        · have hq' : decide (Tr.l xs k = Tr.l ys k ∧ Tr.d xs k = Tr.d ys k) = true := by simpa using hq
          have Hq := Lib.hid hq
          clear hq
          go_wp2
          go_still_tail 8, (by kernel_rfl)
          change wpList _ _ _ _ _ wr.drew
          generalize wr.drew = w2 at HB2 hsz2 ⊢
          go_wp2_with (go_at_call 47; refine (eqNode_any _ _ _ _ _).mono ?_; rintro e w3 ⟨rfl, hb3⟩)
          go_roundw
          case rel => exact ⟨k + 1, by omega, by go_num, fun j hj => by
            rcases Nat.lt_succ_iff_lt_or_eq.1 hj with h' | rfl
            · exact Hsm.out j h'
            · exact Hq.out, HB2.out.trans (hb3.mono hsz2)⟩
          case measure => simp [intOf]; omega
        · have hq' : decide (Tr.l xs k = Tr.l ys k ∧ Tr.d xs k = Tr.d ys k) = false := by simpa using hq
          have Hq := Lib.hid hq
          clear hq
          go_wp2
          go_still_tail 8, (by kernel_rfl)
          change wpList _ _ _ _ _ wr.drew
          generalize wr.drew = w2 at HB2 hsz2 ⊢
          go_wp2_with (go_at_call 47; refine (eqNode_any _ _ _ _ _).mono ?_; rintro e w3 ⟨rfl, hb3⟩)
          go_ret
          refine ⟨Kit.ret_bool ?_, HB2.out.trans (hb3.mono hsz2)⟩
          symm
          rw [decide_eq_false_iff_not]
          rintro rfl
          exact Hq.out ⟨rfl, rfl⟩
      · obtain rfl : k = n := by omega
        go_wp2
        go_ret
        refine ⟨Kit.ret_bool ?_, HB.out⟩
        symm
        rw [decide_eq_true_eq]
        exact Tr.ext (by rw [HL.out, HL'.out]; exact Hnn.out) (fun j hj => Hsm.out j (by rw [← HL.out]; exact hj))
  · have hne : ((n : Int) != (n' : Int)) = true := by simp; omega
    have Hq := Lib.hid (show decide (xs = ys) = false by
      rw [decide_eq_false_iff_not]; rintro rfl; exact hnn (HL.out.symm.trans HL'.out))
    clear hnn
    go_enter Try.func20, Try.ntmps20
    go_wp2
    go_ret
    exact ⟨Kit.ret_bool Hq.out.symm, Below.refl _ _⟩

end Go.Proofs.Ytnfjdlocmdgefaa

/- Contracts (ExLeastCost). -/
namespace Go.Proofs.Ytnfjdlocmdgefaa
open Go.RowKit
set_option linter.unusedVariables false

set_option maxHeartbeats 3200000 in
set_option maxRecDepth 100000 in
theorem exactLeastCost_walk (A0 : Option Addr) (n0 c0 : Nat) (x0 : Tr) (A1 : Option Addr) (n1 c1 : Nat) (x1 : Tr) (A20 A21 A22 : Option Addr) (n20 n21 n22 c20 c21 c22 : Nat) (x2 : Co) (le0 : n0 ≤ maxLen) (_wf0 : Tr.wf x0) (le1 : n1 ≤ maxLen) (_wf1 : Tr.wf x1) (le20 : n20 ≤ maxLen) (le21 : n21 ≤ maxLen) (le22 : n22 ≤ maxLen) (w : World) (h0 : NdIn w w.heap.size A0 n0 x0) (h1 : NdIn w w.heap.size A1 n1 x1) (h2 : CoIn w w.heap.size A20 A21 A22 n20 n21 n22 x2) :
    Calls Try.prog 5 #[.slice A0 n0 c0, .slice A1 n1 c1, .agg #[.slice A20 n20 c20, .slice A21 n21 c21, .slice A22 n22 c22]] w fun e w' => e = .returned (.bool true) ∧ Below w.heap.size w w' := by
  have Ia0 := Lib.hid h0
  have Hn0 := Lib.hid h0.1
  clear h0
  unfold maxLen at le0
  have Ia1 := Lib.hid h1
  have Hn1 := Lib.hid h1.1
  clear h1
  unfold maxLen at le1
  have Ia2 := Lib.hid h2
  have Hn2 := Lib.hid h2.len
  clear h2
  unfold maxLen at le20 le21 le22
  obtain ⟨wa, hwa⟩ : ∃ wa, wa = (w.alloc (.cells #[.slice A20 n20 c20, .slice A21 n21 c21, .slice A22 n22 c22] 47)) := ⟨_, rfl⟩
  have LW := Lib.hid (show Below w.heap.size w wa by rw [hwa]; exact (Below.refl _ _).alloc (Nat.le_refl _) _)
  have HX2 := Lib.hid (show Box3 wa (w.heap.size) (.slice A20 n20 c20) (.slice A21 n21 c21) (.slice A22 n22 c22) by rw [hwa]; exact Box3.made _ _ _ _ _)
  have GL2 := Lib.hid (show w.heap.size < wa.heap.size by rw [hwa]; simp)
  have LB2 := Lib.hid (Below.refl wa.heap.size wa)
  have HWA := Lib.hid hwa
  clear hwa
  by_cases hs0 : (n0) ≤ 1048576
  rotate_left
  · go_enter Try.func5, Try.ntmps5
    go_wp2_with fail
    rw [← HWA.out]
    refine (szNodeS_any _ _ _ _ _ le0 (by omega) (by omega)).mono ?_
    rintro e w' ⟨rfl, rfl⟩
    rw [if_neg (by omega)]
    go_wp2
    go_ret
    exact ⟨rfl, LW.out⟩
  by_cases hs1 : (n0) + (n1) ≤ 1048576
  rotate_left
  · go_enter Try.func5, Try.ntmps5
    go_wp2_with fail
    rw [← HWA.out]
    refine (szNodeS_any _ _ _ _ _ le0 (by omega) (by omega)).mono ?_
    rintro e w' ⟨rfl, rfl⟩
    rw [if_pos (by omega)]
    go_wp2_with fail
    refine (szNodeS_any _ _ _ _ _ le1 (by omega) (by omega)).mono ?_
    rintro e w' ⟨rfl, rfl⟩
    rw [if_neg (by omega)]
    go_wp2
    go_ret
    exact ⟨rfl, LW.out⟩
  by_cases hs2 : (n0) + (n1) + (n20 + n21 + n22) ≤ 1048576
  rotate_left
  · go_enter Try.func5, Try.ntmps5
    go_wp2_with fail
    rw [← HWA.out]
    refine (szNodeS_any _ _ _ _ _ le0 (by omega) (by omega)).mono ?_
    rintro e w' ⟨rfl, rfl⟩
    rw [if_pos (by omega)]
    go_wp2_with fail
    refine (szNodeS_any _ _ _ _ _ le1 (by omega) (by omega)).mono ?_
    rintro e w' ⟨rfl, rfl⟩
    rw [if_pos (by omega)]
    obtain ⟨g20, g21, g22⟩ := HX2.out.below LB2.out GL2.out
    go_wp2_with fail
    clear g20 g21 g22
    refine (szCost_any _ _ _ _ _ _ _ _ _ _ _ (by omega) (by omega) (by omega) (by omega) (by omega)).mono ?_
    rintro e w1 ⟨rfl, hb⟩
    have LB2 := Lib.hid (LB2.out.trans (hb.mono LB2.out.size))
    have LW := Lib.hid (LW.out.trans (hb.mono LW.out.size))
    clear hb
    rw [if_neg (by omega)]
    go_wp2
    go_ret
    exact ⟨rfl, LW.out⟩
  have hn0 : n0 ≤ 1048576 := by omega
  have hn1 : n1 ≤ 1048576 := by omega
  have hn20 : n20 ≤ 1048576 := by omega
  have hn21 : n21 ≤ 1048576 := by omega
  have hn22 : n22 ≤ 1048576 := by omega
  have La0 := Lib.hid LW.out
  have La1 := Lib.hid LW.out
  have La2 := Lib.hid LW.out
  go_enter Try.func5, Try.ntmps5
  go_wp2_with fail
  rw [← HWA.out]
  refine (szNodeS_any _ _ _ _ _ le0 (by omega) (by omega)).mono ?_
  rintro e w' ⟨rfl, rfl⟩
  rw [if_pos (by omega)]
  go_wp2_with fail
  refine (szNodeS_any _ _ _ _ _ le1 (by omega) (by omega)).mono ?_
  rintro e w' ⟨rfl, rfl⟩
  rw [if_pos (by omega)]
  obtain ⟨g20, g21, g22⟩ := HX2.out.below LB2.out GL2.out
  go_wp2_with fail
  clear g20 g21 g22
  refine (szCost_any _ _ _ _ _ _ _ _ _ _ _ (by omega) (by omega) (by omega) (by omega) (by omega)).mono ?_
  rintro e w1 ⟨rfl, hb⟩
  have La0 := Lib.hid (La0.out.trans (hb.mono La0.out.size))
  have La1 := Lib.hid (La1.out.trans (hb.mono La1.out.size))
  have La2 := Lib.hid (La2.out.trans (hb.mono La2.out.size))
  have LB2 := Lib.hid (LB2.out.trans (hb.mono LB2.out.size))
  have LW := Lib.hid (LW.out.trans (hb.mono LW.out.size))
  clear hb
  rw [if_pos (by omega)]
  obtain ⟨g20, g21, g22⟩ := HX2.out.below LB2.out GL2.out
  obtain ⟨g20, g21, g22⟩ := HX2.out.below LB2.out GL2.out
  go_wp2_with fail
  have S0 := Lib.hid (show w1.drew.cell? ⟨w.heap.size, 0, none⟩ = some (.slice A20 n20 c20) ∧ w1.drew.cell? ⟨w.heap.size, 1, none⟩ = some (.slice A21 n21 c21) ∧ w1.drew.cell? ⟨w.heap.size, 2, none⟩ = some (.slice A22 n22 c22) ∧ w1.drew.cell? ⟨w.heap.size, 0, none⟩ = some (.slice A20 n20 c20) ∧ w1.drew.cell? ⟨w.heap.size, 1, none⟩ = some (.slice A21 n21 c21) ∧ w1.drew.cell? ⟨w.heap.size, 2, none⟩ = some (.slice A22 n22 c22) ∧ SixG w1 (w.heap.size) (w.heap.size) w1.drew from ⟨g20, g21, g22, g20, g21, g22, (Below.refl _ _).drew, Nat.lt_of_lt_of_le GL2.out LB2.out.size, Nat.lt_of_lt_of_le GL2.out LB2.out.size⟩)
  clear g20 g21 g22
  clear g20 g21 g22
  go_region_held3 (fun wq => wq.cell? ⟨w.heap.size, 0, none⟩ = some (.slice A20 n20 c20) ∧ wq.cell? ⟨w.heap.size, 1, none⟩ = some (.slice A21 n21 c21) ∧ wq.cell? ⟨w.heap.size, 2, none⟩ = some (.slice A22 n22 c22) ∧ wq.cell? ⟨w.heap.size, 0, none⟩ = some (.slice A20 n20 c20) ∧ wq.cell? ⟨w.heap.size, 1, none⟩ = some (.slice A21 n21 c21) ∧ wq.cell? ⟨w.heap.size, 2, none⟩ = some (.slice A22 n22 c22) ∧ SixG w1 (w.heap.size) (w.heap.size) wq) (first | exact S0.out | (refine six_keep ?_ hb; assumption)) (first | (go_at_call 18; (fail_if_success (have := ts0)); refine (toNodeS_any _ _ _ x0 _ (Ia0.out.to_below (La0.out.trans ((six_below (by assumption)).mono La0.out.size))) hn0).mono ?_; rintro e w2 ⟨rfl, ho, hb⟩; have ts0 := True.intro; have Is0 := Lib.hid (NdIn.of_own ho); clear ho) | (go_at_call 18; (fail_if_success (have := ts1)); refine (toNodeS_any _ _ _ x1 _ (Ia1.out.to_below (La1.out.trans ((six_below (by assumption)).mono La1.out.size))) hn1).mono ?_; rintro e w3 ⟨rfl, ho, hb⟩; have ts1 := True.intro; have Is0 := Lib.hid (Is0.out.to_below hb); have Is1 := Lib.hid (NdIn.of_own ho); clear ho) | (go_at_call 26; refine (toCost_any _ _ _ _ _ _ _ _ _ x2 _ (Ia2.out.to_below (La2.out.trans ((six_below (by assumption)).mono La2.out.size))) hn20 hn21 hn22).mono ?_; rintro e w4 ⟨As0, As1, As2, cs0, cs1, cs2, rfl, o0, o1, o2, _, _, _, hb⟩; have Is0 := Lib.hid (Is0.out.to_below hb); have Is1 := Lib.hid (Is1.out.to_below hb); have Is2 := Lib.hid (show CoIn w4 w4.heap.size As0 As1 As2 x2.d.length x2.i.length x2.r.length x2 from ⟨IntIn.of_own o0, IntIn.of_own o1, IntIn.of_own o2⟩); clear o0 o1 o2) | (go_at_call 25; refine (specLeastCost_any (c := _) (c' := _) (c0 := _) (c1 := _) (c2 := _) (ha := Is0.out) (hb := Is1.out) (hk := Is2.out) (hn := hn0) (hn' := hn1) (h0 := (by rw [Hn2.out.1]; exact hn20)) (h1 := (by rw [Hn2.out.2.1]; exact hn21)) (h2 := (by rw [Hn2.out.2.2]; exact hn22))).mono ?_; rintro e w5 ⟨rfl, hb⟩))
  have hb := Lib.hid (show SixG w1 (w.heap.size) (w.heap.size) w5 by (first | (rename_i q; exact q.2.2.2.2.2.2) | (rename_i q _; exact q.2.2.2.2.2.2)))
  have hb := hb.out.1
  clear S0
  have La0 := Lib.hid (La0.out.trans (hb.mono La0.out.size))
  have La1 := Lib.hid (La1.out.trans (hb.mono La1.out.size))
  have La2 := Lib.hid (La2.out.trans (hb.mono La2.out.size))
  have LB2 := Lib.hid (LB2.out.trans (hb.mono LB2.out.size))
  have LW := Lib.hid (LW.out.trans (hb.mono LW.out.size))
  clear hb
  clear Is2 Is0 Is1 ts0 ts1
  go_wp2_with fail
  refine (toNodeS_any _ _ _ x0 _ (Ia0.out.to_below La0.out) hn0).mono ?_
  rintro e w6 ⟨rfl, ho, hb⟩
  have La0 := Lib.hid (La0.out.trans (hb.mono La0.out.size))
  have La1 := Lib.hid (La1.out.trans (hb.mono La1.out.size))
  have La2 := Lib.hid (La2.out.trans (hb.mono La2.out.size))
  have LB2 := Lib.hid (LB2.out.trans (hb.mono LB2.out.size))
  have LW := Lib.hid (LW.out.trans (hb.mono LW.out.size))
  clear hb
  have Ix0 := Lib.hid (NdIn.of_own ho)
  have Lx0 := Lib.hid (Below.refl w6.heap.size w6)
  clear ho
  go_wp2_with fail
  refine (toNodeS_any _ _ _ x1 _ (Ia1.out.to_below La1.out) hn1).mono ?_
  rintro e w7 ⟨rfl, ho, hb⟩
  have La0 := Lib.hid (La0.out.trans (hb.mono La0.out.size))
  have La1 := Lib.hid (La1.out.trans (hb.mono La1.out.size))
  have La2 := Lib.hid (La2.out.trans (hb.mono La2.out.size))
  have Lx0 := Lib.hid (Lx0.out.trans (hb.mono Lx0.out.size))
  have LB2 := Lib.hid (LB2.out.trans (hb.mono LB2.out.size))
  have LW := Lib.hid (LW.out.trans (hb.mono LW.out.size))
  clear hb
  have Ix1 := Lib.hid (NdIn.of_own ho)
  have Lx1 := Lib.hid (Below.refl w7.heap.size w7)
  clear ho
  obtain ⟨g20, g21, g22⟩ := HX2.out.below LB2.out GL2.out
  go_wp2_with fail
  clear g20 g21 g22
  refine (toCost_any _ _ _ _ _ _ _ _ _ x2 _ (Ia2.out.to_below La2.out) hn20 hn21 hn22).mono ?_
  rintro e w8 ⟨Ax20, Ax21, Ax22, cx20, cx21, cx22, rfl, o0, o1, o2, _, _, _, hb⟩
  have La0 := Lib.hid (La0.out.trans (hb.mono La0.out.size))
  have La1 := Lib.hid (La1.out.trans (hb.mono La1.out.size))
  have La2 := Lib.hid (La2.out.trans (hb.mono La2.out.size))
  have Lx0 := Lib.hid (Lx0.out.trans (hb.mono Lx0.out.size))
  have Lx1 := Lib.hid (Lx1.out.trans (hb.mono Lx1.out.size))
  have LB2 := Lib.hid (LB2.out.trans (hb.mono LB2.out.size))
  have LW := Lib.hid (LW.out.trans (hb.mono LW.out.size))
  clear hb
  have Ix2 := Lib.hid (show CoIn w8 w8.heap.size Ax20 Ax21 Ax22 x2.d.length x2.i.length x2.r.length x2 from ⟨IntIn.of_own o0, IntIn.of_own o1, IntIn.of_own o2⟩)
  have Lx2 := Lib.hid (Below.refl w8.heap.size w8)
  clear o0 o1 o2
  obtain ⟨w9, hw⟩ : ∃ wb, wb = w8.alloc (.cells #[.slice Ax20 x2.d.length cx20, .slice Ax21 x2.i.length cx21, .slice Ax22 x2.r.length cx22] 27) := ⟨_, rfl⟩
  have hb : Below w8.heap.size w8 w9 := by rw [hw]; exact (Below.refl _ _).alloc (Nat.le_refl _) _
  have La0 := Lib.hid (La0.out.trans (hb.mono La0.out.size))
  have La1 := Lib.hid (La1.out.trans (hb.mono La1.out.size))
  have La2 := Lib.hid (La2.out.trans (hb.mono La2.out.size))
  have Lx0 := Lib.hid (Lx0.out.trans (hb.mono Lx0.out.size))
  have Lx1 := Lib.hid (Lx1.out.trans (hb.mono Lx1.out.size))
  have Lx2 := Lib.hid (Lx2.out.trans (hb.mono Lx2.out.size))
  have LB2 := Lib.hid (LB2.out.trans (hb.mono LB2.out.size))
  have LW := Lib.hid (LW.out.trans (hb.mono LW.out.size))
  clear hb
  have HXx2 := Lib.hid (show Box3 w9 w8.heap.size (.slice Ax20 x2.d.length cx20) (.slice Ax21 x2.i.length cx21) (.slice Ax22 x2.r.length cx22) by rw [hw]; exact Box3.made _ _ _ _ _)
  have GLx2 := Lib.hid (show w8.heap.size < w9.heap.size by rw [hw]; simp)
  have LBx2 := Lib.hid (Below.refl w9.heap.size w9)
  have HW := Lib.hid hw
  clear hw
  obtain ⟨gx20, gx21, gx22⟩ := HXx2.out.below LBx2.out GLx2.out
  rw [HW.out] at gx20 gx21 gx22
  go_wp2_with fail
  clear gx20 gx21 gx22
  rw [← HW.out]
  clear HW
  refine (implLeastCost_any (c := _) (c' := _) (c0 := _) (c1 := _) (c2 := _) (ha := (Ix0.out.to_below Lx0.out)) (hb := (Ix1.out.to_below Lx1.out)) (hk := (Ix2.out.to_below Lx2.out)) (hn := hn0) (hn' := hn1) (h0 := (by rw [Hn2.out.1]; exact hn20)) (h1 := (by rw [Hn2.out.2.1]; exact hn21)) (h2 := (by rw [Hn2.out.2.2]; exact hn22)) (hc := Nat.le_refl _) (hc' := Nat.le_refl _)).mono ?_
  rintro e w10 ⟨rfl, hb⟩
  have La0 := Lib.hid (La0.out.trans (hb.mono La0.out.size))
  have La1 := Lib.hid (La1.out.trans (hb.mono La1.out.size))
  have La2 := Lib.hid (La2.out.trans (hb.mono La2.out.size))
  have Lx0 := Lib.hid (Lx0.out.trans (hb.mono Lx0.out.size))
  have Lx1 := Lib.hid (Lx1.out.trans (hb.mono Lx1.out.size))
  have Lx2 := Lib.hid (Lx2.out.trans (hb.mono Lx2.out.size))
  have LB2 := Lib.hid (LB2.out.trans (hb.mono LB2.out.size))
  have LBx2 := Lib.hid (LBx2.out.trans (hb.mono LBx2.out.size))
  have LW := Lib.hid (LW.out.trans (hb.mono LW.out.size))
  clear hb
  go_wp2_with fail
  refine (toNodeS_any _ _ _ x0 _ (Ia0.out.to_below La0.out) hn0).mono ?_
  rintro e w11 ⟨rfl, ho, hb⟩
  have La0 := Lib.hid (La0.out.trans (hb.mono La0.out.size))
  have La1 := Lib.hid (La1.out.trans (hb.mono La1.out.size))
  have La2 := Lib.hid (La2.out.trans (hb.mono La2.out.size))
  have Lx0 := Lib.hid (Lx0.out.trans (hb.mono Lx0.out.size))
  have Lx1 := Lib.hid (Lx1.out.trans (hb.mono Lx1.out.size))
  have Lx2 := Lib.hid (Lx2.out.trans (hb.mono Lx2.out.size))
  have LB2 := Lib.hid (LB2.out.trans (hb.mono LB2.out.size))
  have LBx2 := Lib.hid (LBx2.out.trans (hb.mono LBx2.out.size))
  have LW := Lib.hid (LW.out.trans (hb.mono LW.out.size))
  clear hb
  have Iy0 := Lib.hid (NdIn.of_own ho)
  have Ly0 := Lib.hid (Below.refl w11.heap.size w11)
  clear ho
  go_wp2_with fail
  refine (eqNodeS_any _ _ _ _ _ _ x0 x0 _ (Ix0.out.to_below Lx0.out) (Iy0.out.to_below Ly0.out) hn0 hn0).mono ?_
  rintro e w12 ⟨rfl, hb⟩
  have La0 := Lib.hid (La0.out.trans (hb.mono La0.out.size))
  have La1 := Lib.hid (La1.out.trans (hb.mono La1.out.size))
  have La2 := Lib.hid (La2.out.trans (hb.mono La2.out.size))
  have Lx0 := Lib.hid (Lx0.out.trans (hb.mono Lx0.out.size))
  have Lx1 := Lib.hid (Lx1.out.trans (hb.mono Lx1.out.size))
  have Lx2 := Lib.hid (Lx2.out.trans (hb.mono Lx2.out.size))
  have Ly0 := Lib.hid (Ly0.out.trans (hb.mono Ly0.out.size))
  have LB2 := Lib.hid (LB2.out.trans (hb.mono LB2.out.size))
  have LBx2 := Lib.hid (LBx2.out.trans (hb.mono LBx2.out.size))
  have LW := Lib.hid (LW.out.trans (hb.mono LW.out.size))
  clear hb
  go_wp2_with fail
  refine (toNodeS_any _ _ _ x1 _ (Ia1.out.to_below La1.out) hn1).mono ?_
  rintro e w13 ⟨rfl, ho, hb⟩
  have La0 := Lib.hid (La0.out.trans (hb.mono La0.out.size))
  have La1 := Lib.hid (La1.out.trans (hb.mono La1.out.size))
  have La2 := Lib.hid (La2.out.trans (hb.mono La2.out.size))
  have Lx0 := Lib.hid (Lx0.out.trans (hb.mono Lx0.out.size))
  have Lx1 := Lib.hid (Lx1.out.trans (hb.mono Lx1.out.size))
  have Lx2 := Lib.hid (Lx2.out.trans (hb.mono Lx2.out.size))
  have LB2 := Lib.hid (LB2.out.trans (hb.mono LB2.out.size))
  have LBx2 := Lib.hid (LBx2.out.trans (hb.mono LBx2.out.size))
  have LW := Lib.hid (LW.out.trans (hb.mono LW.out.size))
  clear hb
  have Iy1 := Lib.hid (NdIn.of_own ho)
  have Ly1 := Lib.hid (Below.refl w13.heap.size w13)
  clear ho
  go_wp2_with fail
  refine (eqNodeS_any _ _ _ _ _ _ x1 x1 _ (Ix1.out.to_below Lx1.out) (Iy1.out.to_below Ly1.out) hn1 hn1).mono ?_
  rintro e w14 ⟨rfl, hb⟩
  have La0 := Lib.hid (La0.out.trans (hb.mono La0.out.size))
  have La1 := Lib.hid (La1.out.trans (hb.mono La1.out.size))
  have La2 := Lib.hid (La2.out.trans (hb.mono La2.out.size))
  have Lx0 := Lib.hid (Lx0.out.trans (hb.mono Lx0.out.size))
  have Lx1 := Lib.hid (Lx1.out.trans (hb.mono Lx1.out.size))
  have Lx2 := Lib.hid (Lx2.out.trans (hb.mono Lx2.out.size))
  have Ly1 := Lib.hid (Ly1.out.trans (hb.mono Ly1.out.size))
  have LB2 := Lib.hid (LB2.out.trans (hb.mono LB2.out.size))
  have LBx2 := Lib.hid (LBx2.out.trans (hb.mono LBx2.out.size))
  have LW := Lib.hid (LW.out.trans (hb.mono LW.out.size))
  clear hb
  obtain ⟨gx20, gx21, gx22⟩ := HXx2.out.below LBx2.out GLx2.out
  obtain ⟨g20, g21, g22⟩ := HX2.out.below LB2.out GL2.out
  go_wp2_with fail
  have S0 := Lib.hid (show w14.drew.cell? ⟨w8.heap.size, 0, none⟩ = some (.slice Ax20 x2.d.length cx20) ∧ w14.drew.cell? ⟨w8.heap.size, 1, none⟩ = some (.slice Ax21 x2.i.length cx21) ∧ w14.drew.cell? ⟨w8.heap.size, 2, none⟩ = some (.slice Ax22 x2.r.length cx22) ∧ w14.drew.cell? ⟨w.heap.size, 0, none⟩ = some (.slice A20 n20 c20) ∧ w14.drew.cell? ⟨w.heap.size, 1, none⟩ = some (.slice A21 n21 c21) ∧ w14.drew.cell? ⟨w.heap.size, 2, none⟩ = some (.slice A22 n22 c22) ∧ SixG w14 (w8.heap.size) (w.heap.size) w14.drew from ⟨gx20, gx21, gx22, g20, g21, g22, (Below.refl _ _).drew, Nat.lt_of_lt_of_le GLx2.out LBx2.out.size, Nat.lt_of_lt_of_le GL2.out LB2.out.size⟩)
  clear gx20 gx21 gx22
  clear g20 g21 g22
  go_region_held3 (fun wq => wq.cell? ⟨w8.heap.size, 0, none⟩ = some (.slice Ax20 x2.d.length cx20) ∧ wq.cell? ⟨w8.heap.size, 1, none⟩ = some (.slice Ax21 x2.i.length cx21) ∧ wq.cell? ⟨w8.heap.size, 2, none⟩ = some (.slice Ax22 x2.r.length cx22) ∧ wq.cell? ⟨w.heap.size, 0, none⟩ = some (.slice A20 n20 c20) ∧ wq.cell? ⟨w.heap.size, 1, none⟩ = some (.slice A21 n21 c21) ∧ wq.cell? ⟨w.heap.size, 2, none⟩ = some (.slice A22 n22 c22) ∧ SixG w14 (w8.heap.size) (w.heap.size) wq) (first | exact S0.out | (refine six_keep ?_ hb; assumption)) (first | (go_at_call 26; refine (toCost_any _ _ _ _ _ _ _ _ _ x2 _ (Ia2.out.to_below (La2.out.trans ((six_below (by assumption)).mono La2.out.size))) hn20 hn21 hn22).mono ?_; rintro e w15 ⟨Ay20, Ay21, Ay22, cy20, cy21, cy22, rfl, o0, o1, o2, _, _, _, hb⟩) | (go_at_call 27; refine (eqCost_any _ _ _ _ _ _ _ _ _ x2 _ _ _ _ _ _ _ _ _ x2 _ (Ix2.out.to_below (Lx2.out.trans ((six_below (by assumption)).mono Lx2.out.size))) ⟨IntIn.of_own o0, IntIn.of_own o1, IntIn.of_own o2⟩ (by rw [Hn2.out.1]; exact hn20) (by rw [Hn2.out.2.1]; exact hn21) (by rw [Hn2.out.2.2]; exact hn22) (by rw [Hn2.out.1]; exact hn20) (by rw [Hn2.out.2.1]; exact hn21) (by rw [Hn2.out.2.2]; exact hn22)).mono ?_; rintro e w16 ⟨rfl, hb⟩; rw [Co.same_self]))
  have hb := Lib.hid (show SixG w14 (w8.heap.size) (w.heap.size) w16 by (first | (rename_i q; exact q.2.2.2.2.2.2) | (rename_i q _; exact q.2.2.2.2.2.2)))
  have hb := hb.out.1
  clear S0
  have La0 := Lib.hid (La0.out.trans (hb.mono La0.out.size))
  have La1 := Lib.hid (La1.out.trans (hb.mono La1.out.size))
  have La2 := Lib.hid (La2.out.trans (hb.mono La2.out.size))
  have Lx0 := Lib.hid (Lx0.out.trans (hb.mono Lx0.out.size))
  have Lx1 := Lib.hid (Lx1.out.trans (hb.mono Lx1.out.size))
  have Lx2 := Lib.hid (Lx2.out.trans (hb.mono Lx2.out.size))
  have LB2 := Lib.hid (LB2.out.trans (hb.mono LB2.out.size))
  have LBx2 := Lib.hid (LBx2.out.trans (hb.mono LBx2.out.size))
  have LW := Lib.hid (LW.out.trans (hb.mono LW.out.size))
  clear hb
  go_wp2
  go_ret
  exact ⟨rfl, LW.out⟩

end Go.Proofs.Ytnfjdlocmdgefaa

/- An argument []Node, opened: it reads as a list of nodes. -/
namespace Go.Proofs.Ytnfjdlocmdgefaa
open Go.RowKit Go.ChangeShapes Go.WideShapes Go.Deep
set_option linter.unusedVariables false

theorem open_nodes {H : Type} {enc : TypeId × Value → H} {P : Program} {w : World} {base : Nat} {spare : Nat → Bool} {held : Bool} {t e : TypeId} {f0 f1 : Field} {fuel : Nat} {a : Option Addr} {len cap : Nat} {x : DataW H × List MemPlace}
    (ht : P.underlying t = some (.slice e)) (he : P.underlying e = some (.struct #[f0, f1]))
    (ce : P.cellsOf e = 2) (o0 : f0.offset = 0) (o1 : f1.offset = 1) (c0 : P.cellsOf f0.type = 1) (c1 : P.cellsOf f1.type = 1)
    (k0 : P.underlying f0.type = some (.int .i64)) (k1 : P.underlying f1.type = some (.int .i64))
    (h : DataW.trod enc P w base spare held fuel t [.slice a len cap] = some x) : ∃ xs : Tr, NdIn w w.heap.size a len xs ∧ Tr.wf xs ∧ len ≤ maxLen := by
  have hnil : Tr.wf [] := fun k => by simp [Tr.l, Tr.d]
  rcases open_slice_pairs ht he ce o0 o1 c0 c1 h with ⟨hcs, _⟩ | ⟨ad, l, c, m, n, V0, V1, D0, D1, P0, P1, hcs, _, hl, hm, hmm, _, hi⟩
  · simp at hcs
    obtain ⟨rfl, rfl, rfl⟩ := hcs
    exact ⟨[], ⟨rfl, fun h => absurd h (by omega), fun ad e => by cases e⟩, hnil, by simp [maxLen]⟩
  · simp at hcs
    obtain ⟨rfl, rfl, rfl⟩ := hcs
    have hlm : len ≤ m := by rw [hmm]; split <;> omega
    have each : ∀ i, i < len → ∃ q : Int × Int, w.cell? (ad.add (i * 2)) = some (.int .i64 q.1) ∧ w.cell? (ad.add (i * 2 + 1)) = some (.int .i64 q.2) ∧ (Lit.int .i64 q.1).wf = true ∧ (Lit.int .i64 q.2).wf = true := by
      intro i hil
      obtain ⟨h1, h2, h3, h4⟩ := hi i (by omega)
      obtain ⟨z0, e0, _, w0⟩ := DataW.trod_int k0 h3
      obtain ⟨z1, e1, _, w1⟩ := DataW.trod_int k1 h4
      simp at e0 e1
      exact ⟨(z0, z1), by rw [h1, e0], by rw [h2, e1], w0, w1⟩
    obtain ⟨q, hq⟩ := choose_lt each
    have hget (k : Nat) (hk : k < len) : ((List.range len).map q).getD k (0, 0) = q k := by simp [List.getD_eq_getElem?_getD, hk]
    refine ⟨(List.range len).map q, ⟨by simp, fun hn => ⟨ad, rfl, ?_⟩, fun ad' e k hk => ?_⟩, fun k => ?_, by omega⟩
    · have := World.block_lt_of_cell? w _ (hq 0 hn).1
      rwa [block_of_add] at this
    · obtain rfl : ad = ad' := by injection e
      simp only [Tr.l, Tr.d, hget k hk]
      exact ⟨(hq k hk).1, (hq k hk).2.1⟩
    · by_cases hk : k < len
      · simp only [Tr.l, Tr.d, hget k hk]
        exact ⟨Kit.wf_le (hq k hk).2.2.1, Kit.wf_le (hq k hk).2.2.2⟩
      · simp [Tr.l, Tr.d, List.getD_eq_getElem?_getD, hk]

end Go.Proofs.Ytnfjdlocmdgefaa

/- Contracts (CoOpen). -/
namespace Go.Proofs.Ytnfjdlocmdgefaa
open Go.RowKit
set_option linter.unusedVariables false

open Go.ChangeShapes Go.WideShapes Go.Deep Go.Joins
theorem open_introw {H : Type} {enc : TypeId × Value → H} {P : Program} {w : World} {base : Nat} {spare : Nat → Bool} {held : Bool} {t e : TypeId} {fuel : Nat} {v : Value} {x : DataW H × List MemPlace}
    (ht : P.underlying t = some (.slice e)) (he : P.underlying e = some (.int .i64)) (hc : P.cellsOf e = 1)
    (h : DataW.trod enc P w base spare held fuel t [v] = some x) : ∃ (A : Option Addr) (n c : Nat) (zs : List Int), v = .slice A n c ∧ IntIn w w.heap.size A n zs ∧ n ≤ maxLen := by
  rcases open_ints ht he hc h with ⟨hcs, _⟩ | ⟨a, l, c, zs, hcs, _, hl, hm, hz, _, hcell, hwz⟩
  · simp at hcs
    subst hcs
    exact ⟨none, 0, 0, [], rfl, ⟨rfl, fun h => absurd h (by omega), fun ad e => by cases e⟩, by simp [maxLen]⟩
  · simp at hcs
    subst hcs
    have hlz : l ≤ zs.length := by rw [hz]; split <;> omega
    refine ⟨some a, l, c, zs.take l, rfl, ⟨by simp; omega, fun hn => ⟨a, rfl, ?_⟩, fun ad e k hk => ?_⟩, by omega⟩
    · have := World.block_lt_of_cell? w _ (hcell 0 (by omega))
      rwa [block_of_add] at this
    · obtain rfl : a = ad := by injection e
      rw [hcell k (by omega)]
      simp [Zs.at, List.getD_eq_getElem?_getD, hk]
theorem open_cost {H : Type} {enc : TypeId × Value → H} {P : Program} {w : World} {base b0 : Nat} {r : Reach} {spare : Nat → Bool} {held : Bool} {t e : TypeId} {f0 f1 f2 : Field} {v : Value} {d : DataW H} {p : List MemPlace}
    (hs : P.underlying t = some (.struct #[f0, f1, f2])) (hone : oneCellFields P #[f0, f1, f2] = true) (hC : P.cellsOf t = 3)
    (t0 : P.underlying f0.type = some (.slice e)) (t1 : P.underlying f1.type = some (.slice e)) (t2 : P.underlying f2.type = some (.slice e)) (he : P.underlying e = some (.int .i64)) (hc : P.cellsOf e = 1)
    (hv : Value.okWide P w r b0 t v) (h : DataW.Trod enc P w base spare held t v d p) :
    ∃ (A0 A1 A2 : Option Addr) (n0 n1 n2 c0 c1 c2 : Nat) (k : Co), v = .agg #[.slice A0 n0 c0, .slice A1 n1 c1, .slice A2 n2 c2] ∧ CoIn w w.heap.size A0 A1 A2 n0 n1 n2 k ∧ n0 ≤ maxLen ∧ n1 ≤ maxLen ∧ n2 ≤ maxLen := by
  obtain ⟨v0, v1, v2, y0, y1, y2, n, rfl, _, _, k0, k1, k2⟩ := open_agg3 hs hone hC hv h
  obtain ⟨A0, n0, c0, z0, rfl, i0, l0⟩ := open_introw t0 he hc k0
  obtain ⟨A1, n1, c1, z1, rfl, i1, l1⟩ := open_introw t1 he hc k1
  obtain ⟨A2, n2, c2, z2, rfl, i2, l2⟩ := open_introw t2 he hc k2
  exact ⟨A0, A1, A2, n0, n1, n2, c0, c1, c2, ⟨z0, z1, z2⟩, rfl, ⟨i0, i1, i2⟩, l0, l1, l2⟩

end Go.Proofs.Ytnfjdlocmdgefaa
