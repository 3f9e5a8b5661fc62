/- Contracts (SameCS). -/
import Derived.Test.YtpdpkcadolcbmaaL7Sm
import Derived.Test.YtpdpkcadolcbmaaCo
import Derived.Test.YtpdpkcadolcbmaaBoxC
namespace Go.Proofs.Ytpdpkcadolcbmaa
open Go.RowKit
set_option linter.unusedVariables false

def Co.same (a b : Co) : Bool := decide (a.d = b.d) && decide (a.i = b.i) && decide (a.r = b.r)
set_option maxHeartbeats 1600000 in
set_option maxRecDepth 100000 in
theorem specSameCost_any (A0 A1 A2 B0 B1 B2 : Option Addr) (n0 n1 n2 c0 c1 c2 m0 m1 m2 d0 d1 d2 : Nat) (k l : Co) (w : World) (h : CoIn w w.heap.size A0 A1 A2 n0 n1 n2 k) (h' : CoIn w w.heap.size B0 B1 B2 m0 m1 m2 l)
    (h0 : n0 ≤ 1048576) (h1 : n1 ≤ 1048576) (h2 : n2 ≤ 1048576) (l0 : m0 ≤ 1048576) (l1 : m1 ≤ 1048576) (l2 : m2 ≤ 1048576) :
    Calls Try.prog 30 #[.agg #[.slice A0 n0 c0, .slice A1 n1 c1, .slice A2 n2 c2], .agg #[.slice B0 m0 d0, .slice B1 m1 d1, .slice B2 m2 d2]] w fun e w' => e = .returned (.bool (Co.same k l)) ∧ Below w.heap.size w w' := by
  have H := Lib.hid h
  have H' := Lib.hid h'
  clear h h'
  obtain ⟨o1, ho1⟩ : ∃ o, o = Obj.cells #[.slice A0 n0 c0, .slice A1 n1 c1, .slice A2 n2 c2] 26 := ⟨_, rfl⟩
  obtain ⟨o2, ho2⟩ : ∃ o, o = Obj.cells #[.slice B0 m0 d0, .slice B1 m1 d1, .slice B2 m2 d2] 26 := ⟨_, rfl⟩
  have hba := (Below.refl w.heap.size w).alloc (Nat.le_refl _) o1
  have HB := Lib.hid (hba.alloc hba.size o2)
  have hlt : w.heap.size < (w.alloc o1).heap.size := by simp
  have GA := Lib.hid ((show Box3 (w.alloc o1) w.heap.size (.slice A0 n0 c0) (.slice A1 n1 c1) (.slice A2 n2 c2) by rw [ho1]; exact Box3.made _ _ _ _ _).alloc hlt o2)
  have GB := Lib.hid (show Box3 ((w.alloc o1).alloc o2) (w.alloc o1).heap.size (.slice B0 m0 d0) (.slice B1 m1 d1) (.slice B2 m2 d2) by rw [ho2]; exact Box3.made _ _ _ _ _)
  have hs1 : (w.alloc o1).heap.size = w.heap.size + 1 := by simp
  rw [hs1] at GB
  clear hba hlt hs1
  subst ho1
  subst ho2
  have HA := Lib.hid (H.out.to_below HB.out)
  have HA' := Lib.hid (H'.out.to_below HB.out)
  cases e0 : decide (k.d = l.d) with
  | false =>
    have Hf := Lib.hid (show Co.same k l = false by unfold Co.same; rw [e0]; rfl)
    have E0 := Lib.hid e0
    clear e0
    go_enter Try.func30, Try.ntmps30
    obtain ⟨g0, g1, g2⟩ := GA.out
    obtain ⟨g3, g4, g5⟩ := GB.out
    go_wp2_with fail
    clear g0 g1 g2 g3 g4 g5
    refine (l7Same_any _ _ _ _ _ _ k.d l.d _ HA.out.1 HA'.out.1 h0 l0).mono ?_
    rintro e w1 ⟨rfl, hd⟩
    have HB := Lib.hid (Drawn.below HB.out hd)
    have HA := Lib.hid (HA.out.to_drawn hd)
    have HA' := Lib.hid (HA'.out.to_drawn hd)
    have GA := Lib.hid (GA.out.drawn hd)
    have GB := Lib.hid (GB.out.drawn hd)
    clear hd
    rw [E0.out]
    go_wp2
    go_ret
    exact ⟨Kit.ret_bool Hf.out.symm, HB.out⟩
  | true =>
    cases e1 : decide (k.i = l.i) with
    | false =>
      have Hf := Lib.hid (show Co.same k l = false by unfold Co.same; rw [e0, e1]; rfl)
      have E0 := Lib.hid e0
      have E1 := Lib.hid e1
      clear e0 e1
      go_enter Try.func30, Try.ntmps30
      obtain ⟨g0, g1, g2⟩ := GA.out
      obtain ⟨g3, g4, g5⟩ := GB.out
      go_wp2_with fail
      clear g0 g1 g2 g3 g4 g5
      refine (l7Same_any _ _ _ _ _ _ k.d l.d _ HA.out.1 HA'.out.1 h0 l0).mono ?_
      rintro e w1 ⟨rfl, hd⟩
      have HB := Lib.hid (Drawn.below HB.out hd)
      have HA := Lib.hid (HA.out.to_drawn hd)
      have HA' := Lib.hid (HA'.out.to_drawn hd)
      have GA := Lib.hid (GA.out.drawn hd)
      have GB := Lib.hid (GB.out.drawn hd)
      clear hd
      rw [E0.out]
      obtain ⟨g0, g1, g2⟩ := GA.out
      obtain ⟨g3, g4, g5⟩ := GB.out
      go_wp2_with fail
      clear g0 g1 g2 g3 g4 g5
      refine (l7Same_any _ _ _ _ _ _ k.i l.i _ HA.out.2.1 HA'.out.2.1 h1 l1).mono ?_
      rintro e w2 ⟨rfl, hd⟩
      have HB := Lib.hid (Drawn.below HB.out hd)
      have HA := Lib.hid (HA.out.to_drawn hd)
      have HA' := Lib.hid (HA'.out.to_drawn hd)
      have GA := Lib.hid (GA.out.drawn hd)
      have GB := Lib.hid (GB.out.drawn hd)
      clear hd
      rw [E1.out]
      go_wp2
      go_ret
      exact ⟨Kit.ret_bool Hf.out.symm, HB.out⟩
    | true =>
      have Hf := Lib.hid (show Co.same k l = decide (k.r = l.r) by unfold Co.same; rw [e0, e1]; rfl)
      have E0 := Lib.hid e0
      have E1 := Lib.hid e1
      have E2 := Lib.hid (show decide (k.r = l.r) = Co.same k l from Hf.out.symm)
      clear e0 e1
      go_enter Try.func30, Try.ntmps30
      obtain ⟨g0, g1, g2⟩ := GA.out
      obtain ⟨g3, g4, g5⟩ := GB.out
      go_wp2_with fail
      clear g0 g1 g2 g3 g4 g5
      refine (l7Same_any _ _ _ _ _ _ k.d l.d _ HA.out.1 HA'.out.1 h0 l0).mono ?_
      rintro e w1 ⟨rfl, hd⟩
      have HB := Lib.hid (Drawn.below HB.out hd)
      have HA := Lib.hid (HA.out.to_drawn hd)
      have HA' := Lib.hid (HA'.out.to_drawn hd)
      have GA := Lib.hid (GA.out.drawn hd)
      have GB := Lib.hid (GB.out.drawn hd)
      clear hd
      rw [E0.out]
      obtain ⟨g0, g1, g2⟩ := GA.out
      obtain ⟨g3, g4, g5⟩ := GB.out
      go_wp2_with fail
      clear g0 g1 g2 g3 g4 g5
      refine (l7Same_any _ _ _ _ _ _ k.i l.i _ HA.out.2.1 HA'.out.2.1 h1 l1).mono ?_
      rintro e w2 ⟨rfl, hd⟩
      have HB := Lib.hid (Drawn.below HB.out hd)
      have HA := Lib.hid (HA.out.to_drawn hd)
      have HA' := Lib.hid (HA'.out.to_drawn hd)
      have GA := Lib.hid (GA.out.drawn hd)
      have GB := Lib.hid (GB.out.drawn hd)
      clear hd
      rw [E1.out]
      obtain ⟨g0, g1, g2⟩ := GA.out
      obtain ⟨g3, g4, g5⟩ := GB.out
      go_wp2_with fail
      clear g0 g1 g2 g3 g4 g5
      refine (l7Same_any _ _ _ _ _ _ k.r l.r _ HA.out.2.2 HA'.out.2.2 h2 l2).mono ?_
      rintro e w3 ⟨rfl, hd⟩
      have HB := Lib.hid (Drawn.below HB.out hd)
      have HA := Lib.hid (HA.out.to_drawn hd)
      have HA' := Lib.hid (HA'.out.to_drawn hd)
      have GA := Lib.hid (GA.out.drawn hd)
      have GB := Lib.hid (GB.out.drawn hd)
      clear hd
      rw [E2.out]
      go_wp2
      go_ret
      exact ⟨rfl, HB.out⟩

end Go.Proofs.Ytpdpkcadolcbmaa
