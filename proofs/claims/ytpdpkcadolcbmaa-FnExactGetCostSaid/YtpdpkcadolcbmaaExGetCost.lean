/- Contracts (ExGetCost). -/
import Derived.Test.YtpdpkcadolcbmaaGetCS
import Derived.Test.YtpdpkcadolcbmaaGetCI
import Derived.Test.YtpdpkcadolcbmaaHarC
import Derived.Test.YtpdpkcadolcbmaaCoX
namespace Go.Proofs.Ytpdpkcadolcbmaa
open Go.RowKit
set_option linter.unusedVariables false

/-- the answer is a cost of the call's own, three rows apart, and a Bool -/
def OwnCoT (K : Co) (bb : Bool) (w : World) (e : Ending) (w' : World) : Prop :=
  ∃ A0 A1 A2 c0 c1 c2, e = .returned (.tuple #[.agg #[.slice A0 K.d.length c0, .slice A1 K.i.length c1, .slice A2 K.r.length c2], .bool bb]) ∧
    w'.ownsRow w.heap.size 3 1 (.slice A0 K.d.length c0) K.d.length (ints K.d) ∧ w'.ownsRow w.heap.size 3 1 (.slice A1 K.i.length c1) K.i.length (ints K.i) ∧ w'.ownsRow w.heap.size 3 1 (.slice A2 K.r.length c2) K.r.length (ints K.r) ∧
    Apart (.slice A0 K.d.length c0) (.slice A1 K.i.length c1) ∧ Apart (.slice A0 K.d.length c0) (.slice A2 K.r.length c2) ∧ Apart (.slice A1 K.i.length c1) (.slice A2 K.r.length c2) ∧ Below w.heap.size w w'
theorem OwnCoB.flat {r : Co × Bool} {w w' : World} {e : Ending} (h : OwnCoB r w e w') : OwnCoT r.1 r.2 w e w' := by
  obtain ⟨A0, A1, A2, c0, c1, c2, h, ⟨o0, o1, o2, a, b, c⟩, hb⟩ := h
  exact ⟨A0, A1, A2, c0, c1, c2, h, o0, o1, o2, a, b, c, hb⟩
set_option maxHeartbeats 3200000 in
set_option maxRecDepth 100000 in
theorem exactGetCost_walk (s : ByteArray) (hs : s.size ≤ maxLen) (w : World) :
    Calls Try.prog 11 #[.string s] w fun e w' => e = .returned (.bool true) ∧ Below w.heap.size w w' := by
  by_cases hbig : 1048576 < s.size
  · have k0 : decide ((1048576 : Int) < (s.size : Int)) = true := by simp; omega
    go_enter Try.func11, Try.ntmps11
    go_wp2
    go_ret
    exact ⟨rfl, Below.refl _ _⟩
  have k0 : decide ((1048576 : Int) < (s.size : Int)) = false := by simp; omega
  obtain ⟨K, hK⟩ : ∃ K, K = (Co.get s).1 := ⟨_, rfl⟩
  obtain ⟨bb, hbb⟩ : ∃ b, b = (Co.get s).2 := ⟨_, rfl⟩
  have HN := Lib.hid (show K.d.length ≤ 1048576 ∧ K.i.length ≤ 1048576 ∧ K.r.length ≤ 1048576 by rw [hK]; have := Co.get_len s; omega)
  have HS := Lib.hid (show ∀ w, Calls Try.prog 34 #[.string s] w (OwnCoT K bb w) by rw [hK, hbb]; exact fun w => (specGetCost_any s hs w).mono fun e w' h => h.flat)
  have HI := Lib.hid (show ∀ w, Calls Try.prog 35 #[.string s] w (OwnCoT K bb w) by rw [hK, hbb]; exact fun w => (implGetCost_any s hs w).mono fun e w' h => h.flat)
  clear hK hbb
  have LW := Lib.hid (Below.refl w.heap.size w)
  go_enter Try.func11, Try.ntmps11
  go_wp2_with fail
  refine (HS.out _).mono ?_
  rintro e w1 ⟨Aw00, Aw01, Aw02, cw00, cw01, cw02, rfl, o0, o1, o2, a01, a02, a12, hb⟩
  have LW := Lib.hid (LW.out.trans (hb.mono LW.out.size))
  clear hb
  have Iw0 := Lib.hid (show CoIn w1 w1.heap.size Aw00 Aw01 Aw02 K.d.length K.i.length K.r.length K from ⟨IntIn.of_own o0, IntIn.of_own o1, IntIn.of_own o2⟩)
  have Lw0 := Lib.hid (Below.refl w1.heap.size w1)
  clear o0 o1 o2 a01 a02 a12
  obtain ⟨w2, hw⟩ : ∃ wb, wb = w1.alloc (.cells #[.slice Aw00 K.d.length cw00, .slice Aw01 K.i.length cw01, .slice Aw02 K.r.length cw02] 26) := ⟨_, rfl⟩
  have hb : Below w1.heap.size w1 w2 := by rw [hw]; exact (Below.refl _ _).alloc (Nat.le_refl _) _
  have Lw0 := Lib.hid (Lw0.out.trans (hb.mono Lw0.out.size))
  have LW := Lib.hid (LW.out.trans (hb.mono LW.out.size))
  clear hb
  have HXw0 := Lib.hid (show Box3 w2 w1.heap.size (.slice Aw00 K.d.length cw00) (.slice Aw01 K.i.length cw01) (.slice Aw02 K.r.length cw02) by rw [hw]; exact Box3.made _ _ _ _ _)
  have GLw0 := Lib.hid (show w1.heap.size < w2.heap.size by rw [hw]; simp)
  have LBw0 := Lib.hid (Below.refl w2.heap.size w2)
  have HW := Lib.hid hw
  clear hw
  go_wp2_with fail
  rw [← HW.out]
  clear HW
  have GLw := Lib.hid (show w1.heap.size < w2.heap.size from GLw0.out)
  have Mg0 := Lib.hid LW.out.size
  have Mg0_w0 := Lib.hid Lw0.out.size
  refine (HI.out _).mono ?_
  rintro e w3 ⟨Ag00, Ag01, Ag02, cg00, cg01, cg02, rfl, o0, o1, o2, a01, a02, a12, hb⟩
  have hsz := hb.size
  have Lw0 := Lib.hid (Lw0.out.trans (hb.mono Lw0.out.size))
  have LBw0 := Lib.hid (LBw0.out.trans (hb.mono LBw0.out.size))
  have LW := Lib.hid (LW.out.trans (hb.mono LW.out.size))
  clear hb
  have Og0 := Lib.hid (show OwnC w3 w2.heap.size Ag00 Ag01 Ag02 cg00 cg01 cg02 K from ⟨o0, o1, o2, a01, a02, a12⟩)
  have LM := Lib.hid hsz
  clear hsz o0 o1 o2 a01 a02 a12
  have HOw0 := Lib.hid (show (Value.slice Ag00 K.d.length cg00).ownBlock ≠ some (w1.heap.size) ∧ (Value.slice Ag01 K.i.length cg01).ownBlock ≠ some (w1.heap.size) ∧ (Value.slice Ag02 K.r.length cg02).ownBlock ≠ some (w1.heap.size) from ⟨fun e => Nat.lt_irrefl _ (Nat.lt_of_lt_of_le GLw.out (Og0.out.1.lt _ e).1), fun e => Nat.lt_irrefl _ (Nat.lt_of_lt_of_le GLw.out (Og0.out.2.1.lt _ e).1), fun e => Nat.lt_irrefl _ (Nat.lt_of_lt_of_le GLw.out (Og0.out.2.2.1.lt _ e).1)⟩)
  have HOg0 := Lib.hid (Og0.out.lt (Nat.le_refl w3.heap.size))
  obtain ⟨w4, hw⟩ : ∃ wb, wb = w3.alloc (.cells #[.slice Ag00 K.d.length cg00, .slice Ag01 K.i.length cg01, .slice Ag02 K.r.length cg02] 26) := ⟨_, rfl⟩
  have hb : Below w3.heap.size w3 w4 := by rw [hw]; exact (Below.refl _ _).alloc (Nat.le_refl _) _
  have Lw0 := Lib.hid (Lw0.out.trans (hb.mono Lw0.out.size))
  have LBw0 := Lib.hid (LBw0.out.trans (hb.mono LBw0.out.size))
  have Og0 := Lib.hid (Og0.out.below hb)
  have LM := Lib.hid (Nat.le_trans LM.out hb.size)
  have LW := Lib.hid (LW.out.trans (hb.mono LW.out.size))
  clear hb
  have HXg0 := Lib.hid (show Box3 w4 w3.heap.size (.slice Ag00 K.d.length cg00) (.slice Ag01 K.i.length cg01) (.slice Ag02 K.r.length cg02) by rw [hw]; exact Box3.made _ _ _ _ _)
  have GLg0 := Lib.hid (show w3.heap.size < w4.heap.size by rw [hw]; simp)
  have LBg0 := Lib.hid (Below.refl w4.heap.size w4)
  have HW := Lib.hid hw
  clear hw
  obtain ⟨gg00, gg01, gg02⟩ := HXg0.out.below LBg0.out GLg0.out
  obtain ⟨gw00, gw01, gw02⟩ := HXw0.out.below LBw0.out GLw0.out
  rw [HW.out] at gg00 gg01 gg02 gw00 gw01 gw02
  go_wp2_with fail
  clear gg00 gg01 gg02
  clear gw00 gw01 gw02
  rw [← HW.out]
  clear HW
  refine (eqCost_any _ _ _ _ _ _ _ _ _ K _ _ _ _ _ _ _ _ _ K _ Og0.out.to_in (Iw0.out.to_below Lw0.out) HN.out.1 HN.out.2.1 HN.out.2.2 HN.out.1 HN.out.2.1 HN.out.2.2).mono ?_
  rintro e w5 ⟨rfl, hb⟩
  have Lw0 := Lib.hid (Lw0.out.trans (hb.mono Lw0.out.size))
  have LBw0 := Lib.hid (LBw0.out.trans (hb.mono LBw0.out.size))
  have LBg0 := Lib.hid (LBg0.out.trans (hb.mono LBg0.out.size))
  have Og0 := Lib.hid (Og0.out.below hb)
  have LM := Lib.hid (Nat.le_trans LM.out hb.size)
  have LW := Lib.hid (LW.out.trans (hb.mono LW.out.size))
  clear hb
  rw [Co.same_self]
  obtain ⟨gg00, gg01, gg02⟩ := HXg0.out.below LBg0.out GLg0.out
  go_wp2_with fail
  clear gg00 gg01 gg02
  have hxw0 := HXw0.out.below LBw0.out GLw0.out
  have hlw0 := Nat.lt_of_lt_of_le GLw0.out LBw0.out.size
  have hxg0 := HXg0.out.below LBg0.out GLg0.out
  have hlg0 := Nat.lt_of_lt_of_le GLg0.out LBg0.out.size
  refine (markCost_any _ _ _ _ _ _ _ 1 K _ Og0.out LM.out HN.out.1 HN.out.2.1 HN.out.2.2 (by omega) (by omega)).mono ?_
  rintro e w6 ⟨rfl, ho, hb, hz, hon⟩
  have HXw0 := Lib.hid (hxw0.only hon hlw0 HOw0.out)
  have GLw0 := Lib.hid (Nat.lt_of_lt_of_le hlw0 hz)
  have LBw0 := Lib.hid (Below.refl w6.heap.size w6)
  clear hxw0 hlw0
  have HXg0 := Lib.hid (hxg0.only hon hlg0 HOg0.out)
  have GLg0 := Lib.hid (Nat.lt_of_lt_of_le hlg0 hz)
  have LBg0 := Lib.hid (Below.refl w6.heap.size w6)
  clear hxg0 hlg0
  have Lw0 := Lib.hid (Lw0.out.trans (hb.mono Mg0_w0.out))
  have LW := Lib.hid (LW.out.trans (hb.mono Mg0.out))
  have LM := Lib.hid (Nat.le_trans LM.out hz)
  have Og0 := Lib.hid ho
  clear ho hb hz hon
  obtain ⟨gg00, gg01, gg02⟩ := HXg0.out.below LBg0.out GLg0.out
  go_wp2_with fail
  clear gg00 gg01 gg02
  refine (heldCost_any _ _ _ _ _ _ _ 1 K _ Og0.out HN.out.1 HN.out.2.1 HN.out.2.2 (by omega) (by omega)).mono ?_
  rintro e w7 ⟨rfl, hb⟩
  have Lw0 := Lib.hid (Lw0.out.trans (hb.mono Lw0.out.size))
  have LBw0 := Lib.hid (LBw0.out.trans (hb.mono LBw0.out.size))
  have LBg0 := Lib.hid (LBg0.out.trans (hb.mono LBg0.out.size))
  have Og0 := Lib.hid (Og0.out.below hb)
  have LM := Lib.hid (Nat.le_trans LM.out hb.size)
  have LW := Lib.hid (LW.out.trans (hb.mono LW.out.size))
  clear hb
  go_wp2_with fail
  refine (HI.out _).mono ?_
  rintro e w8 ⟨Ah00, Ah01, Ah02, ch00, ch01, ch02, rfl, o0, o1, o2, a01, a02, a12, hb⟩
  have Lw0 := Lib.hid (Lw0.out.trans (hb.mono Lw0.out.size))
  have LBw0 := Lib.hid (LBw0.out.trans (hb.mono LBw0.out.size))
  have LBg0 := Lib.hid (LBg0.out.trans (hb.mono LBg0.out.size))
  have Og0 := Lib.hid (Og0.out.below hb)
  have LM := Lib.hid (Nat.le_trans LM.out hb.size)
  have LW := Lib.hid (LW.out.trans (hb.mono LW.out.size))
  clear hb
  have Ih0 := Lib.hid (show CoIn w8 w8.heap.size Ah00 Ah01 Ah02 K.d.length K.i.length K.r.length K from ⟨IntIn.of_own o0, IntIn.of_own o1, IntIn.of_own o2⟩)
  have Lh0 := Lib.hid (Below.refl w8.heap.size w8)
  clear o0 o1 o2 a01 a02 a12
  obtain ⟨w9, hw⟩ : ∃ wb, wb = w8.alloc (.cells #[.slice Ah00 K.d.length ch00, .slice Ah01 K.i.length ch01, .slice Ah02 K.r.length ch02] 26) := ⟨_, rfl⟩
  have hb : Below w8.heap.size w8 w9 := by rw [hw]; exact (Below.refl _ _).alloc (Nat.le_refl _) _
  have Lw0 := Lib.hid (Lw0.out.trans (hb.mono Lw0.out.size))
  have Lh0 := Lib.hid (Lh0.out.trans (hb.mono Lh0.out.size))
  have LBw0 := Lib.hid (LBw0.out.trans (hb.mono LBw0.out.size))
  have LBg0 := Lib.hid (LBg0.out.trans (hb.mono LBg0.out.size))
  have Og0 := Lib.hid (Og0.out.below hb)
  have LM := Lib.hid (Nat.le_trans LM.out hb.size)
  have LW := Lib.hid (LW.out.trans (hb.mono LW.out.size))
  clear hb
  have HXh0 := Lib.hid (show Box3 w9 w8.heap.size (.slice Ah00 K.d.length ch00) (.slice Ah01 K.i.length ch01) (.slice Ah02 K.r.length ch02) by rw [hw]; exact Box3.made _ _ _ _ _)
  have GLh0 := Lib.hid (show w8.heap.size < w9.heap.size by rw [hw]; simp)
  have LBh0 := Lib.hid (Below.refl w9.heap.size w9)
  have HW := Lib.hid hw
  clear hw
  obtain ⟨gh00, gh01, gh02⟩ := HXh0.out.below LBh0.out GLh0.out
  obtain ⟨gw00, gw01, gw02⟩ := HXw0.out.below LBw0.out GLw0.out
  rw [HW.out] at gh00 gh01 gh02 gw00 gw01 gw02
  go_wp2_with fail
  clear gh00 gh01 gh02
  clear gw00 gw01 gw02
  rw [← HW.out]
  clear HW
  refine (eqCost_any _ _ _ _ _ _ _ _ _ K _ _ _ _ _ _ _ _ _ K _ (Ih0.out.to_below Lh0.out) (Iw0.out.to_below Lw0.out) HN.out.1 HN.out.2.1 HN.out.2.2 HN.out.1 HN.out.2.1 HN.out.2.2).mono ?_
  rintro e w10 ⟨rfl, hb⟩
  have Lw0 := Lib.hid (Lw0.out.trans (hb.mono Lw0.out.size))
  have Lh0 := Lib.hid (Lh0.out.trans (hb.mono Lh0.out.size))
  have LBw0 := Lib.hid (LBw0.out.trans (hb.mono LBw0.out.size))
  have LBg0 := Lib.hid (LBg0.out.trans (hb.mono LBg0.out.size))
  have LBh0 := Lib.hid (LBh0.out.trans (hb.mono LBh0.out.size))
  have Og0 := Lib.hid (Og0.out.below hb)
  have LM := Lib.hid (Nat.le_trans LM.out hb.size)
  have LW := Lib.hid (LW.out.trans (hb.mono LW.out.size))
  clear hb
  rw [Co.same_self]
  obtain ⟨gg00, gg01, gg02⟩ := HXg0.out.below LBg0.out GLg0.out
  go_wp2_with fail
  clear gg00 gg01 gg02
  refine (heldCost_any _ _ _ _ _ _ _ 1 K _ Og0.out HN.out.1 HN.out.2.1 HN.out.2.2 (by omega) (by omega)).mono ?_
  rintro e w11 ⟨rfl, hb⟩
  have Lw0 := Lib.hid (Lw0.out.trans (hb.mono Lw0.out.size))
  have Lh0 := Lib.hid (Lh0.out.trans (hb.mono Lh0.out.size))
  have LBw0 := Lib.hid (LBw0.out.trans (hb.mono LBw0.out.size))
  have LBg0 := Lib.hid (LBg0.out.trans (hb.mono LBg0.out.size))
  have LBh0 := Lib.hid (LBh0.out.trans (hb.mono LBh0.out.size))
  have Og0 := Lib.hid (Og0.out.below hb)
  have LM := Lib.hid (Nat.le_trans LM.out hb.size)
  have LW := Lib.hid (LW.out.trans (hb.mono LW.out.size))
  clear hb
  go_wp2
  go_ret
  exact ⟨rfl, LW.out⟩

end Go.Proofs.Ytpdpkcadolcbmaa
