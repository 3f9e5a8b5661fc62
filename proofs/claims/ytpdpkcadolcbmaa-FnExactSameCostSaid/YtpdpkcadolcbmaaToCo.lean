/- Contracts (ToCo). -/
import Derived.Test.YtpdpkcadolcbmaaUnitS
import Derived.Test.YtpdpkcadolcbmaaThree2
import Derived.Test.YtpdpkcadolcbmaaToIS
import Derived.Outline
namespace Go.Proofs.Ytpdpkcadolcbmaa
open Go.RowKit
set_option linter.unusedVariables false

theorem info_intT : (Try.prog.info? 3).map (fun i => (i.zero, i.size, i.bytes)) = some (some (.int .i64 0), 1, 8) := by kernel_rfl
set_option maxHeartbeats 1600000 in
set_option maxRecDepth 100000 in
theorem toCost_any (A0 A1 A2 : Option Addr) (n0 n1 n2 c0 c1 c2 : Nat) (k : Co) (w : World) (h : CoIn w w.heap.size A0 A1 A2 n0 n1 n2 k) (h0 : n0 ≤ 1048576) (h1 : n1 ≤ 1048576) (h2 : n2 ≤ 1048576) :
    Calls Try.prog 22 #[.agg #[.slice A0 n0 c0, .slice A1 n1 c1, .slice A2 n2 c2]] w (OwnCo k w) := by
  have H := Lib.hid h
  have HL := Lib.hid h.len
  clear h
  obtain ⟨o1, ho1⟩ : ∃ o, o = Obj.cells #[.slice A0 n0 c0, .slice A1 n1 c1, .slice A2 n2 c2] 34 := ⟨_, rfl⟩
  obtain ⟨o2, ho2⟩ : ∃ o, o = Obj.cells #[.slice none 0 0, .slice none 0 0, .slice none 0 0] 26 := ⟨_, rfl⟩
  obtain ⟨s, hs⟩ : ∃ s, s = w.heap.size := ⟨_, rfl⟩
  have s1 : (w.alloc o1).heap.size = s + 1 := by rw [hs]; simp
  have s2 : ((w.alloc o1).alloc o2).heap.size = s + 2 := by rw [hs]; simp
  have hb1 := (Below.refl w.heap.size w).alloc (Nat.le_refl _) o1
  have hb2 := hb1.alloc hb1.size o2
  have hx0 : Box3 (w.alloc o1) s (.slice A0 n0 c0) (.slice A1 n1 c1) (.slice A2 n2 c2) := by rw [ho1, hs]; exact Box3.made _ _ _ _ _
  have hz0 : Box3 ((w.alloc o1).alloc o2) (s + 1) (.slice none 0 0) (.slice none 0 0) (.slice none 0 0) := by rw [← s1, ho2]; exact Box3.made _ _ _ _ _
  have hzf : ∀ off, ((w.alloc o1).alloc o2).frozen? ⟨s + 1, off, none⟩ = false := by rw [← s1, ho2]; exact Box3.free _ _ _ _ _
  have hT : ThreeAt ((w.alloc o1).alloc o2) (s + 2) 0 0 0 [] [] [] (.slice none 0 0) (.slice none 0 0) (.slice none 0 0) (((w.alloc o1).alloc o2).alloc o2) := by
    have := Three.new ((w.alloc o1).alloc o2) 26
    rw [← ho2, s2] at this
    exact this
  have hb3 : Below (s + 2) ((w.alloc o1).alloc o2) (((w.alloc o1).alloc o2).alloc o2) := by have := (Below.refl ((w.alloc o1).alloc o2).heap.size ((w.alloc o1).alloc o2)).alloc (Nat.le_refl _) o2; rw [s2] at this; exact this
  have HX := Lib.hid (hx0.alloc (by omega) o2)
  have HZ := Lib.hid hz0
  have HZF := Lib.hid hzf
  have HT := Lib.hid hT
  have HB2 := Lib.hid hb2
  have S2 := Lib.hid s2
  have hyb := ((hx0.alloc (by omega) o2).below hb3 (by omega)).1
  obtain ⟨wz, hwz⟩ : ∃ wz, wz = (w.alloc o1).alloc o2 := ⟨_, rfl⟩
  obtain ⟨wy, hwy⟩ : ∃ wy, wy = wz.alloc o2 := ⟨_, rfl⟩
  rw [← hwz] at HX HZ HZF HT HB2 S2 hyb
  rw [← hwy] at HT hyb
  have hgz : wz.heap.size ≤ s + 2 := by have := S2.out; omega
  clear hx0 hz0 hzf hT hb3 hb1 hb2 s1 s2
  subst ho1
  subst ho2
  have HSZ := Lib.hid hs
  clear hs
  go_enter Try.func22, Try.ntmps22
  have hB := HT.out.2.2.2.2.2.2.2.2.1
  have hgl := HT.out.2.2.2.2.2.2.2.2.2
  have HC := Lib.hid ((H.out.below (HB2.out.trans (hB.mono HB2.out.size))).more (HB2.out.trans (hB.mono HB2.out.size)).size)
  go_wp2_with fail
  rw [← hwz, ← hwy, ← HSZ.out, show s + 1 + 1 = s + 2 from rfl]
  refine (toIntS_own _ _ _ k.d _ HC.out.1 h0).mono ?_
  rintro e w1 ⟨B0, b0, rfl, ho, hb⟩
  have d0 := (HT.out.1.below hb hgl).1
  have e0 := free_below hb hgl HT.out.2.1 0
  have b := (HX.out.below (hB.trans (hb.mono hB.size)) (by rw [S2.out]; omega)).2.1
  have HT := Lib.hid (Three.put0 hgz HT.out hb ho)
  clear HC hB hgl ho hb
  clear hyb hwy hwz
  have hB := HT.out.2.2.2.2.2.2.2.2.1
  have hgl := HT.out.2.2.2.2.2.2.2.2.2
  have HC := Lib.hid ((H.out.below (HB2.out.trans (hB.mono HB2.out.size))).more (HB2.out.trans (hB.mono HB2.out.size)).size)
  go_wp2_with fail
  refine (toIntS_own _ _ _ k.i _ HC.out.2.1 h1).mono ?_
  rintro e w2 ⟨B1, b1, rfl, ho, hb⟩
  have d1 := (HT.out.1.below hb hgl).2.1
  have e1 := free_below hb hgl HT.out.2.1 1
  have b := (HX.out.below (hB.trans (hb.mono hB.size)) (by rw [S2.out]; omega)).2.2
  have HT := Lib.hid (Three.put1 hgz HT.out hb ho)
  clear HC hB hgl ho hb
  have hB := HT.out.2.2.2.2.2.2.2.2.1
  have hgl := HT.out.2.2.2.2.2.2.2.2.2
  have HC := Lib.hid ((H.out.below (HB2.out.trans (hB.mono HB2.out.size))).more (HB2.out.trans (hB.mono HB2.out.size)).size)
  go_wp2_with fail
  refine (toIntS_own _ _ _ k.r _ HC.out.2.2 h2).mono ?_
  rintro e w3 ⟨B2, b2, rfl, ho, hb⟩
  have d2 := (HT.out.1.below hb hgl).2.2
  have e2 := free_below hb hgl HT.out.2.1 2
  have d0 := (HT.out.1.below hb hgl).1
  have d1 := (HT.out.1.below hb hgl).2.1
  have z := HZ.out.below (hB.trans (hb.mono hB.size)) (by rw [S2.out]; omega)
  have z0 := z.1
  have z1 := z.2.1
  have z2 := z.2.2
  have zf := free_below (hB.trans (hb.mono hB.size)) (by rw [S2.out]; omega) HZF.out
  have f0 := zf 0
  have f1 := zf 1
  have f2 := zf 2
  clear z zf
  have HT := Lib.hid (Three.put2 hgz HT.out hb ho)
  clear HC hB hgl ho hb
  go_wp2
  refine bodyPost_ret (v := .agg #[.slice B0 n0 b0, .slice B1 n1 b1, .slice B2 n2 b2]) ?_ rfl ?_
  · rw [results_cell1 rfl]
    go_simp
  · have hs := HSZ.out
    have ho := Three.out (s := s + 1) (base := w.heap.size) (u0 := .slice B0 n0 b0) (u1 := .slice B1 n1 b1) (u2 := .slice B2 n2 b2) HT.out (by omega) (by omega)
    have hB := HT.out.2.2.2.2.2.2.2.2.1
    have hb := HB2.out.trans (hB.mono HB2.out.size)
    unfold OwnCo
    rw [HL.out.1, HL.out.2.1, HL.out.2.2]
    exact ⟨B0, B1, B2, b0, b1, b2, rfl, ho.1, ho.2.1, ho.2.2.1, ho.2.2.2.1, ho.2.2.2.2.1, ho.2.2.2.2.2, ((hb.setCell (p := ⟨s + 1, 0, none⟩) (by simp only; omega) _).setCell (p := ⟨s + 1, 1, none⟩) (by simp only; omega) _).setCell (p := ⟨s + 1, 2, none⟩) (by simp only; omega) _⟩

end Go.Proofs.Ytpdpkcadolcbmaa
