/- Contracts (InsI). -/
import Derived.Test.YtpdpkcadolcbmaaCostOkI
import Derived.Test.YtpdpkcadolcbmaaLabOkI
namespace Go.Proofs.Ytpdpkcadolcbmaa
open Go.RowKit
set_option linter.unusedVariables false

set_option maxHeartbeats 1600000 in
set_option maxRecDepth 100000 in
theorem implInsCost_any (A0 A1 A2 : Option Addr) (n0 n1 n2 c0 c1 c2 : Nat) (k : Co) (a : Int) (w : World) (h : CoIn w w.heap.size A0 A1 A2 n0 n1 n2 k) (h0 : n0 ≤ 1048576) (h1 : n1 ≤ 1048576) (h2 : n2 ≤ 1048576) :
    Calls Try.prog 20 #[.agg #[.slice A0 n0 c0, .slice A1 n1 c1, .slice A2 n2 c2], .int .i64 a] w fun e w' => e = .returned (.int .i64 (Co.ins k a)) ∧ Below w.heap.size w w' := by
  have H := Lib.hid h
  have HL := Lib.hid h.len
  clear h
  have HB := Lib.hid ((Below.refl w.heap.size w).alloc (Nat.le_refl _) (.cells #[.slice A0 n0 c0, .slice A1 n1 c1, .slice A2 n2 c2] 26))
  have H1 := Lib.hid (H.out.to_below HB.out)
  cases e0 : Co.ok k with
  | false =>
    have Hf := Lib.hid (show Co.ins k a = 0 by unfold Co.ins; rw [e0]; rfl)
    have E0 := Lib.hid e0
    clear e0
    go_enter Try.func20, Try.ntmps20
    go_wp2_with fail
    refine (implCostOk_any _ _ _ _ _ _ _ _ _ k _ H1.out h0 h1 h2).mono ?_
    rintro e w1 ⟨rfl, hb⟩
    have HB := Lib.hid (HB.out.trans (hb.mono HB.out.size))
    clear hb
    rw [E0.out]
    go_wp2
    go_ret
    exact ⟨Kit.ret_int Hf.out.symm, HB.out⟩
  | true =>
    cases e1 : Lab.ok a with
    | false =>
      have Hf := Lib.hid (show Co.ins k a = 0 by unfold Co.ins; rw [e0, e1]; rfl)
      have E0 := Lib.hid e0
      have E1 := Lib.hid e1
      clear e0 e1
      go_enter Try.func20, Try.ntmps20
      go_wp2_with fail
      refine (implCostOk_any _ _ _ _ _ _ _ _ _ k _ H1.out h0 h1 h2).mono ?_
      rintro e w1 ⟨rfl, hb⟩
      have HB := Lib.hid (HB.out.trans (hb.mono HB.out.size))
      clear hb
      rw [E0.out]
      go_wp2_with fail
      refine (implLabelOk_any _ _).mono ?_
      rintro e w2 ⟨rfl, rfl⟩
      rw [E1.out]
      go_wp2
      go_ret
      exact ⟨Kit.ret_int Hf.out.symm, HB.out⟩
    | true =>
      have hl := (Co.ok_iff.1 e0)
      have hd := (Zs.fit_iff.1 hl.2.1).1
      have ha : 0 ≤ a ∧ a ≤ 5 := by simpa [Lab.ok] using e1
      obtain ⟨j, rfl⟩ := Int.eq_ofNat_of_zero_le ha.1
      have Hf := Lib.hid (show Co.ins k (j : Int) = Zs.at k.i j by unfold Co.ins; rw [e0, e1]; rfl)
      have E0 := Lib.hid e0
      have E1 := Lib.hid e1
      have hn6 : n1 = 6 := by rw [← hd]; exact HL.out.2.1.symm
      clear e0 e1 hl hd
      subst hn6
      obtain ⟨ad, rfl, _⟩ := H1.out.2.1.2.1 (by omega)
      have hj : j < 6 := by omega
      have j0 : (0 : Int) ≤ (j : Int) := by omega
      have j1 : (j : Int) < 6 := by omega
      have g0 : (w.alloc (.cells #[.slice A0 n0 c0, .slice (some ad) 6 c1, .slice A2 n2 c2] 26)).cell? ⟨w.heap.size, 1, none⟩ = some (.slice (some ad) 6 c1) := by simp
      have f0 := HB.out
      go_enter Try.func20, Try.ntmps20
      go_wp2_with fail
      refine (implCostOk_any _ _ _ _ _ _ _ _ _ k _ H1.out h0 h1 h2).mono ?_
      rintro e w1 ⟨rfl, hb⟩
      have HB := Lib.hid (HB.out.trans (hb.mono HB.out.size))
      have H1 := Lib.hid (H1.out.to_below hb)
      have g1 := (hb.cell (p := ⟨w.heap.size, 1, none⟩) (by simp)).trans g0
      have c1' := H1.out.2.1.here (k := j) hj
      clear hb g0 f0
      rw [E0.out]
      go_wp2_with fail
      refine (implLabelOk_any _ _).mono ?_
      rintro e w2 ⟨rfl, rfl⟩
      rw [E1.out]
      go_wp2
      go_ret
      exact ⟨Kit.ret_int Hf.out.symm, HB.out⟩

end Go.Proofs.Ytpdpkcadolcbmaa
