/- Texts of one claim laid into one file, in build order: DelI, InsI, RelI. -/
import Derived.Test.YtnfjdlocmdgefaaEa14
import Derived.Test.YtnfjdlocmdgefaaEa3
/- Contracts (DelI). -/
namespace Go.Proofs.Ytnfjdlocmdgefaa
open Go.RowKit
set_option linter.unusedVariables false

set_option maxHeartbeats 1600000 in
set_option maxRecDepth 100000 in
theorem implDelCost_any (A0 A1 A2 : Option Addr) (n0 n1 n2 c0 c1 c2 : Nat) (k : Co) (a : Int) (w : World) (h : CoIn w w.heap.size A0 A1 A2 n0 n1 n2 k) (h0 : n0 ≤ 1048576) (h1 : n1 ≤ 1048576) (h2 : n2 ≤ 1048576) :
    Calls Try.prog 39 #[.agg #[.slice A0 n0 c0, .slice A1 n1 c1, .slice A2 n2 c2], .int .i64 a] w fun e w' => e = .returned (.int .i64 (Co.del k a)) ∧ Below w.heap.size w w' := by
  have H := Lib.hid h
  have HL := Lib.hid h.len
  clear h
  have HB := Lib.hid ((Below.refl w.heap.size w).alloc (Nat.le_refl _) (.cells #[.slice A0 n0 c0, .slice A1 n1 c1, .slice A2 n2 c2] 27))
  have H1 := Lib.hid (H.out.to_below HB.out)
  cases e0 : Co.ok k with
  | false =>
    have Hf := Lib.hid (show Co.del k a = 0 by unfold Co.del; rw [e0]; rfl)
    have E0 := Lib.hid e0
    clear e0
    go_enter Try.func39, Try.ntmps39
    go_wp2_with fail
    refine (implCostOk_any _ _ _ _ _ _ _ _ _ k _ H1.out h0 h1 h2).mono ?_
    rintro e w1 ⟨rfl, hb⟩
    have HB := Lib.hid (HB.out.trans (hb.mono HB.out.size))
    clear hb
    rw [E0.out]
    go_wp2
    go_ret
    exact ⟨Kit.ret_int Hf.out.symm, HB.out⟩
  | true =>
    cases e1 : Lab.ok a with
    | false =>
      have Hf := Lib.hid (show Co.del k a = 0 by unfold Co.del; rw [e0, e1]; rfl)
      have E0 := Lib.hid e0
      have E1 := Lib.hid e1
      clear e0 e1
      go_enter Try.func39, Try.ntmps39
      go_wp2_with fail
      refine (implCostOk_any _ _ _ _ _ _ _ _ _ k _ H1.out h0 h1 h2).mono ?_
      rintro e w1 ⟨rfl, hb⟩
      have HB := Lib.hid (HB.out.trans (hb.mono HB.out.size))
      clear hb
      rw [E0.out]
      go_wp2_with fail
      refine (implLabelOk_any _ _).mono ?_
      rintro e w2 ⟨rfl, rfl⟩
      rw [E1.out]
      go_wp2
      go_ret
      exact ⟨Kit.ret_int Hf.out.symm, HB.out⟩
    | true =>
      have hl := (Co.ok_iff.1 e0)
      have hd := (Zs.fit_iff.1 hl.1).1
      have ha : 0 ≤ a ∧ a ≤ 5 := by simpa [Lab.ok] using e1
      obtain ⟨j, rfl⟩ := Int.eq_ofNat_of_zero_le ha.1
      have Hf := Lib.hid (show Co.del k (j : Int) = Zs.at k.d j by unfold Co.del; rw [e0, e1]; rfl)
      have E0 := Lib.hid e0
      have E1 := Lib.hid e1
      have hn6 : n0 = 6 := by rw [← hd]; exact HL.out.1.symm
      clear e0 e1 hl hd
      subst hn6
      obtain ⟨ad, rfl, _⟩ := H1.out.1.2.1 (by omega)
      have hj : j < 6 := by omega
      have j0 : (0 : Int) ≤ (j : Int) := by omega
      have j1 : (j : Int) < 6 := by omega
      have g0 : (w.alloc (.cells #[.slice (some ad) 6 c0, .slice A1 n1 c1, .slice A2 n2 c2] 27)).cell? ⟨w.heap.size, 0, none⟩ = some (.slice (some ad) 6 c0) := by simp
      have f0 := HB.out
      go_enter Try.func39, Try.ntmps39
      go_wp2_with fail
      refine (implCostOk_any _ _ _ _ _ _ _ _ _ k _ H1.out h0 h1 h2).mono ?_
      rintro e w1 ⟨rfl, hb⟩
      have HB := Lib.hid (HB.out.trans (hb.mono HB.out.size))
      have H1 := Lib.hid (H1.out.to_below hb)
      have g1 := (hb.cell (p := ⟨w.heap.size, 0, none⟩) (by simp)).trans g0
      have c1' := H1.out.1.here (k := j) hj
      clear hb g0 f0
      rw [E0.out]
      go_wp2_with fail
      refine (implLabelOk_any _ _).mono ?_
      rintro e w2 ⟨rfl, rfl⟩
      rw [E1.out]
      go_wp2
      go_ret
      exact ⟨Kit.ret_int Hf.out.symm, HB.out⟩

end Go.Proofs.Ytnfjdlocmdgefaa

/- Contracts (InsI). -/
namespace Go.Proofs.Ytnfjdlocmdgefaa
open Go.RowKit
set_option linter.unusedVariables false

set_option maxHeartbeats 1600000 in
set_option maxRecDepth 100000 in
theorem implInsCost_any (A0 A1 A2 : Option Addr) (n0 n1 n2 c0 c1 c2 : Nat) (k : Co) (a : Int) (w : World) (h : CoIn w w.heap.size A0 A1 A2 n0 n1 n2 k) (h0 : n0 ≤ 1048576) (h1 : n1 ≤ 1048576) (h2 : n2 ≤ 1048576) :
    Calls Try.prog 40 #[.agg #[.slice A0 n0 c0, .slice A1 n1 c1, .slice A2 n2 c2], .int .i64 a] w fun e w' => e = .returned (.int .i64 (Co.ins k a)) ∧ Below w.heap.size w w' := by
  have H := Lib.hid h
  have HL := Lib.hid h.len
  clear h
  have HB := Lib.hid ((Below.refl w.heap.size w).alloc (Nat.le_refl _) (.cells #[.slice A0 n0 c0, .slice A1 n1 c1, .slice A2 n2 c2] 27))
  have H1 := Lib.hid (H.out.to_below HB.out)
  cases e0 : Co.ok k with
  | false =>
    have Hf := Lib.hid (show Co.ins k a = 0 by unfold Co.ins; rw [e0]; rfl)
    have E0 := Lib.hid e0
    clear e0
    go_enter Try.func40, Try.ntmps40
    go_wp2_with fail
    refine (implCostOk_any _ _ _ _ _ _ _ _ _ k _ H1.out h0 h1 h2).mono ?_
    rintro e w1 ⟨rfl, hb⟩
    have HB := Lib.hid (HB.out.trans (hb.mono HB.out.size))
    clear hb
    rw [E0.out]
    go_wp2
    go_ret
    exact ⟨Kit.ret_int Hf.out.symm, HB.out⟩
  | true =>
    cases e1 : Lab.ok a with
    | false =>
      have Hf := Lib.hid (show Co.ins k a = 0 by unfold Co.ins; rw [e0, e1]; rfl)
      have E0 := Lib.hid e0
      have E1 := Lib.hid e1
      clear e0 e1
      go_enter Try.func40, Try.ntmps40
      go_wp2_with fail
      refine (implCostOk_any _ _ _ _ _ _ _ _ _ k _ H1.out h0 h1 h2).mono ?_
      rintro e w1 ⟨rfl, hb⟩
      have HB := Lib.hid (HB.out.trans (hb.mono HB.out.size))
      clear hb
      rw [E0.out]
      go_wp2_with fail
      refine (implLabelOk_any _ _).mono ?_
      rintro e w2 ⟨rfl, rfl⟩
      rw [E1.out]
      go_wp2
      go_ret
      exact ⟨Kit.ret_int Hf.out.symm, HB.out⟩
    | true =>
      have hl := (Co.ok_iff.1 e0)
      have hd := (Zs.fit_iff.1 hl.2.1).1
      have ha : 0 ≤ a ∧ a ≤ 5 := by simpa [Lab.ok] using e1
      obtain ⟨j, rfl⟩ := Int.eq_ofNat_of_zero_le ha.1
      have Hf := Lib.hid (show Co.ins k (j : Int) = Zs.at k.i j by unfold Co.ins; rw [e0, e1]; rfl)
      have E0 := Lib.hid e0
      have E1 := Lib.hid e1
      have hn6 : n1 = 6 := by rw [← hd]; exact HL.out.2.1.symm
      clear e0 e1 hl hd
      subst hn6
      obtain ⟨ad, rfl, _⟩ := H1.out.2.1.2.1 (by omega)
      have hj : j < 6 := by omega
      have j0 : (0 : Int) ≤ (j : Int) := by omega
      have j1 : (j : Int) < 6 := by omega
      have g0 : (w.alloc (.cells #[.slice A0 n0 c0, .slice (some ad) 6 c1, .slice A2 n2 c2] 27)).cell? ⟨w.heap.size, 1, none⟩ = some (.slice (some ad) 6 c1) := by simp
      have f0 := HB.out
      go_enter Try.func40, Try.ntmps40
      go_wp2_with fail
      refine (implCostOk_any _ _ _ _ _ _ _ _ _ k _ H1.out h0 h1 h2).mono ?_
      rintro e w1 ⟨rfl, hb⟩
      have HB := Lib.hid (HB.out.trans (hb.mono HB.out.size))
      have H1 := Lib.hid (H1.out.to_below hb)
      have g1 := (hb.cell (p := ⟨w.heap.size, 1, none⟩) (by simp)).trans g0
      have c1' := H1.out.2.1.here (k := j) hj
      clear hb g0 f0
      rw [E0.out]
      go_wp2_with fail
      refine (implLabelOk_any _ _).mono ?_
      rintro e w2 ⟨rfl, rfl⟩
      rw [E1.out]
      go_wp2
      go_ret
      exact ⟨Kit.ret_int Hf.out.symm, HB.out⟩

end Go.Proofs.Ytnfjdlocmdgefaa

/- Contracts (RelI). -/
namespace Go.Proofs.Ytnfjdlocmdgefaa
open Go.RowKit
set_option linter.unusedVariables false

set_option maxHeartbeats 1600000 in
set_option maxRecDepth 100000 in
theorem implRelCost_any (A0 A1 A2 : Option Addr) (n0 n1 n2 c0 c1 c2 : Nat) (k : Co) (a b : Int) (w : World) (h : CoIn w w.heap.size A0 A1 A2 n0 n1 n2 k) (h0 : n0 ≤ 1048576) (h1 : n1 ≤ 1048576) (h2 : n2 ≤ 1048576) :
    Calls Try.prog 41 #[.agg #[.slice A0 n0 c0, .slice A1 n1 c1, .slice A2 n2 c2], .int .i64 a, .int .i64 b] w fun e w' => e = .returned (.int .i64 (Co.rel k a b)) ∧ Below w.heap.size w w' := by
  have H := Lib.hid h
  have HL := Lib.hid h.len
  clear h
  have HB := Lib.hid ((Below.refl w.heap.size w).alloc (Nat.le_refl _) (.cells #[.slice A0 n0 c0, .slice A1 n1 c1, .slice A2 n2 c2] 27))
  have H1 := Lib.hid (H.out.to_below HB.out)
  cases e0 : Co.ok k with
  | false =>
    have Hf := Lib.hid (show Co.rel k a b = 0 by unfold Co.rel; rw [e0]; rfl)
    have E0 := Lib.hid e0
    clear e0
    go_enter Try.func41, Try.ntmps41
    go_wp2_with fail
    refine (implCostOk_any _ _ _ _ _ _ _ _ _ k _ H1.out h0 h1 h2).mono ?_
    rintro e w1 ⟨rfl, hb⟩
    have HB := Lib.hid (HB.out.trans (hb.mono HB.out.size))
    clear hb
    rw [E0.out]
    go_wp2
    go_ret
    exact ⟨Kit.ret_int Hf.out.symm, HB.out⟩
  | true =>
    cases e1 : Lab.ok a with
    | false =>
      have Hf := Lib.hid (show Co.rel k a b = 0 by unfold Co.rel; rw [e0, e1]; rfl)
      have E0 := Lib.hid e0
      have E1 := Lib.hid e1
      clear e0 e1
      go_enter Try.func41, Try.ntmps41
      go_wp2_with fail
      refine (implCostOk_any _ _ _ _ _ _ _ _ _ k _ H1.out h0 h1 h2).mono ?_
      rintro e w1 ⟨rfl, hb⟩
      have HB := Lib.hid (HB.out.trans (hb.mono HB.out.size))
      clear hb
      rw [E0.out]
      go_wp2_with fail
      refine (implLabelOk_any _ _).mono ?_
      rintro e w2 ⟨rfl, rfl⟩
      rw [E1.out]
      go_wp2
      go_ret
      exact ⟨Kit.ret_int Hf.out.symm, HB.out⟩
    | true =>
      cases e2 : Lab.ok b with
      | false =>
        have Hf := Lib.hid (show Co.rel k a b = 0 by unfold Co.rel; rw [e0, e1, e2]; rfl)
        have E0 := Lib.hid e0
        have E1 := Lib.hid e1
        have E2 := Lib.hid e2
        clear e0 e1 e2
        go_enter Try.func41, Try.ntmps41
        go_wp2_with fail
        refine (implCostOk_any _ _ _ _ _ _ _ _ _ k _ H1.out h0 h1 h2).mono ?_
        rintro e w1 ⟨rfl, hb⟩
        have HB := Lib.hid (HB.out.trans (hb.mono HB.out.size))
        clear hb
        rw [E0.out]
        go_wp2_with fail
        refine (implLabelOk_any _ _).mono ?_
        rintro e w2 ⟨rfl, rfl⟩
        rw [E1.out]
        go_wp2_with fail
        refine (implLabelOk_any _ _).mono ?_
        rintro e w3 ⟨rfl, rfl⟩
        rw [E2.out]
        go_wp2
        go_ret
        exact ⟨Kit.ret_int Hf.out.symm, HB.out⟩
      | true =>
        have hd := (Zs.fit_iff.1 (Co.ok_iff.1 e0).2.2.1).1
        have ha : 0 ≤ a ∧ a ≤ 5 := by simpa [Lab.ok] using e1
        have hb' : 0 ≤ b ∧ b ≤ 5 := by simpa [Lab.ok] using e2
        obtain ⟨i, rfl⟩ := Int.eq_ofNat_of_zero_le ha.1
        obtain ⟨j, rfl⟩ := Int.eq_ofNat_of_zero_le hb'.1
        obtain ⟨p, hp⟩ : ∃ p, p = i * 6 + j := ⟨_, rfl⟩
        have Hf := Lib.hid (show Co.rel k (i : Int) (j : Int) = Zs.at k.r p by unfold Co.rel; rw [e0, e1, e2, hp]; rfl)
        have E0 := Lib.hid e0
        have E1 := Lib.hid e1
        have E2 := Lib.hid e2
        have hn6 : n2 = 36 := by rw [← hd]; exact HL.out.2.2.symm
        clear e0 e1 e2 hd
        subst hn6
        obtain ⟨ad, rfl, _⟩ := H1.out.2.2.2.1 (by omega)
        have a1 : IntKind.i64.wrap ((i : Int) * 6) = (i : Int) * 6 := Kit.w64 (by omega) (by omega)
        have a2 : IntKind.i64.wrap ((i : Int) * 6 + (j : Int)) = (p : Int) := by rw [Kit.w64 (by omega) (by omega)]; omega
        have a3 : (i : Int) * 6 + (j : Int) = (p : Int) := by omega
        have k1 : (0 : Int) ≤ (p : Int) := by omega
        have k2 : (p : Int) < 36 := by omega
        have hp36 : p < 36 := by omega
        have g0 : (w.alloc (.cells #[.slice A0 n0 c0, .slice A1 n1 c1, .slice (some ad) 36 c2] 27)).cell? ⟨w.heap.size, 2, none⟩ = some (.slice (some ad) 36 c2) := by simp
        clear hp ha hb'
        go_enter Try.func41, Try.ntmps41
        go_wp2_with fail
        refine (implCostOk_any _ _ _ _ _ _ _ _ _ k _ H1.out h0 h1 h2).mono ?_
        rintro e w1 ⟨rfl, hb⟩
        have HB := Lib.hid (HB.out.trans (hb.mono HB.out.size))
        have H1 := Lib.hid (H1.out.to_below hb)
        have g1 := (hb.cell (p := ⟨w.heap.size, 2, none⟩) (by simp)).trans g0
        have c1' := H1.out.2.2.here (k := p) hp36
        clear hb g0
        rw [E0.out]
        go_wp2_with fail
        refine (implLabelOk_any _ _).mono ?_
        rintro e w2 ⟨rfl, rfl⟩
        rw [E1.out]
        go_wp2_with fail
        refine (implLabelOk_any _ _).mono ?_
        rintro e w3 ⟨rfl, rfl⟩
        rw [E2.out]
        go_wp2_with fail
        go_quiet (first | (go_at_call 66; exact quiet_same ((relIndex_any _ _ _ (by omega) (by omega) (by omega) (by omega)).mono fun e w' ⟨h1, h2⟩ => ⟨by rw [h1, a3], h2⟩)))
        go_wp2
        go_ret
        exact ⟨Kit.ret_int Hf.out.symm, HB.out.trans ((Drawn.refl _).drewN _).toBelow⟩
end Go.Proofs.Ytnfjdlocmdgefaa
