/- Texts of one claim laid into one file, in build order: DelI, InsI, RelI, McI, LcI, SzC, Three2, ToIS, ToCo, CoSm. -/
import Derived.Test.YtnfjdlocmdgefaaEl1
import Derived.Test.YtnfjdlocmdgefaaEl2
import Derived.Test.YtnfjdlocmdgefaaEl3
import Derived.Test.YtnfjdlocmdgefaaEl4
import Derived.Test.YtnfjdlocmdgefaaEl6
import Derived.Test.YtnfjdlocmdgefaaEl7
import Derived.Below
import Derived.BigQuiet
import Derived.Deep.RegionHeld3
import Derived.Outline
import Derived.Test.YtnfjdlocmdgefaaRows
/- Contracts (DelI). -/
namespace Go.Proofs.Ytnfjdlocmdgefaa
open Go.RowKit
set_option linter.unusedVariables false

set_option maxHeartbeats 1600000 in
set_option maxRecDepth 100000 in
theorem implDelCost_any (A0 A1 A2 : Option Addr) (n0 n1 n2 c0 c1 c2 : Nat) (k : Co) (a : Int) (w : World) (h : CoIn w w.heap.size A0 A1 A2 n0 n1 n2 k) (h0 : n0 ≤ 1048576) (h1 : n1 ≤ 1048576) (h2 : n2 ≤ 1048576) :
    Calls Try.prog 39 #[.agg #[.slice A0 n0 c0, .slice A1 n1 c1, .slice A2 n2 c2], .int .i64 a] w fun e w' => e = .returned (.int .i64 (Co.del k a)) ∧ Below w.heap.size w w' := by
  have H := Lib.hid h
  have HL := Lib.hid h.len
  clear h
  have HB := Lib.hid ((Below.refl w.heap.size w).alloc (Nat.le_refl _) (.cells #[.slice A0 n0 c0, .slice A1 n1 c1, .slice A2 n2 c2] 27))
  have H1 := Lib.hid (H.out.to_below HB.out)
  cases e0 : Co.ok k with
  | false =>
    have Hf := Lib.hid (show Co.del k a = 0 by unfold Co.del; rw [e0]; rfl)
    have E0 := Lib.hid e0
    clear e0
    go_enter Try.func39, Try.ntmps39
    go_wp2_with fail
    refine (implCostOk_any _ _ _ _ _ _ _ _ _ k _ H1.out h0 h1 h2).mono ?_
    rintro e w1 ⟨rfl, hb⟩
    have HB := Lib.hid (HB.out.trans (hb.mono HB.out.size))
    clear hb
    rw [E0.out]
    go_wp2
    go_ret
    exact ⟨Kit.ret_int Hf.out.symm, HB.out⟩
  | true =>
    cases e1 : Lab.ok a with
    | false =>
      have Hf := Lib.hid (show Co.del k a = 0 by unfold Co.del; rw [e0, e1]; rfl)
      have E0 := Lib.hid e0
      have E1 := Lib.hid e1
      clear e0 e1
      go_enter Try.func39, Try.ntmps39
      go_wp2_with fail
      refine (implCostOk_any _ _ _ _ _ _ _ _ _ k _ H1.out h0 h1 h2).mono ?_
      rintro e w1 ⟨rfl, hb⟩
      have HB := Lib.hid (HB.out.trans (hb.mono HB.out.size))
      clear hb
      rw [E0.out]
      go_wp2_with fail
      refine (implLabelOk_any _ _).mono ?_
      rintro e w2 ⟨rfl, rfl⟩
      rw [E1.out]
      go_wp2
      go_ret
      exact ⟨Kit.ret_int Hf.out.symm, HB.out⟩
    | true =>
      have hl := (Co.ok_iff.1 e0)
      have hd := (Zs.fit_iff.1 hl.1).1
      have ha : 0 ≤ a ∧ a ≤ 5 := by simpa [Lab.ok] using e1
      obtain ⟨j, rfl⟩ := Int.eq_ofNat_of_zero_le ha.1
      have Hf := Lib.hid (show Co.del k (j : Int) = Zs.at k.d j by unfold Co.del; rw [e0, e1]; rfl)
      have E0 := Lib.hid e0
      have E1 := Lib.hid e1
      have hn6 : n0 = 6 := by rw [← hd]; exact HL.out.1.symm
      clear e0 e1 hl hd
      subst hn6
      obtain ⟨ad, rfl, _⟩ := H1.out.1.2.1 (by omega)
      have hj : j < 6 := by omega
      have j0 : (0 : Int) ≤ (j : Int) := by omega
      have j1 : (j : Int) < 6 := by omega
      have g0 : (w.alloc (.cells #[.slice (some ad) 6 c0, .slice A1 n1 c1, .slice A2 n2 c2] 27)).cell? ⟨w.heap.size, 0, none⟩ = some (.slice (some ad) 6 c0) := by simp
      have f0 := HB.out
      go_enter Try.func39, Try.ntmps39
      go_wp2_with fail
      refine (implCostOk_any _ _ _ _ _ _ _ _ _ k _ H1.out h0 h1 h2).mono ?_
      rintro e w1 ⟨rfl, hb⟩
      have HB := Lib.hid (HB.out.trans (hb.mono HB.out.size))
      have H1 := Lib.hid (H1.out.to_below hb)
      have g1 := (hb.cell (p := ⟨w.heap.size, 0, none⟩) (by simp)).trans g0
      have c1' := H1.out.1.here (k := j) hj
      clear hb g0 f0
      rw [E0.out]
      go_wp2_with fail
      refine (implLabelOk_any _ _).mono ?_
      rintro e w2 ⟨rfl, rfl⟩
      rw [E1.out]
      go_wp2
      go_ret
      exact ⟨Kit.ret_int Hf.out.symm, HB.out⟩

end Go.Proofs.Ytnfjdlocmdgefaa

/- Contracts (InsI). -/
namespace Go.Proofs.Ytnfjdlocmdgefaa
open Go.RowKit
set_option linter.unusedVariables false

set_option maxHeartbeats 1600000 in
set_option maxRecDepth 100000 in
theorem implInsCost_any (A0 A1 A2 : Option Addr) (n0 n1 n2 c0 c1 c2 : Nat) (k : Co) (a : Int) (w : World) (h : CoIn w w.heap.size A0 A1 A2 n0 n1 n2 k) (h0 : n0 ≤ 1048576) (h1 : n1 ≤ 1048576) (h2 : n2 ≤ 1048576) :
    Calls Try.prog 40 #[.agg #[.slice A0 n0 c0, .slice A1 n1 c1, .slice A2 n2 c2], .int .i64 a] w fun e w' => e = .returned (.int .i64 (Co.ins k a)) ∧ Below w.heap.size w w' := by
  have H := Lib.hid h
  have HL := Lib.hid h.len
  clear h
  have HB := Lib.hid ((Below.refl w.heap.size w).alloc (Nat.le_refl _) (.cells #[.slice A0 n0 c0, .slice A1 n1 c1, .slice A2 n2 c2] 27))
  have H1 := Lib.hid (H.out.to_below HB.out)
  cases e0 : Co.ok k with
  | false =>
    have Hf := Lib.hid (show Co.ins k a = 0 by unfold Co.ins; rw [e0]; rfl)
    have E0 := Lib.hid e0
    clear e0
    go_enter Try.func40, Try.ntmps40
    go_wp2_with fail
    refine (implCostOk_any _ _ _ _ _ _ _ _ _ k _ H1.out h0 h1 h2).mono ?_
    rintro e w1 ⟨rfl, hb⟩
    have HB := Lib.hid (HB.out.trans (hb.mono HB.out.size))
    clear hb
    rw [E0.out]
    go_wp2
    go_ret
    exact ⟨Kit.ret_int Hf.out.symm, HB.out⟩
  | true =>
    cases e1 : Lab.ok a with
    | false =>
      have Hf := Lib.hid (show Co.ins k a = 0 by unfold Co.ins; rw [e0, e1]; rfl)
      have E0 := Lib.hid e0
      have E1 := Lib.hid e1
      clear e0 e1
      go_enter Try.func40, Try.ntmps40
      go_wp2_with fail
      refine (implCostOk_any _ _ _ _ _ _ _ _ _ k _ H1.out h0 h1 h2).mono ?_
      rintro e w1 ⟨rfl, hb⟩
      have HB := Lib.hid (HB.out.trans (hb.mono HB.out.size))
      clear hb
      rw [E0.out]
      go_wp2_with fail
      refine (implLabelOk_any _ _).mono ?_
      rintro e w2 ⟨rfl, rfl⟩
      rw [E1.out]
      go_wp2
      go_ret
      exact ⟨Kit.ret_int Hf.out.symm, HB.out⟩
    | true =>
      have hl := (Co.ok_iff.1 e0)
      have hd := (Zs.fit_iff.1 hl.2.1).1
      have ha : 0 ≤ a ∧ a ≤ 5 := by simpa [Lab.ok] using e1
      obtain ⟨j, rfl⟩ := Int.eq_ofNat_of_zero_le ha.1
      have Hf := Lib.hid (show Co.ins k (j : Int) = Zs.at k.i j by unfold Co.ins; rw [e0, e1]; rfl)
      have E0 := Lib.hid e0
      have E1 := Lib.hid e1
      have hn6 : n1 = 6 := by rw [← hd]; exact HL.out.2.1.symm
      clear e0 e1 hl hd
      subst hn6
      obtain ⟨ad, rfl, _⟩ := H1.out.2.1.2.1 (by omega)
      have hj : j < 6 := by omega
      have j0 : (0 : Int) ≤ (j : Int) := by omega
      have j1 : (j : Int) < 6 := by omega
      have g0 : (w.alloc (.cells #[.slice A0 n0 c0, .slice (some ad) 6 c1, .slice A2 n2 c2] 27)).cell? ⟨w.heap.size, 1, none⟩ = some (.slice (some ad) 6 c1) := by simp
      have f0 := HB.out
      go_enter Try.func40, Try.ntmps40
      go_wp2_with fail
      refine (implCostOk_any _ _ _ _ _ _ _ _ _ k _ H1.out h0 h1 h2).mono ?_
      rintro e w1 ⟨rfl, hb⟩
      have HB := Lib.hid (HB.out.trans (hb.mono HB.out.size))
      have H1 := Lib.hid (H1.out.to_below hb)
      have g1 := (hb.cell (p := ⟨w.heap.size, 1, none⟩) (by simp)).trans g0
      have c1' := H1.out.2.1.here (k := j) hj
      clear hb g0 f0
      rw [E0.out]
      go_wp2_with fail
      refine (implLabelOk_any _ _).mono ?_
      rintro e w2 ⟨rfl, rfl⟩
      rw [E1.out]
      go_wp2
      go_ret
      exact ⟨Kit.ret_int Hf.out.symm, HB.out⟩

end Go.Proofs.Ytnfjdlocmdgefaa

/- Contracts (RelI). -/
namespace Go.Proofs.Ytnfjdlocmdgefaa
open Go.RowKit
set_option linter.unusedVariables false

set_option maxHeartbeats 1600000 in
set_option maxRecDepth 100000 in
theorem implRelCost_any (A0 A1 A2 : Option Addr) (n0 n1 n2 c0 c1 c2 : Nat) (k : Co) (a b : Int) (w : World) (h : CoIn w w.heap.size A0 A1 A2 n0 n1 n2 k) (h0 : n0 ≤ 1048576) (h1 : n1 ≤ 1048576) (h2 : n2 ≤ 1048576) :
    Calls Try.prog 41 #[.agg #[.slice A0 n0 c0, .slice A1 n1 c1, .slice A2 n2 c2], .int .i64 a, .int .i64 b] w fun e w' => e = .returned (.int .i64 (Co.rel k a b)) ∧ Below w.heap.size w w' := by
  have H := Lib.hid h
  have HL := Lib.hid h.len
  clear h
  have HB := Lib.hid ((Below.refl w.heap.size w).alloc (Nat.le_refl _) (.cells #[.slice A0 n0 c0, .slice A1 n1 c1, .slice A2 n2 c2] 27))
  have H1 := Lib.hid (H.out.to_below HB.out)
  cases e0 : Co.ok k with
  | false =>
    have Hf := Lib.hid (show Co.rel k a b = 0 by unfold Co.rel; rw [e0]; rfl)
    have E0 := Lib.hid e0
    clear e0
    go_enter Try.func41, Try.ntmps41
    go_wp2_with fail
    refine (implCostOk_any _ _ _ _ _ _ _ _ _ k _ H1.out h0 h1 h2).mono ?_
    rintro e w1 ⟨rfl, hb⟩
    have HB := Lib.hid (HB.out.trans (hb.mono HB.out.size))
    clear hb
    rw [E0.out]
    go_wp2
    go_ret
    exact ⟨Kit.ret_int Hf.out.symm, HB.out⟩
  | true =>
    cases e1 : Lab.ok a with
    | false =>
      have Hf := Lib.hid (show Co.rel k a b = 0 by unfold Co.rel; rw [e0, e1]; rfl)
      have E0 := Lib.hid e0
      have E1 := Lib.hid e1
      clear e0 e1
      go_enter Try.func41, Try.ntmps41
      go_wp2_with fail
      refine (implCostOk_any _ _ _ _ _ _ _ _ _ k _ H1.out h0 h1 h2).mono ?_
      rintro e w1 ⟨rfl, hb⟩
      have HB := Lib.hid (HB.out.trans (hb.mono HB.out.size))
      clear hb
      rw [E0.out]
      go_wp2_with fail
      refine (implLabelOk_any _ _).mono ?_
      rintro e w2 ⟨rfl, rfl⟩
      rw [E1.out]
      go_wp2
      go_ret
      exact ⟨Kit.ret_int Hf.out.symm, HB.out⟩
    | true =>
      cases e2 : Lab.ok b with
      | false =>
        have Hf := Lib.hid (show Co.rel k a b = 0 by unfold Co.rel; rw [e0, e1, e2]; rfl)
        have E0 := Lib.hid e0
        have E1 := Lib.hid e1
        have E2 := Lib.hid e2
        clear e0 e1 e2
        go_enter Try.func41, Try.ntmps41
        go_wp2_with fail
        refine (implCostOk_any _ _ _ _ _ _ _ _ _ k _ H1.out h0 h1 h2).mono ?_
        rintro e w1 ⟨rfl, hb⟩
        have HB := Lib.hid (HB.out.trans (hb.mono HB.out.size))
        clear hb
        rw [E0.out]
        go_wp2_with fail
        refine (implLabelOk_any _ _).mono ?_
        rintro e w2 ⟨rfl, rfl⟩
        rw [E1.out]
        go_wp2_with fail
        refine (implLabelOk_any _ _).mono ?_
        rintro e w3 ⟨rfl, rfl⟩
        rw [E2.out]
        go_wp2
        go_ret
        exact ⟨Kit.ret_int Hf.out.symm, HB.out⟩
      | true =>
        have hd := (Zs.fit_iff.1 (Co.ok_iff.1 e0).2.2.1).1
        have ha : 0 ≤ a ∧ a ≤ 5 := by simpa [Lab.ok] using e1
        have hb' : 0 ≤ b ∧ b ≤ 5 := by simpa [Lab.ok] using e2
        obtain ⟨i, rfl⟩ := Int.eq_ofNat_of_zero_le ha.1
        obtain ⟨j, rfl⟩ := Int.eq_ofNat_of_zero_le hb'.1
        obtain ⟨p, hp⟩ : ∃ p, p = i * 6 + j := ⟨_, rfl⟩
        have Hf := Lib.hid (show Co.rel k (i : Int) (j : Int) = Zs.at k.r p by unfold Co.rel; rw [e0, e1, e2, hp]; rfl)
        have E0 := Lib.hid e0
        have E1 := Lib.hid e1
        have E2 := Lib.hid e2
        have hn6 : n2 = 36 := by rw [← hd]; exact HL.out.2.2.symm
        clear e0 e1 e2 hd
        subst hn6
        obtain ⟨ad, rfl, _⟩ := H1.out.2.2.2.1 (by omega)
        have a1 : IntKind.i64.wrap ((i : Int) * 6) = (i : Int) * 6 := Kit.w64 (by omega) (by omega)
        have a2 : IntKind.i64.wrap ((i : Int) * 6 + (j : Int)) = (p : Int) := by rw [Kit.w64 (by omega) (by omega)]; omega
        have a3 : (i : Int) * 6 + (j : Int) = (p : Int) := by omega
        have k1 : (0 : Int) ≤ (p : Int) := by omega
        have k2 : (p : Int) < 36 := by omega
        have hp36 : p < 36 := by omega
        have g0 : (w.alloc (.cells #[.slice A0 n0 c0, .slice A1 n1 c1, .slice (some ad) 36 c2] 27)).cell? ⟨w.heap.size, 2, none⟩ = some (.slice (some ad) 36 c2) := by simp
        clear hp ha hb'
        go_enter Try.func41, Try.ntmps41
        go_wp2_with fail
        refine (implCostOk_any _ _ _ _ _ _ _ _ _ k _ H1.out h0 h1 h2).mono ?_
        rintro e w1 ⟨rfl, hb⟩
        have HB := Lib.hid (HB.out.trans (hb.mono HB.out.size))
        have H1 := Lib.hid (H1.out.to_below hb)
        have g1 := (hb.cell (p := ⟨w.heap.size, 2, none⟩) (by simp)).trans g0
        have c1' := H1.out.2.2.here (k := p) hp36
        clear hb g0
        rw [E0.out]
        go_wp2_with fail
        refine (implLabelOk_any _ _).mono ?_
        rintro e w2 ⟨rfl, rfl⟩
        rw [E1.out]
        go_wp2_with fail
        refine (implLabelOk_any _ _).mono ?_
        rintro e w3 ⟨rfl, rfl⟩
        rw [E2.out]
        go_wp2_with fail
        go_quiet (first | (go_at_call 66; exact quiet_same ((relIndex_any _ _ _ (by omega) (by omega) (by omega) (by omega)).mono fun e w' ⟨h1, h2⟩ => ⟨by rw [h1, a3], h2⟩)))
        go_wp2
        go_ret
        exact ⟨Kit.ret_int Hf.out.symm, HB.out.trans ((Drawn.refl _).drewN _).toBelow⟩
end Go.Proofs.Ytnfjdlocmdgefaa

/- Contracts (McI). -/
namespace Go.Proofs.Ytnfjdlocmdgefaa
open Go.RowKit
set_option linter.unusedVariables false

set_option maxHeartbeats 3200000 in
set_option maxRecDepth 100000 in
theorem implMapCost_any (A A' A'' K0 K1 K2 : Option Addr) (n n' n'' n0 n1 n2 c c' c'' c0 c1 c2 : Nat) (xs ys ms : Tr) (k : Co) (w : World) (ha : NdIn w w.heap.size A n xs) (hb : NdIn w w.heap.size A' n' ys) (hk : CoIn w w.heap.size K0 K1 K2 n0 n1 n2 k) (hm : NdIn w w.heap.size A'' n'' ms) (hn : n ≤ 1048576) (hn' : n' ≤ 1048576) (hn'' : n'' ≤ 1048576) (h0 : n0 ≤ 1048576) (h1 : n1 ≤ 1048576) (h2 : n2 ≤ 1048576) (hc : n ≤ c) (hc' : n' ≤ c') (hc'' : n'' ≤ c'') :
    Calls Try.prog 13 #[.slice A n c, .slice A' n' c', .agg #[.slice K0 n0 c0, .slice K1 n1 c1, .slice K2 n2 c2], .slice A'' n'' c''] w fun e w' => e = .returned (.int .i64 (Mp.cost xs ys k ms)) ∧ Below w.heap.size w w' := by
  obtain ⟨wc, hwc⟩ : ∃ wc, wc = w.alloc (.cells #[.slice K0 n0 c0, .slice K1 n1 c1, .slice K2 n2 c2] 27) := ⟨_, rfl⟩
  have hbc : Below w.heap.size w wc := by rw [hwc]; exact (Below.refl _ _).alloc (Nat.le_refl _) _
  have HQ := Lib.hid (show Box3 wc w.heap.size (.slice K0 n0 c0) (.slice K1 n1 c1) (.slice K2 n2 c2) by rw [hwc]; exact Box3.made _ _ _ _ _)
  have HWC := Lib.hid hwc
  have HA := Lib.hid (ha.to_below hbc)
  have HB := Lib.hid (hb.to_below hbc)
  have HM := Lib.hid (hm.to_below hbc)
  have HK := Lib.hid (hk.to_below hbc)
  have HBC := Lib.hid hbc
  have HN := Lib.hid ha.1
  have HN' := Lib.hid hb.1
  have HN2 := Lib.hid hm.1
  have HBX := Lib.hid (fun (wq : World) (hq : Below wc.heap.size wc wq) => (⟨(hq.cell (World.block_lt_of_cell? _ _ HQ.out.1)).trans HQ.out.1, (hq.cell (World.block_lt_of_cell? _ _ HQ.out.2.1)).trans HQ.out.2.1, (hq.cell (World.block_lt_of_cell? _ _ HQ.out.2.2)).trans HQ.out.2.2⟩ : wq.cell? ⟨w.heap.size, 0, none⟩ = some (.slice K0 n0 c0) ∧ wq.cell? ⟨w.heap.size, 1, none⟩ = some (.slice K1 n1 c1) ∧ wq.cell? ⟨w.heap.size, 2, none⟩ = some (.slice K2 n2 c2)))
  obtain ⟨b1, hb1⟩ : ∃ b, b = Mp.ok xs ys ms := ⟨_, rfl⟩
  obtain ⟨b2, hb2⟩ : ∃ b, b = Co.ok k := ⟨_, rfl⟩
  have CM := Lib.hid (show Calls Try.prog 38 #[.slice A n c, .slice A' n' c', .slice A'' n'' c''] wc fun e w' => e = .returned (.bool b1) ∧ Below wc.heap.size wc w' from by
    rw [hb1]
    refine (implMapOk_any A A' A'' n n' n'' c c' c'' xs ys ms wc HA.out HB.out HM.out hn hn' hn'' hc hc' hc'').mono ?_
    rintro e wq ⟨he, hh⟩
    exact ⟨he, hh⟩)
  have CO := Lib.hid (fun (wq : World) (hq : Below wc.heap.size wc wq) => show Calls Try.prog 32 #[.agg #[.slice K0 n0 c0, .slice K1 n1 c1, .slice K2 n2 c2]] wq fun e w' => e = .returned (.bool b2) ∧ Below wq.heap.size wq w' from by rw [hb2]; exact implCostOk_any K0 K1 K2 n0 n1 n2 c0 c1 c2 k wq (HK.out.to_below hq) h0 h1 h2)
  have CD := Lib.hid (fun (l : Int) (wq : World) (hq : Below wc.heap.size wc wq) => ((implDelCost_any K0 K1 K2 n0 n1 n2 c0 c1 c2 k l wq (HK.out.to_below hq) h0 h1 h2) : Calls Try.prog 39 #[.agg #[.slice K0 n0 c0, .slice K1 n1 c1, .slice K2 n2 c2], .int .i64 l] wq fun e w' => e = .returned (.int .i64 (Co.del k l)) ∧ Below wq.heap.size wq w'))
  have CI := Lib.hid (fun (l : Int) (wq : World) (hq : Below wc.heap.size wc wq) => ((implInsCost_any K0 K1 K2 n0 n1 n2 c0 c1 c2 k l wq (HK.out.to_below hq) h0 h1 h2) : Calls Try.prog 40 #[.agg #[.slice K0 n0 c0, .slice K1 n1 c1, .slice K2 n2 c2], .int .i64 l] wq fun e w' => e = .returned (.int .i64 (Co.ins k l)) ∧ Below wq.heap.size wq w'))
  have CR := Lib.hid (fun (l m : Int) (wq : World) (hq : Below wc.heap.size wc wq) => ((implRelCost_any K0 K1 K2 n0 n1 n2 c0 c1 c2 k l m wq (HK.out.to_below hq) h0 h1 h2) : Calls Try.prog 41 #[.agg #[.slice K0 n0 c0, .slice K1 n1 c1, .slice K2 n2 c2], .int .i64 l, .int .i64 m] wq fun e w' => e = .returned (.int .i64 (Co.rel k l m)) ∧ Below wq.heap.size wq w'))
  have HB1 := Lib.hid hb1
  have HB2 := Lib.hid hb2
  clear ha hb hk hm hwc hbc hb1 hb2
  cases b1 with
  | false =>
    have Hf := Lib.hid (show Mp.cost xs ys k ms = -1 by unfold Mp.cost; rw [← HB1.out]; rfl)
    as_aux_lemma =>
      go_enter Try.func13, Try.ntmps13
      go_wp2_with fail
      rw [← HWC.out]
      (try go_wp2_with fail)
      refine CM.out.mono ?_
      rintro e w1 ⟨rfl, b1⟩
      have B1 := Lib.hid b1
      clear b1
      go_wp2
      go_ret
      exact ⟨Kit.ret_int Hf.out.symm, HBC.out.trans (B1.out.mono HBC.out.size)⟩
  | true =>
    cases b2 with
    | false =>
      have Hf := Lib.hid (show Mp.cost xs ys k ms = -1 by unfold Mp.cost; rw [← HB1.out, ← HB2.out]; rfl)
      as_aux_lemma =>
        go_enter Try.func13, Try.ntmps13
        go_wp2_with fail
        rw [← HWC.out]
        (try go_wp2_with fail)
        refine CM.out.mono ?_
        rintro e w1 ⟨rfl, b1⟩
        have B1 := Lib.hid b1
        clear b1
        obtain ⟨q0, q1, q2⟩ := HBX.out w1 B1.out
        go_wp2_with fail
        clear q0 q1 q2
        refine (CO.out w1 B1.out).mono ?_
        rintro e w2 ⟨rfl, b2⟩
        have B2 := Lib.hid (B1.out.trans (b2.mono B1.out.size))
        clear b2
        go_wp2
        go_ret
        exact ⟨Kit.ret_int Hf.out.symm, HBC.out.trans (B2.out.mono HBC.out.size)⟩
    | true =>
      obtain ⟨ox, oy, oall⟩ := Mp.ok_all HB1.out.symm
      have x24 := Tr.len24 ox
      have y24 := Tr.len24 oy
      have HOA := Lib.hid oall
      have hln := HN.out
      have hln' := HN'.out
      obtain ⟨ad, rfl, _⟩ := HA.out.at_ (k := 0) (by omega)
      obtain ⟨bd, rfl, _⟩ := HB.out.at_ (k := 0) (by omega)
      have Hf := Lib.hid (show Mp.cost xs ys k ms = Mp.part xs ys k ms ms.length by unfold Mp.cost; rw [← HB1.out, ← HB2.out]; rfl)
      have HL := Lib.hid hln
      have HL' := Lib.hid hln'
      have X := Lib.hid x24
      have Y := Lib.hid y24
      clear ox oy oall x24 y24 hln hln'
      go_enter Try.func13, Try.ntmps13
      go_wp2_with fail
      rw [← HWC.out]
      (try go_wp2_with fail)
      refine CM.out.mono ?_
      rintro e w1 ⟨rfl, b1⟩
      have B1 := Lib.hid b1
      clear b1
      obtain ⟨q0, q1, q2⟩ := HBX.out w1 B1.out
      go_wp2_with fail
      clear q0 q1 q2
      refine (CO.out w1 B1.out).mono ?_
      rintro e w2 ⟨rfl, b2⟩
      have B2 := Lib.hid (B1.out.trans (b2.mono B1.out.size))
      clear b2
      go_wp2
      have HRX := Lib.hid True.intro
      have sb1 := Lib.hid (fun (i : Nat) (hi : i ≤ n) => (show 0 ≤ Mp.sum (fun i => Co.del k (Tr.l xs i)) i ∧ Mp.sum (fun i => Co.del k (Tr.l xs i)) i ≤ 24000 by have h := Mp.sum_bound (f := (fun i => Co.del k (Tr.l xs i))) (fun i => (Co.nonneg' k).1 _) i; have := X.out; have := HL.out; omega))
      go_loopw [9, 30] (fun sv iv wr => ∃ i : Nat, i ≤ n ∧ iv = .int .i64 i ∧ sv = .int .i64 (Mp.sum (fun i => Co.del k (Tr.l xs i)) (i)) ∧ Below wc.heap.size wc wr) (fun _ iv _ => n - (intOf iv).toNat)
      case atStart => exact ⟨0, by omega, rfl, by simp [Mp.sum], B2.out⟩
      case round =>
        clear HRX
        obtain ⟨i, hi, rfl, rfl, hR⟩ := hrel
        have HR := Lib.hid hR
        clear hR
        by_cases hlt : i < n
        · have bd1 := sb1.out i hi
          have bd2 := (Co.nonneg' k).1 (Tr.l xs i)
          have hst : Mp.sum (fun i => Co.del k (Tr.l xs i)) (i + 1) = Mp.sum (fun i => Co.del k (Tr.l xs i)) (i) + Co.del k (Tr.l xs i) := rfl
          obtain ⟨s, hs⟩ : ∃ s, s = Mp.sum (fun i => Co.del k (Tr.l xs i)) (i) := ⟨_, rfl⟩
          obtain ⟨g, hg⟩ : ∃ g, g = Co.del k (Tr.l xs i) := ⟨_, rfl⟩
          rw [← hs] at bd1 hst
          rw [← hg] at bd2 hst
          have a1 : IntKind.i64.wrap (s + g) = s + g := Kit.w64 (by omega) (by omega)
          have k0 : (0 : Int) ≤ (i : Int) := by omega
          have k1 : (i : Int) < (n : Int) := by omega
          have HST := Lib.hid hst
          have CC := Lib.hid (fun (wq : World) (hq : Below wc.heap.size wc wq) => show Calls Try.prog 39 #[.agg #[.slice K0 n0 c0, .slice K1 n1 c1, .slice K2 n2 c2], .int .i64 (Tr.l xs i)] wq fun e w' => e = .returned (.int .i64 g) ∧ Below wq.heap.size wq w' from by rw [hg]; exact CD.out _ wq hq)
          obtain ⟨lc, ld⟩ := (HA.out.to_below HR.out).here (k := i) hlt
          obtain ⟨wz, hwz⟩ : ∃ wz, wz = wr.alloc (.cells #[.int .i64 (Tr.l xs i), .int .i64 (Tr.d xs i)] 61) := ⟨_, rfl⟩
          have BZ := Lib.hid (show Below wr.heap.size wr wz by rw [hwz]; exact (Below.refl _ _).alloc (Nat.le_refl _) _)
          obtain ⟨r0, r1⟩ := (show Bx2 wz wr.heap.size (Tr.l xs i) (Tr.d xs i) by rw [hwz]; exact Bx2.made _ _ _ _)
          have H3 := Lib.hid (HR.out.trans (BZ.out.mono HR.out.size))
          obtain ⟨bx0, bx1, bx2⟩ := HBX.out wz H3.out
          have HZ := Lib.hid hwz
          rw [hwz] at bx0 bx1 bx2 r0 r1
          rw [← hs]
          clear hst hs bd1 bd2 hg hwz
          as_aux_lemma =>
            go_wp2_with fail
            rw [← HZ.out]
            clear lc ld
            refine (CC.out wz H3.out).mono ?_
            rintro e w5 ⟨rfl, hb5⟩
            have HR2 := Lib.hid (H3.out.trans (hb5.mono H3.out.size))
            clear hb5 r0 r1 bx0 bx1 bx2
            go_wp2
            go_roundw
            case rel => exact ⟨i + 1, by omega, by go_num, by rw [HST.out], HR2.out⟩
            case measure => simp [intOf]; omega
        · obtain rfl : n = i := by omega
          obtain ⟨sx, hsx⟩ : ∃ sx, sx = Mp.sum (fun i => Co.del k (Tr.l xs i)) n := ⟨_, rfl⟩
          have bx := Mp.sum_bound (f := (fun i => Co.del k (Tr.l xs i))) (fun i => (Co.nonneg' k).1 _) n
          rw [← hsx] at bx ⊢
          have HX := X.out
          have HLX := HL.out
          have BX := Lib.hid (show 0 ≤ sx ∧ sx ≤ 24000 by omega)
          have HSX := Lib.hid (show Mp.sum (fun i => Co.del k (Tr.l xs i)) xs.length = sx by rw [HL.out]; exact hsx.symm)
          have HRX := Lib.hid True.intro
          clear hsx bx hlt hi HX HLX
          have sb2 := Lib.hid (fun (j : Nat) (hj : j ≤ n') => (show 0 ≤ sx + Mp.sum (fun j => Co.ins k (Tr.l ys j)) j ∧ sx + Mp.sum (fun j => Co.ins k (Tr.l ys j)) j ≤ 48000 by have h := Mp.sum_bound (f := (fun j => Co.ins k (Tr.l ys j))) (fun i => (Co.nonneg' k).2.1 _) j; have := Y.out; have := HL'.out; have := BX.out; omega))
          go_wp2
          go_loopw [9, 43] (fun sv iv wr => ∃ j : Nat, j ≤ n' ∧ iv = .int .i64 j ∧ sv = .int .i64 (sx + Mp.sum (fun j => Co.ins k (Tr.l ys j)) (j)) ∧ Below wc.heap.size wc wr) (fun _ iv _ => n' - (intOf iv).toNat)
          case atStart => exact ⟨0, by omega, rfl, by simp [Mp.sum], HR.out⟩
          case round =>
            clear HRX
            obtain ⟨j, hi, rfl, rfl, hR⟩ := hrel
            have HR := Lib.hid hR
            clear hR
            by_cases hlt : j < n'
            · have bd1 := sb2.out j hi
              have bd2 := (Co.nonneg' k).2.1 (Tr.l ys j)
              have hst : sx + Mp.sum (fun j => Co.ins k (Tr.l ys j)) (j + 1) = sx + Mp.sum (fun j => Co.ins k (Tr.l ys j)) (j) + Co.ins k (Tr.l ys j) := (Int.add_assoc _ _ _).symm
              obtain ⟨s, hs⟩ : ∃ s, s = sx + Mp.sum (fun j => Co.ins k (Tr.l ys j)) (j) := ⟨_, rfl⟩
              obtain ⟨g, hg⟩ : ∃ g, g = Co.ins k (Tr.l ys j) := ⟨_, rfl⟩
              rw [← hs] at bd1 hst
              rw [← hg] at bd2 hst
              have a1 : IntKind.i64.wrap (s + g) = s + g := Kit.w64 (by omega) (by omega)
              have k0 : (0 : Int) ≤ (j : Int) := by omega
              have k1 : (j : Int) < (n' : Int) := by omega
              have HST := Lib.hid hst
              have CC := Lib.hid (fun (wq : World) (hq : Below wc.heap.size wc wq) => show Calls Try.prog 40 #[.agg #[.slice K0 n0 c0, .slice K1 n1 c1, .slice K2 n2 c2], .int .i64 (Tr.l ys j)] wq fun e w' => e = .returned (.int .i64 g) ∧ Below wq.heap.size wq w' from by rw [hg]; exact CI.out _ wq hq)
              obtain ⟨lc, ld⟩ := (HB.out.to_below HR.out).here (k := j) hlt
              obtain ⟨wz, hwz⟩ : ∃ wz, wz = wr.alloc (.cells #[.int .i64 (Tr.l ys j), .int .i64 (Tr.d ys j)] 61) := ⟨_, rfl⟩
              have BZ := Lib.hid (show Below wr.heap.size wr wz by rw [hwz]; exact (Below.refl _ _).alloc (Nat.le_refl _) _)
              obtain ⟨r0, r1⟩ := (show Bx2 wz wr.heap.size (Tr.l ys j) (Tr.d ys j) by rw [hwz]; exact Bx2.made _ _ _ _)
              have H3 := Lib.hid (HR.out.trans (BZ.out.mono HR.out.size))
              obtain ⟨bx0, bx1, bx2⟩ := HBX.out wz H3.out
              have HZ := Lib.hid hwz
              rw [hwz] at bx0 bx1 bx2 r0 r1
              rw [← hs]
              clear hst hs bd1 bd2 hg hwz
              as_aux_lemma =>
                go_wp2_with fail
                rw [← HZ.out]
                clear lc ld
                refine (CC.out wz H3.out).mono ?_
                rintro e w5 ⟨rfl, hb5⟩
                have HR2 := Lib.hid (H3.out.trans (hb5.mono H3.out.size))
                clear hb5 r0 r1 bx0 bx1 bx2
                go_wp2
                go_roundw
                case rel => exact ⟨j + 1, by omega, by go_num, by rw [HST.out], HR2.out⟩
                case measure => simp [intOf]; omega
            · obtain rfl : n' = j := by omega
              obtain ⟨s0, hs0⟩ : ∃ s0, s0 = sx + Mp.sum (fun j => Co.ins k (Tr.l ys j)) n' := ⟨_, rfl⟩
              have HP0 := Lib.hid (show Mp.part xs ys k ms 0 = s0 by rw [Mp.part_zero, HSX.out, HL'.out, hs0])
              rw [← hs0]
              clear hs0 hlt hi
              go_wp2
              go_loopw [9, 56] (fun sv iv wr => ∃ m : Nat, m ≤ n'' ∧ iv = .int .i64 m ∧ sv = .int .i64 (Mp.part xs ys k ms m) ∧ Below wc.heap.size wc wr) (fun _ iv _ => n'' - (intOf iv).toNat)
              case atStart => exact ⟨0, by omega, rfl, by rw [HP0.out], HR.out⟩
              case round =>
                clear HR
                obtain ⟨m, hm, rfl, rfl, hR⟩ := hrel
                have HR := Lib.hid hR
                clear hR
                by_cases hlt : m < n''
                · have hml : m < ms.length := by rw [HN2.out]; exact hlt
                  have hok := HOA.out m hml
                  obtain ⟨a, b, ha, hb, ea, eb⟩ := Mp.pair_at hok
                  have hst := Mp.part_succ (k := k) hml hok ea eb
                  have bd1 := Mp.part_bound (k := k) (ms := ms) X.out.2 Y.out.2 m
                  have bd2 := Mp.part_bound (k := k) (ms := ms) X.out.2 Y.out.2 (m + 1)
                  have bd3 := (Co.nonneg' k).2.2 (Tr.l xs a) (Tr.l ys b)
                  have bd4 := (Co.nonneg' k).1 (Tr.l xs a)
                  have bd5 := (Co.nonneg' k).2.1 (Tr.l ys b)
                  obtain ⟨s, hs⟩ : ∃ s, s = Mp.part xs ys k ms m := ⟨_, rfl⟩
                  obtain ⟨r, hr⟩ : ∃ r, r = Co.rel k (Tr.l xs a) (Tr.l ys b) := ⟨_, rfl⟩
                  obtain ⟨dl, hdl⟩ : ∃ dl, dl = Co.del k (Tr.l xs a) := ⟨_, rfl⟩
                  obtain ⟨il, hil⟩ : ∃ il, il = Co.ins k (Tr.l ys b) := ⟨_, rfl⟩
                  rw [← hs] at bd1 hst
                  rw [← hr] at bd3 hst
                  rw [← hdl] at bd4 hst
                  rw [← hil] at bd5 hst
                  have a1 : IntKind.i64.wrap (r - dl) = r - dl := Kit.w64 (by omega) (by omega)
                  have a2 : IntKind.i64.wrap (r - dl - il) = r - dl - il := Kit.w64 (by omega) (by omega)
                  have a3 : IntKind.i64.wrap (s + (r - dl - il)) = s + (r - dl - il) := Kit.w64 (by omega) (by omega)
                  have HST := Lib.hid hst
                  have C1 := Lib.hid (fun (wq : World) (hq : Below wc.heap.size wc wq) => show Calls Try.prog 41 #[.agg #[.slice K0 n0 c0, .slice K1 n1 c1, .slice K2 n2 c2], .int .i64 (Tr.l xs a), .int .i64 (Tr.l ys b)] wq fun e w' => e = .returned (.int .i64 r) ∧ Below wq.heap.size wq w' from by rw [hr]; exact CR.out _ _ wq hq)
                  have C2 := Lib.hid (fun (wq : World) (hq : Below wc.heap.size wc wq) => show Calls Try.prog 39 #[.agg #[.slice K0 n0 c0, .slice K1 n1 c1, .slice K2 n2 c2], .int .i64 (Tr.l xs a)] wq fun e w' => e = .returned (.int .i64 dl) ∧ Below wq.heap.size wq w' from by rw [hdl]; exact CD.out _ wq hq)
                  have C3 := Lib.hid (fun (wq : World) (hq : Below wc.heap.size wc wq) => show Calls Try.prog 40 #[.agg #[.slice K0 n0 c0, .slice K1 n1 c1, .slice K2 n2 c2], .int .i64 (Tr.l ys b)] wq fun e w' => e = .returned (.int .i64 il) ∧ Below wq.heap.size wq w' from by rw [hil]; exact CI.out _ wq hq)
                  obtain ⟨md, rfl, _, lc, ld⟩ := (HM.out.to_below HR.out).at_ (k := m) hlt
                  rw [ea] at lc
                  rw [eb] at ld
                  obtain ⟨wz, hwz⟩ : ∃ wz, wz = wr.alloc (.cells #[.int .i64 (a : Int), .int .i64 (b : Int)] 77) := ⟨_, rfl⟩
                  have BZ := Lib.hid (show Below wr.heap.size wr wz by rw [hwz]; exact (Below.refl _ _).alloc (Nat.le_refl _) _)
                  obtain ⟨r0, r1⟩ := (show Bx2 wz wr.heap.size (a : Int) (b : Int) by rw [hwz]; exact Bx2.made _ _ _ _)
                  have H3 := Lib.hid (HR.out.trans (BZ.out.mono HR.out.size))
                  have han : a < n := by rw [← HL.out]; exact ha
                  have hbn : b < n' := by rw [← HL'.out]; exact hb
                  have la := ((HA.out.to_below H3.out).here (k := a) han).1
                  have lb := ((HB.out.to_below H3.out).here (k := b) hbn).1
                  have HZ := Lib.hid hwz
                  have k0 : (0 : Int) ≤ (m : Int) := by omega
                  have k1 : (m : Int) < (n'' : Int) := by omega
                  have k2 : (0 : Int) ≤ (a : Int) := by omega
                  have k3 : (a : Int) < (n : Int) := by omega
                  have k4 : (0 : Int) ≤ (b : Int) := by omega
                  have k5 : (b : Int) < (n' : Int) := by omega
                  rw [← hs]
                  clear hst hs bd1 bd2 bd3 bd4 bd5 hr hdl hil hwz ea eb hok hml
                  as_aux_lemma =>
                    go_wp2_with fail
                    rw [← HZ.out]
                    clear lc ld
                    (try go_wp2_with fail)
                    go_quiet (fail)
                    go_wp2_with fail
                    obtain ⟨wy, hwy⟩ : ∃ wy, wy = wz.drewN nq := ⟨_, rfl⟩
                    rw [← hwy]
                    have H4 := Lib.hid (show Below wc.heap.size wc wy by rw [hwy]; exact H3.out.trans ((((Drawn.refl _).drewN nq).toBelow).mono H3.out.size))
                    clear hwy
                    have C1 := Lib.hid (fun (wq : World) (hq : Below wy.heap.size wy wq) => C1.out wq (H4.out.trans (hq.mono H4.out.size)))
                    have C2 := Lib.hid (fun (wq : World) (hq : Below wy.heap.size wy wq) => C2.out wq (H4.out.trans (hq.mono H4.out.size)))
                    have C3 := Lib.hid (fun (wq : World) (hq : Below wy.heap.size wy wq) => C3.out wq (H4.out.trans (hq.mono H4.out.size)))
                    obtain ⟨bx0, bx1, bx2⟩ := HBX.out wy H4.out
                    have S0 := Lib.hid (show ((wy.drew.cell? ⟨w.heap.size, 0, none⟩ = some (.slice K0 n0 c0) ∧ wy.drew.cell? ⟨w.heap.size, 1, none⟩ = some (.slice K1 n1 c1) ∧ wy.drew.cell? ⟨w.heap.size, 2, none⟩ = some (.slice K2 n2 c2)) ∧ (wy.drew.cell? ⟨w.heap.size, 0, none⟩ = some (.slice K0 n0 c0) ∧ wy.drew.cell? ⟨w.heap.size, 0, none⟩ = some (.slice K0 n0 c0))) ∧ BelA wy wy.drew from ⟨⟨⟨bx0, bx1, bx2⟩, bx0, bx0⟩, (Drawn.refl _).drew.toBelow⟩)
                    clear bx0 bx1 bx2 la lb r0 r1
                    (try go_wp2_with fail)
                    go_region_held3 (fun wq => ((wq.cell? ⟨w.heap.size, 0, none⟩ = some (.slice K0 n0 c0) ∧ wq.cell? ⟨w.heap.size, 1, none⟩ = some (.slice K1 n1 c1) ∧ wq.cell? ⟨w.heap.size, 2, none⟩ = some (.slice K2 n2 c2)) ∧ (wq.cell? ⟨w.heap.size, 0, none⟩ = some (.slice K0 n0 c0) ∧ wq.cell? ⟨w.heap.size, 0, none⟩ = some (.slice K0 n0 c0))) ∧ BelA wy wq) (first | (with_reducible exact SC) | (with_reducible exact S0.out)) (first | ((go_at_call 41; with_reducible refine (C1.out _ (fv_below (by assumption))).mono ?_); rintro e w5 ⟨rfl, hb5⟩; have SC := fv_keep (by assumption) hb5) | ((go_at_call 39; with_reducible refine (C2.out _ (fv_below (by assumption))).mono ?_); rintro e w5 ⟨rfl, hb5⟩; have SC := fv_keep (by assumption) hb5) | ((go_at_call 40; with_reducible refine (C3.out _ (fv_below (by assumption))).mono ?_); rintro e w5 ⟨rfl, hb5⟩; have SC := fv_keep (by assumption) hb5))
                    have HR2 := Lib.hid (H4.out.trans ((fv_below SC).mono H4.out.size))
                    go_wp2
                    go_roundw
                    case rel => exact ⟨m + 1, by omega, by go_num, by rw [HST.out], HR2.out⟩
                    case measure => simp [intOf]; omega
                · obtain rfl : n'' = m := by omega
                  have Hg := Lib.hid (show Mp.cost xs ys k ms = Mp.part xs ys k ms n'' by rw [Hf.out, HN2.out])
                  go_wp2
                  go_ret
                  exact ⟨Kit.ret_int Hg.out.symm, HBC.out.trans (HR.out.mono HBC.out.size)⟩

end Go.Proofs.Ytnfjdlocmdgefaa

/- Contracts (LcI). -/
namespace Go.Proofs.Ytnfjdlocmdgefaa
open Go.RowKit
set_option linter.unusedVariables false


/-- between two rounds of LeastCost's loop: the older blocks stand, the variable 'least' holds the least so far -/
def LI (T : TypeId) (F : Nat → Int) (W0 : World) (n0 BL : Nat) (pre : List Tr) (M : Nat → Prop) (W : World) : Prop :=
  (∀ q, q < W0.heap.size → q ≠ BL → W.heap[q]? = W0.heap[q]?) ∧ Boxed W BL T (.int .i64 (F pre.length)) ∧ (∀ r, M r → W0.heap.size ≤ r) ∧ W0.heap.size ≤ W.heap.size
theorem LI.frees {T : TypeId} {F : Nat → Int} {W0 : World} {n0 BL : Nat} (hBL : BL < W0.heap.size) : Frees (LI T F W0 n0 BL) := by
  rintro pre M M' W W' row ⟨h1, h2, h3, h4⟩ hg hr hM
  have ne : ∀ q, q < W0.heap.size → some q ≠ row := fun q hq e => by have := h3 q (hr q e.symm); omega
  refine ⟨fun q hq hn => (hg.block q (by omega) (ne q hq)).trans (h1 q hq hn), h2.kept hg (ne BL hBL), fun r e => ?_, Nat.le_trans h4 hg.size⟩
  rcases hM r e with e | e
  · exact h3 r e
  · omega
section
variable {T : TypeId} {F : Nat → Int} {W0 W W' : World} {n0 BL : Nat} {pre : List Tr} {x : Tr} {M : Nat → Prop}
theorem LI.cell (h : LI T F W0 n0 BL pre M W) {p : Addr} (h1 : p.block < W0.heap.size) (h2 : p.block ≠ BL) : W.cell? p = W0.cell? p := World.cell?_of_block (h.1 _ h1 h2)
theorem LI.keep (h : LI T F W0 n0 BL pre M W) (hF : F (pre ++ [x]).length = F pre.length) (hB : BL < W0.heap.size) (hb : Below W.heap.size W W') (hin : InM n0 M W) (hn0 : n0 ≤ W0.heap.size) : Rnd (LI T F W0 n0 BL) n0 pre x M W W' := by
  obtain ⟨h1, h2, h3, h4⟩ := h
  exact ⟨⟨fun q hq hn => (hb.block q (by omega)).trans (h1 q hq hn), by rw [hF]; exact h2.kept (grown_of_below hb none) (by simp), h3, Nat.le_trans h4 hb.size⟩, fun r e => hb.block r (hin r e).2, hb.mono (by omega)⟩
theorem LI.set (h : LI T F W0 n0 BL pre M W) {v : Int} (hF : F (pre ++ [x]).length = v) (hB : BL < W0.heap.size) (hB0 : n0 ≤ BL) (hb : Below W.heap.size W W') (hin : InM n0 M W) (hn0 : n0 ≤ W0.heap.size) : Rnd (LI T F W0 n0 BL) n0 pre x M W (W'.setCell ⟨BL, 0, none⟩ (.int .i64 v)) := by
  obtain ⟨h1, h2, h3, h4⟩ := h
  have g := grownBy_setCell' W' BL (.int .i64 v)
  have s := hb.size
  have s2 := g.size
  refine ⟨⟨fun q hq hn => (g.block q (by omega) (by simpa using hn)).trans ((hb.block q (by omega)).trans (h1 q hq hn)), ?_, h3, by omega⟩, fun r e => ?_, (hb.mono (by omega)).setCell (p := ⟨BL, 0, none⟩) hB0 _⟩
  · rw [hF]; exact (h2.kept (grown_of_below hb none) (by simp)).set _
  · have := h3 r e
    have := (hin r e).2
    exact (g.block r (by omega) (by simp; omega)).trans (hb.block r (by omega))
end
attribute [local go_sem] Oper.semAt_some
set_option maxHeartbeats 800000 in
set_option maxRecDepth 100000 in
theorem implLeastCost_any (A A' K0 K1 K2 : Option Addr) (n n' n0 n1 n2 c c' c0 c1 c2 : Nat) (xs ys : Tr) (k : Co) (w : World) (ha : NdIn w w.heap.size A n xs) (hb : NdIn w w.heap.size A' n' ys) (hk : CoIn w w.heap.size K0 K1 K2 n0 n1 n2 k) (hn : n ≤ 1048576) (hn' : n' ≤ 1048576) (h0 : n0 ≤ 1048576) (h1 : n1 ≤ 1048576) (h2 : n2 ≤ 1048576) (hc : n ≤ c) (hc' : n' ≤ c') :
    Calls Try.prog 9 #[.slice A n c, .slice A' n' c', .agg #[.slice K0 n0 c0, .slice K1 n1 c1, .slice K2 n2 c2]] w fun e w' => e = .returned (.int .i64 (Am.least xs ys k)) ∧ Below w.heap.size w w' := by
  obtain ⟨wb, hwb⟩ : ∃ wb, wb = (((w.alloc (.cells #[.slice A n c] 24)).alloc (.cells #[.slice A' n' c'] 24)).alloc (.cells #[.slice K0 n0 c0, .slice K1 n1 c1, .slice K2 n2 c2] 27)).alloc (.cells #[.int .i64 (-1)] 3) := ⟨_, rfl⟩
  have sb : wb.heap.size = w.heap.size + 4 := by rw [hwb]; simp
  have bb : Below w.heap.size w wb := by rw [hwb]; exact ((((Below.refl _ w).alloc (Nat.le_refl _) _).alloc (by simp) _).alloc (by simp; omega) _).alloc (by simp; omega) _
  have hkb : CoIn wb wb.heap.size K0 K1 K2 n0 n1 n2 k := hk.to_below bb
  have CK := Lib.hid ((implCostOk_any K0 K1 K2 n0 n1 n2 c0 c1 c2 k wb hkb h0 h1 h2))
  obtain ⟨w1, hw1⟩ : ∃ w1, w1 = w.alloc (.cells #[.slice A n c] 24) := ⟨_, rfl⟩
  obtain ⟨w2, hw2⟩ : ∃ w2, w2 = w1.alloc (.cells #[.slice A' n' c'] 24) := ⟨_, rfl⟩
  obtain ⟨w3, hw3⟩ : ∃ w3, w3 = w2.alloc (.cells #[.slice K0 n0 c0, .slice K1 n1 c1, .slice K2 n2 c2] 27) := ⟨_, rfl⟩
  have hb3 : wb = w3.alloc (.cells #[.int .i64 (-1)] 3) := by rw [hw3, hw2, hw1]; exact hwb
  have s1 : w1.heap.size = w.heap.size + 1 := by rw [hw1]; simp
  have s2 : w2.heap.size = w.heap.size + 2 := by rw [hw2]; simp [s1]
  have s3 : w3.heap.size = w.heap.size + 3 := by rw [hw3]; simp [s2]
  have e0 : wb.cell? ⟨w.heap.size, 0, none⟩ = some (.slice A n c) := by
    rw [hb3, World.cell?_alloc_lt _ _ _ (by show w.heap.size < _; omega), hw3, World.cell?_alloc_lt _ _ _ (by show w.heap.size < _; omega), hw2, World.cell?_alloc_lt _ _ _ (by show w.heap.size < _; omega), hw1]; simp
  have e1 : wb.cell? ⟨w.heap.size + 1, 0, none⟩ = some (.slice A' n' c') := by
    rw [hb3, World.cell?_alloc_lt _ _ _ (by show w.heap.size + 1 < _; omega), hw3, World.cell?_alloc_lt _ _ _ (by show w.heap.size + 1 < _; omega), hw2, ← s1]; simp
  have e2 : wb.cell? ⟨w.heap.size + 1 + 1, 0, none⟩ = some (.slice K0 n0 c0) := by
    rw [hb3, World.cell?_alloc_lt _ _ _ (by show w.heap.size + 2 < _; omega), hw3, show w.heap.size + 1 + 1 = w2.heap.size by omega]; simp
  have e3 : wb.cell? ⟨w.heap.size + 1 + 1, 1, none⟩ = some (.slice K1 n1 c1) := by
    rw [hb3, World.cell?_alloc_lt _ _ _ (by show w.heap.size + 2 < _; omega), hw3, show w.heap.size + 1 + 1 = w2.heap.size by omega]; simp
  have e4 : wb.cell? ⟨w.heap.size + 1 + 1, 2, none⟩ = some (.slice K2 n2 c2) := by
    rw [hb3, World.cell?_alloc_lt _ _ _ (by show w.heap.size + 2 < _; omega), hw3, show w.heap.size + 1 + 1 = w2.heap.size by omega]; simp
  have e5 : Boxed wb (w.heap.size + 1 + 1 + 1) 3 (.int .i64 (-1)) := by rw [hb3, show w.heap.size + 1 + 1 + 1 = w3.heap.size by omega]; exact Boxed.new w3 3 (.int .i64 (-1))
  clear hb3 hw1 hw2 hw3 s1 s2 s3 w1 w2 w3
  have HW := Lib.hid hwb
  have HSB := Lib.hid sb
  have HBB := Lib.hid bb
  have HE := Lib.hid (And.intro e0 (And.intro e1 (And.intro e2 (And.intro e3 (And.intro e4 e5)))))
  cases hko : Co.ok k with
  | false =>
    have HN := Lib.hid (show Am.least xs ys k = -1 by unfold Am.least; rw [hko, Bool.and_false]; rfl)
    rw [hko] at CK
    clear ha hb hk hkb hko bb sb e0 e1 e2 e3 e4 e5 hwb
    go_enter Try.func9, Try.ntmps9
    go_wp2_with (go_at_call 32; rw [← HW.out]; refine CK.out.mono ?_; rintro e w2 ⟨rfl, hb2⟩; have e6 := (hb2.cell (p := ⟨w.heap.size + 1 + 1 + 1, 0, none⟩) (by rw [HSB.out]; exact Nat.lt_succ_self _)).trans HE.out.2.2.2.2.2.cell; have HB2 := Lib.hid hb2; clear hb2)
    go_ret
    exact ⟨by rw [HN.out]; rfl, HBB.out.trans (HB2.out.mono (by rw [HSB.out]; omega))⟩
  | true =>
    have HO := Lib.hid hko
    rw [hko] at CK
    have HA := Lib.hid ha
    have HB := Lib.hid hb
    have HK := Lib.hid hk
    clear ha hb hk hkb hko bb sb e0 e1 e2 e3 e4 e5 hwb
    refine (callsIn_wide (n := 1)).1 ?_
    refine callsIn_of_wp_marks Try.func9 rfl trivial ?_ rfl
    simp only [Try.ntmps9, List.size_toArray, List.length_cons, List.length_nil, Nat.reduceAdd, Nat.reduceSub, Array.replicate_succ, Array.replicate_zero, List.push_toArray, List.append_toArray, List.nil_append, List.cons_append]
    gi_wp2_with (first
      | (refine ⟨trivial, ?_⟩; gi_at_call 32; rw [← HW.out]; refine (callsIn_wide.2 CK.out).mono ?_; clear CK; rintro e w2 ⟨rfl, hb2⟩; have f0 := (hb2.cell (p := ⟨w.heap.size, 0, none⟩) (by rw [HSB.out]; exact Nat.lt_add_of_pos_right (by decide))).trans HE.out.1; have f1 := (hb2.cell (p := ⟨w.heap.size + 1, 0, none⟩) (by rw [HSB.out]; exact Nat.add_lt_add_left (by decide) _)).trans HE.out.2.1; have HB2 := Lib.hid hb2; clear hb2)
      | (refine ⟨trivial, ?_⟩; gi_at_call 31; refine (callsIn_wide.2 (rooted_any _)).mono ?_; rintro e w3 ⟨rfl, hw3⟩; have HW3 := Lib.hid hw3; clear hw3))
    have s2 := HB2.out.size
    have s3 : w3.heap.size = w2.heap.size + 2 := by rw [HW3.out]; simp
    have b3 : Below w.heap.size w w3 := by rw [HW3.out]; exact ((HBB.out.trans (HB2.out.mono (by rw [HSB.out]; omega))).alloc (by have := HBB.out.size; omega) _).alloc (by have := HBB.out.size; simp; omega) _
    have b4 : Below wb.heap.size wb w3 := by rw [HW3.out]; exact (HB2.out.alloc s2 _).alloc (by simp; omega) _
    have sb := HSB.out
    have g1 : w3.cell? ⟨w2.heap.size, 0, none⟩ = some (.slice A n c) := by
      rw [HW3.out, World.cell?_alloc_lt _ _ _ (by simp)]; simp
    have g2 : w3.cell? ⟨w2.heap.size + 1, 0, none⟩ = some (.slice A' n' c') := by
      rw [HW3.out, show w2.heap.size + 1 = (w2.alloc (.cells #[.slice A n c] 24)).heap.size by simp]; simp
    have bx : Boxed w3 (w.heap.size + 1 + 1 + 1) 3 (.int .i64 (-1)) := HE.out.2.2.2.2.2.kept (grown_of_below b4 none) (by simp)
    have hq : ∀ p : Addr, p.block < wb.heap.size → w3.cell? p = wb.cell? p := fun p hp => b4.cell hp
    have ca := (hq ⟨w.heap.size, 0, none⟩ (by show w.heap.size < _; omega)).trans HE.out.1
    have cb := (hq ⟨w.heap.size + 1, 0, none⟩ (by show w.heap.size + 1 < _; omega)).trans HE.out.2.1
    have c2a := (hq ⟨w.heap.size + 1 + 1, 0, none⟩ (by show w.heap.size + 1 + 1 < _; omega)).trans HE.out.2.2.1
    have c2b := (hq ⟨w.heap.size + 1 + 1, 1, none⟩ (by show w.heap.size + 1 + 1 < _; omega)).trans HE.out.2.2.2.1
    have c2c := (hq ⟨w.heap.size + 1 + 1, 2, none⟩ (by show w.heap.size + 1 + 1 < _; omega)).trans HE.out.2.2.2.2.1
    have GV := Lib.hid (rooted_gives (n0 := w.heap.size) w2.heap.size (w2.heap.size + 1) w3 (HA.out.below b3) (HB.out.below b3) hn hn' hc hc' b3.size g1 g2)
    have hD : w.heap.size + 4 ≤ w3.heap.size := by omega
    have HC := Lib.hid (And.intro ca (And.intro cb (And.intro c2a (And.intro c2b (And.intro c2c (And.intro bx (And.intro b3 hD)))))))
    clear ca cb c2a c2b c2c bx hq b4 b3 g1 g2 sb s2 s3 f0 f1 hD HW3 HB2 HE HBB HSB HW
    refine wp_range (T := 77) (n0 := w.heap.size) (gf := 62) (lb := #[.pointer (some ⟨w2.heap.size, 0, none⟩), .pointer (some ⟨w2.heap.size + 1, 0, none⟩)]) (by have := HC.out.2.2.2.2.2.2.2; omega) rfl (enters_of Try.func62 (by kernel_rfl) rfl) GV.out (Below.refl _ _)
      (LI 3 (Am.out xs ys k (Am.all xs ys)) w3 w.heap.size (w.heap.size + 1 + 1 + 1)) (LI.frees (by have := HC.out.2.2.2.2.2.2.2; omega)) ⟨fun _ _ _ => rfl, HC.out.2.2.2.2.2.1, fun _ e => e.elim, Nat.le_refl _⟩
      (fun v => { tmps := #[.slice A n c, .slice A' n' c', .agg #[.slice K0 n0 c0, .slice K1 n1 c1, .slice K2 n2 c2], .pointer (some ⟨w.heap.size, 0, none⟩), .pointer (some ⟨w.heap.size + 1, 0, none⟩), .pointer (some ⟨w.heap.size + 1 + 1, 0, none⟩), .int .i64 0,
        .pointer (some ⟨w.heap.size + 1 + 1 + 1, 0, none⟩), v, undef, .agg #[.slice K0 n0 c0, .slice K1 n1 c1, .slice K2 n2 c2], .bool true, .bool false, undef, .slice A n c, .slice A' n' c',
        .func (.func 62) #[] #[.pointer (some ⟨w2.heap.size, 0, none⟩), .pointer (some ⟨w2.heap.size + 1, 0, none⟩)], v, undef, undef, undef, undef, undef, undef, undef, undef, undef, undef, undef, undef, undef, undef], defers := [] }) ?assign ?body ?done
    case assign =>
      intro l v W K hK
      gi_wp2
      exact hK
    case body =>
      rintro l pre x v M W hI hin hpre ⟨b, c9, rfl, hrow, hnM⟩
      obtain ⟨ca, cb, c2a, c2b, c2c, bx, b3, hD⟩ := HC.out
      have BL3 : w.heap.size + 1 + 1 + 1 < w3.heap.size := by omega
      have sW := hI.2.2.2
      have hA : NdIn W W.heap.size A n xs := ((HA.out.below b3).keep fun p hp => hI.cell (by omega) (by omega)).more (by omega)
      have hB : NdIn W W.heap.size A' n' ys := ((HB.out.below b3).keep fun p hp => hI.cell (by omega) (by omega)).more (by omega)
      have hk3 := HK.out.below b3
      have hK : CoIn W W.heap.size K0 K1 K2 n0 n1 n2 k := CoIn.more ⟨hk3.1.keep fun p hp => hI.cell (by omega) (by omega), hk3.2.1.keep fun p hp => hI.cell (by omega) (by omega), hk3.2.2.keep fun p hp => hI.cell (by omega) (by omega)⟩ (by omega)
      have hx : x ∈ Am.all xs ys := hpre.subset (by simp)
      have hx24 := Am.all_small hx
      have MC := Lib.hid (implMapCost_any A A' (some ⟨b, 0, none⟩) K0 K1 K2 n n' x.length n0 n1 n2 c c' c9 c0 c1 c2 xs ys x k W hA hB hK (NdIn.of_own hrow) hn hn' (by omega) h0 h1 h2 hc hc' (own_cap hrow))
      have d0 := (hI.cell (p := ⟨w.heap.size, 0, none⟩) (by show w.heap.size < _; omega) (by show w.heap.size ≠ _; omega)).trans ca
      have d1 := (hI.cell (p := ⟨w.heap.size + 1, 0, none⟩) (by show w.heap.size + 1 < _; omega) (by show w.heap.size + 1 ≠ _; omega)).trans cb
      have d2 := (hI.cell (p := ⟨w.heap.size + 1 + 1, 0, none⟩) (by show w.heap.size + 1 + 1 < _; omega) (by show w.heap.size + 1 + 1 ≠ _; omega)).trans c2a
      have d3 := (hI.cell (p := ⟨w.heap.size + 1 + 1, 1, none⟩) (by show w.heap.size + 1 + 1 < _; omega) (by show w.heap.size + 1 + 1 ≠ _; omega)).trans c2b
      have d4 := (hI.cell (p := ⟨w.heap.size + 1 + 1, 2, none⟩) (by show w.heap.size + 1 + 1 < _; omega) (by show w.heap.size + 1 + 1 ≠ _; omega)).trans c2c
      have nx := Am.out_next HO.out hpre
      obtain ⟨m, hm⟩ : ∃ m, m = Am.out xs ys k (Am.all xs ys) pre.length := ⟨_, rfl⟩
      obtain ⟨q, hq⟩ : ∃ q, q = Mp.cost xs ys k x := ⟨_, rfl⟩
      rw [← hm, ← hq] at nx
      rw [← hq] at MC
      have bW := hI.2.1
      rw [← hm] at bW
      have HBW := Lib.hid bW
      have HI := Lib.hid hI
      have HIn := Lib.hid hin
      have HM := Lib.hid hm
      have HBL := Lib.hid BL3
      have hlW := bW.lt
      clear hI hin hpre hx hx24 hA hB hK hk3 hrow hnM ca cb c2a c2b c2c bx bW hm hq b3
      by_cases c1 : m < 0
      · have hc1 : decide (m < 0) = true := decide_eq_true c1
        have HN := Lib.hid (nx.trans (if_pos (.inl c1)))
        clear nx c1
        gi_wp2_with (refine ⟨trivial, rfl, ?_⟩; gi_at_call 13; refine (CallsIn.inRound l (callsIn_wide.2 MC.out)).mono ?_; rintro e w5 ⟨rfl, hb5⟩; have e5 := (hb5.cell (p := ⟨w.heap.size + 1 + 1 + 1, 0, none⟩) hlW).trans HBW.out.cell; have e6 := (hb5.frozen (p := ⟨w.heap.size + 1 + 1 + 1, 0, none⟩) hlW).trans HBW.out.frozen; have HB5 := Lib.hid hb5; clear hb5)
        exact LI.set HI.out (by rw [HN.out]) HBL.out (by omega) HB5.out HIn.out (by omega)
      · have hc1 : decide (m < 0) = false := decide_eq_false c1
        by_cases c2 : q < m
        · have hc2 : decide (q < m) = true := decide_eq_true c2
          have HN := Lib.hid (nx.trans (if_pos (.inr c2)))
          clear nx c1 c2
          gi_wp2_with (refine ⟨trivial, rfl, ?_⟩; gi_at_call 13; refine (CallsIn.inRound l (callsIn_wide.2 MC.out)).mono ?_; rintro e w5 ⟨rfl, hb5⟩; have e5 := (hb5.cell (p := ⟨w.heap.size + 1 + 1 + 1, 0, none⟩) hlW).trans HBW.out.cell; have e6 := (hb5.frozen (p := ⟨w.heap.size + 1 + 1 + 1, 0, none⟩) hlW).trans HBW.out.frozen; have HB5 := Lib.hid hb5; clear hb5)
          exact LI.set HI.out (by rw [HN.out]) HBL.out (by omega) HB5.out HIn.out (by omega)
        · have hc2 : decide (q < m) = false := decide_eq_false c2
          have HN := Lib.hid (nx.trans (if_neg (by omega)))
          clear nx c1 c2
          gi_wp2_with (refine ⟨trivial, rfl, ?_⟩; gi_at_call 13; refine (CallsIn.inRound l (callsIn_wide.2 MC.out)).mono ?_; rintro e w5 ⟨rfl, hb5⟩; have e5 := (hb5.cell (p := ⟨w.heap.size + 1 + 1 + 1, 0, none⟩) hlW).trans HBW.out.cell; have e6 := (hb5.frozen (p := ⟨w.heap.size + 1 + 1 + 1, 0, none⟩) hlW).trans HBW.out.frozen; have HB5 := Lib.hid hb5; clear hb5)
          exact LI.keep HI.out (by rw [HN.out]; exact HM.out) HBL.out HB5.out HIn.out (by omega)
    case done =>
      rintro D W hD ⟨i1, i2, i3, i4⟩ hB hK
      have hc := i2.cell
      have HO2 := Lib.hid (Am.out_all (xs := xs) (ys := ys) (k := k))
      have HBe := Lib.hid (HC.out.2.2.2.2.2.2.1.trans hB)
      have hDw : w.heap.size ≤ D := by have := HC.out.2.2.2.2.2.2.2; omega
      have hlt : D < W.heap.size := (Array.getElem?_eq_some_iff.1 hK).1
      gi_wp2
      refine ⟨by simp, .inl ⟨_, _, rfl, run_takeDeferred hK, ?_⟩⟩
      exact ⟨_, results_tmp rfl _ _ _, by rw [HO2.out]; rfl, HBe.out.trans (below_putObj W _ hDw hlt)⟩

end Go.Proofs.Ytnfjdlocmdgefaa

/- Contracts (SzC). -/
namespace Go.Proofs.Ytnfjdlocmdgefaa
open Go.RowKit
set_option linter.unusedVariables false

set_option maxHeartbeats 400000 in
theorem szIntS_any (A : Option Addr) (n c : Nat) (left : Int) (w : World) (hn : n ≤ 9223372036854775807) (h0 : 0 ≤ left) (h1 : left ≤ 1048576) :
    Calls Try.prog 50 #[.slice A n c, .int .i64 left] w fun e w' => e = .returned (.int .i64 (if (n : Int) ≤ left then left - n else -1)) ∧ w = w' := by
  by_cases h : (n : Int) ≤ left
  · rw [if_pos h]
    go_enter Try.func50, Try.ntmps50
    go_wp2
    go_ret
    exact ⟨rfl, rfl⟩
  · rw [if_neg h]
    go_enter Try.func50, Try.ntmps50
    go_wp2
    go_ret
    exact ⟨rfl, rfl⟩
set_option maxHeartbeats 1600000 in
set_option maxRecDepth 100000 in
theorem szCost_any (A0 A1 A2 : Option Addr) (n0 n1 n2 c0 c1 c2 : Nat) (left : Int) (w : World) (l0 : n0 ≤ 9223372036854775807) (l1 : n1 ≤ 9223372036854775807) (l2 : n2 ≤ 9223372036854775807) (h0 : 0 ≤ left) (h1 : left ≤ 1048576) :
    Calls Try.prog 24 #[.agg #[.slice A0 n0 c0, .slice A1 n1 c1, .slice A2 n2 c2], .int .i64 left] w fun e w' => e = .returned (.int .i64 (if (n0 : Int) + n1 + n2 ≤ left then left - (n0 + n1 + n2 : Nat) else -1)) ∧ Below w.heap.size w w' := by
  have HB := Lib.hid ((Below.refl w.heap.size w).alloc (Nat.le_refl _) (.cells #[.slice A0 n0 c0, .slice A1 n1 c1, .slice A2 n2 c2] 47))
  by_cases q0 : (n0 : Int) ≤ left
  · by_cases q1 : (n1 : Int) ≤ left - n0
    · by_cases q2 : (n2 : Int) ≤ left - n0 - n1
      · rw [if_pos (by omega)]
        go_enter Try.func24, Try.ntmps24
        go_wp2_with fail
        refine (szIntS_any _ _ _ (left) _ l0 h0 h1).mono ?_
        rintro e w' ⟨rfl, rfl⟩
        rw [if_pos (by omega)]
        go_wp2_with fail
        refine (szIntS_any _ _ _ (left - n0) _ l1 (by omega) (by omega)).mono ?_
        rintro e w' ⟨rfl, rfl⟩
        rw [if_pos (by omega)]
        go_wp2_with fail
        refine (szIntS_any _ _ _ (left - n0 - n1) _ l2 (by omega) (by omega)).mono ?_
        rintro e w' ⟨rfl, rfl⟩
        rw [if_pos (by omega)]
        go_wp2
        go_ret
        exact ⟨Kit.ret_int (by omega), HB.out⟩
      · rw [if_neg (by omega)]
        go_enter Try.func24, Try.ntmps24
        go_wp2_with fail
        refine (szIntS_any _ _ _ (left) _ l0 h0 h1).mono ?_
        rintro e w' ⟨rfl, rfl⟩
        rw [if_pos (by omega)]
        go_wp2_with fail
        refine (szIntS_any _ _ _ (left - n0) _ l1 (by omega) (by omega)).mono ?_
        rintro e w' ⟨rfl, rfl⟩
        rw [if_pos (by omega)]
        go_wp2_with fail
        refine (szIntS_any _ _ _ (left - n0 - n1) _ l2 (by omega) (by omega)).mono ?_
        rintro e w' ⟨rfl, rfl⟩
        rw [if_neg (by omega)]
        go_wp2
        go_ret
        exact ⟨rfl, HB.out⟩
    · rw [if_neg (by omega)]
      go_enter Try.func24, Try.ntmps24
      go_wp2_with fail
      refine (szIntS_any _ _ _ (left) _ l0 h0 h1).mono ?_
      rintro e w' ⟨rfl, rfl⟩
      rw [if_pos (by omega)]
      go_wp2_with fail
      refine (szIntS_any _ _ _ (left - n0) _ l1 (by omega) (by omega)).mono ?_
      rintro e w' ⟨rfl, rfl⟩
      rw [if_neg (by omega)]
      go_wp2
      go_ret
      exact ⟨rfl, HB.out⟩
  · rw [if_neg (by omega)]
    go_enter Try.func24, Try.ntmps24
    go_wp2_with fail
    refine (szIntS_any _ _ _ (left) _ l0 h0 h1).mono ?_
    rintro e w' ⟨rfl, rfl⟩
    rw [if_neg (by omega)]
    go_wp2
    go_ret
    exact ⟨rfl, HB.out⟩

end Go.Proofs.Ytnfjdlocmdgefaa

/- Contracts (Three2). -/
namespace Go.Proofs.Ytnfjdlocmdgefaa
open Go.RowKit
set_option linter.unusedVariables false

theorem Apart.of_new {v v' : Value} {w w' : World} {base size n n' : Nat} {e e' : TypeId} {ys ys' : List Value} (h : w.ownsRow base e size v n ys) (h' : w'.ownsRow w.heap.size e' size v' n' ys') : Apart v v' := by
  rcases hb : v.ownBlock with _ | g
  · exact .inl hb
  · refine .inr fun e => ?_
    have h1 := (h.lt g hb).2
    rw [hb] at e
    have h2 := (h'.lt g e.symm).1
    omega
theorem Three.put0 {w0 w w' : World} {g n0 n1 n2 n' : Nat} {L0 L1 L2 L' : List Int} {v0 v1 v2 v' : Value} (hg : w0.heap.size ≤ g) (h : ThreeAt w0 g n0 n1 n2 L0 L1 L2 v0 v1 v2 w)
    (hb : Below w.heap.size w w') (hown : w'.ownsRow w.heap.size 3 1 v' n' (ints L')) :
    ThreeAt w0 g n' n1 n2 L' L1 L2 v' v1 v2 (w'.setCell ⟨g, 0, none⟩ v') := by
  obtain ⟨hx, hf, o0, o1, o2, a01, a02, a12, hB, hgl⟩ := h
  have hgw : g < w'.heap.size := by have := hb.size; omega
  have hgs := Kit.grown_set w' g 0 v'
  have keep : ∀ {v : Value} {n : Nat} {ys : List Value}, w'.ownsRow (g + 1) 3 1 v n ys → (w'.setCell ⟨g, 0, none⟩ v').ownsRow (g + 1) 3 1 v n ys := fun k => own_grown k hgs (fun b hb => by injection hb with hb; omega)
  obtain ⟨b0, b1, b2⟩ := hx.below hb hgl
  refine ⟨⟨?_, ?_, ?_⟩, fun off => ?_, ?_, ?_, ?_, (Apart.of_new o1 hown).symm, (Apart.of_new o2 hown).symm, a12, (hB.trans (hb.mono hB.size)).setCell (by exact hg) _, by simpa using hgw⟩
  · exact World.cell?_setCell_same' _ _ _ (by rw [b0]; rfl)
  · rw [World.cell?_setCell_other _ _ _ _ (fun e => by injection e with e1 e2; omega)]; exact b1
  · rw [World.cell?_setCell_other _ _ _ _ (fun e => by injection e with e1 e2; omega)]; exact b2
  · rw [World.frozen?_setCell]
    have e := hb.block g hgl
    have := hf off
    unfold World.frozen? at this ⊢
    simp only [e]
    exact this
  · exact keep (own_base hown (by omega))
  · exact keep (own_below o1 hb)
  · exact keep (own_below o2 hb)
theorem Three.put1 {w0 w w' : World} {g n0 n1 n2 n' : Nat} {L0 L1 L2 L' : List Int} {v0 v1 v2 v' : Value} (hg : w0.heap.size ≤ g) (h : ThreeAt w0 g n0 n1 n2 L0 L1 L2 v0 v1 v2 w)
    (hb : Below w.heap.size w w') (hown : w'.ownsRow w.heap.size 3 1 v' n' (ints L')) :
    ThreeAt w0 g n0 n' n2 L0 L' L2 v0 v' v2 (w'.setCell ⟨g, 1, none⟩ v') := by
  obtain ⟨hx, hf, o0, o1, o2, a01, a02, a12, hB, hgl⟩ := h
  have hgw : g < w'.heap.size := by have := hb.size; omega
  have hgs := Kit.grown_set w' g 1 v'
  have keep : ∀ {v : Value} {n : Nat} {ys : List Value}, w'.ownsRow (g + 1) 3 1 v n ys → (w'.setCell ⟨g, 1, none⟩ v').ownsRow (g + 1) 3 1 v n ys := fun k => own_grown k hgs (fun b hb => by injection hb with hb; omega)
  obtain ⟨b0, b1, b2⟩ := hx.below hb hgl
  refine ⟨⟨?_, ?_, ?_⟩, fun off => ?_, ?_, ?_, ?_, (Apart.of_new o0 hown), a02, (Apart.of_new o2 hown).symm, (hB.trans (hb.mono hB.size)).setCell (by exact hg) _, by simpa using hgw⟩
  · rw [World.cell?_setCell_other _ _ _ _ (fun e => by injection e with e1 e2; omega)]; exact b0
  · exact World.cell?_setCell_same' _ _ _ (by rw [b1]; rfl)
  · rw [World.cell?_setCell_other _ _ _ _ (fun e => by injection e with e1 e2; omega)]; exact b2
  · rw [World.frozen?_setCell]
    have e := hb.block g hgl
    have := hf off
    unfold World.frozen? at this ⊢
    simp only [e]
    exact this
  · exact keep (own_below o0 hb)
  · exact keep (own_base hown (by omega))
  · exact keep (own_below o2 hb)
theorem Three.put2 {w0 w w' : World} {g n0 n1 n2 n' : Nat} {L0 L1 L2 L' : List Int} {v0 v1 v2 v' : Value} (hg : w0.heap.size ≤ g) (h : ThreeAt w0 g n0 n1 n2 L0 L1 L2 v0 v1 v2 w)
    (hb : Below w.heap.size w w') (hown : w'.ownsRow w.heap.size 3 1 v' n' (ints L')) :
    ThreeAt w0 g n0 n1 n' L0 L1 L' v0 v1 v' (w'.setCell ⟨g, 2, none⟩ v') := by
  obtain ⟨hx, hf, o0, o1, o2, a01, a02, a12, hB, hgl⟩ := h
  have hgw : g < w'.heap.size := by have := hb.size; omega
  have hgs := Kit.grown_set w' g 2 v'
  have keep : ∀ {v : Value} {n : Nat} {ys : List Value}, w'.ownsRow (g + 1) 3 1 v n ys → (w'.setCell ⟨g, 2, none⟩ v').ownsRow (g + 1) 3 1 v n ys := fun k => own_grown k hgs (fun b hb => by injection hb with hb; omega)
  obtain ⟨b0, b1, b2⟩ := hx.below hb hgl
  refine ⟨⟨?_, ?_, ?_⟩, fun off => ?_, ?_, ?_, ?_, a01, (Apart.of_new o0 hown), (Apart.of_new o1 hown), (hB.trans (hb.mono hB.size)).setCell (by exact hg) _, by simpa using hgw⟩
  · rw [World.cell?_setCell_other _ _ _ _ (fun e => by injection e with e1 e2; omega)]; exact b0
  · rw [World.cell?_setCell_other _ _ _ _ (fun e => by injection e with e1 e2; omega)]; exact b1
  · exact World.cell?_setCell_same' _ _ _ (by rw [b2]; rfl)
  · rw [World.frozen?_setCell]
    have e := hb.block g hgl
    have := hf off
    unfold World.frozen? at this ⊢
    simp only [e]
    exact this
  · exact keep (own_below o0 hb)
  · exact keep (own_below o1 hb)
  · exact keep (own_base hown (by omega))

end Go.Proofs.Ytnfjdlocmdgefaa

/- Contracts (ToIS). -/
namespace Go.Proofs.Ytnfjdlocmdgefaa
open Go.RowKit
set_option linter.unusedVariables false

set_option maxHeartbeats 1600000 in
set_option maxRecDepth 100000 in
theorem toIntS_any (A : Option Addr) (n c : Nat) (zs : List Int) (w : World) (h : IntIn w w.heap.size A n zs) (hn : n ≤ 1048576) :
    Calls Try.prog 52 #[.slice A n c] w fun e w' => e = .returned (.slice (some ⟨w.heap.size, 0, none⟩) n n) ∧ w'.ownsRow w.heap.size 3 1 (.slice (some ⟨w.heap.size, 0, none⟩) n n) n (ints zs) ∧ Below w.heap.size w w' := by
  have H := Lib.hid h
  have HL := Lib.hid h.1
  clear h
  obtain ⟨i0, hi, hz0, hz1, hz2⟩ := info_parts info_intZ
  have Hi := Lib.hid hi
  clear hi
  have HZ0 := Lib.hid (show List.replicate n (0 : Int) = Zs.part zs 0 by rw [Zs.part_zero, HL.out])
  go_enter Try.func52, Try.ntmps52
  go_wp2_with (at_make; go_loud (refine wpList_make_full _ rfl _ _ 25 rfl w.heap.size 3 i0 (.int .i64 0) 1 Try.underlying25 Hi.out hz0 hz1 _ _ _ _ n rfl rfl rfl rfl (by rw [hz2]; omega) (by unfold maxLen; omega) (Nat.le_refl _) ?_); intro w2 hown2 hgrow2)
  have hb2 : Below w.heap.size w w2 := (Below.refl _ w).grown hgrow2 (Nat.le_refl _) (fun _ h => by cases h)
  rw [made_zeros 0 n, HZ0.out] at hown2
  have HO2 := Lib.hid hown2
  have HB2 := Lib.hid hb2
  clear hown2 hgrow2 hb2
  go_wp2
  go_loopw [4] (fun iv wr => ∃ k : Nat, k ≤ n ∧ iv = .int .i64 k ∧ wr.ownsRow w.heap.size 3 1 (.slice (some ⟨w.heap.size, 0, none⟩) n n) n (ints (Zs.part zs k)) ∧ Below w.heap.size w wr) (fun i _ => n - (intOf i).toNat)
  case atStart => exact ⟨0, Nat.zero_le _, rfl, HO2.out, HB2.out⟩
  case round =>
    clear HO2 HB2
    obtain ⟨k, hk, rfl, hown, hB⟩ := hrel
    have Ho := Lib.hid hown
    have HB := Lib.hid hB
    clear hown hB
    by_cases hlt : k < n
    · obtain ⟨ad, rfl, _, c1⟩ := (H.out.below HB.out).at_ hlt
      have c0 := own_int Ho.out (k := k) (by rw [Zs.part_length zs k (by rw [HL.out]; exact hk), HL.out]; exact hlt)
      have f0 := Ho.out.frozenAt k
      have b2 : (0 : Int) ≤ (k : Int) := by omega
      have b3 : (k : Int) < (n : Int) := by omega
      go_wp2
      go_roundw
      case rel =>
        refine ⟨k + 1, by omega, by go_num, ?_, HB.out.setCell (Nat.le_refl _) _⟩
        have := (Ho.out.stored k (.int .i64 (Zs.at zs k))).1
        rw [ints_set, Zs.part_set zs k (by rw [HL.out]; exact hlt)] at this
        exact this
      case measure => simp [intOf]; omega
    · obtain rfl : k = n := by omega
      rw [show Zs.part zs k = zs by rw [← HL.out]; exact Zs.part_all zs] at Ho
      go_wp2
      go_ret
      exact ⟨rfl, Ho.out, HB.out⟩
/-- the like, where the answer lies left open -/
theorem toIntS_own (A : Option Addr) (n c : Nat) (zs : List Int) (w : World) (h : IntIn w w.heap.size A n zs) (hn : n ≤ 1048576) :
    Calls Try.prog 52 #[.slice A n c] w fun e w' => ∃ A' c', e = .returned (.slice A' n c') ∧ w'.ownsRow w.heap.size 3 1 (.slice A' n c') n (ints zs) ∧ Below w.heap.size w w' :=
  (toIntS_any A n c zs w h hn).mono fun _ _ ⟨h1, h2, h3⟩ => ⟨_, _, h1, h2, h3⟩

end Go.Proofs.Ytnfjdlocmdgefaa

/- Contracts (ToCo). -/
namespace Go.Proofs.Ytnfjdlocmdgefaa
open Go.RowKit
set_option linter.unusedVariables false

set_option maxHeartbeats 1600000 in
set_option maxRecDepth 100000 in
theorem toCost_any (A0 A1 A2 : Option Addr) (n0 n1 n2 c0 c1 c2 : Nat) (k : Co) (w : World) (h : CoIn w w.heap.size A0 A1 A2 n0 n1 n2 k) (h0 : n0 ≤ 1048576) (h1 : n1 ≤ 1048576) (h2 : n2 ≤ 1048576) :
    Calls Try.prog 26 #[.agg #[.slice A0 n0 c0, .slice A1 n1 c1, .slice A2 n2 c2]] w (OwnCo k w) := by
  have H := Lib.hid h
  have HL := Lib.hid h.len
  clear h
  obtain ⟨o1, ho1⟩ : ∃ o, o = Obj.cells #[.slice A0 n0 c0, .slice A1 n1 c1, .slice A2 n2 c2] 47 := ⟨_, rfl⟩
  obtain ⟨o2, ho2⟩ : ∃ o, o = Obj.cells #[.slice none 0 0, .slice none 0 0, .slice none 0 0] 27 := ⟨_, rfl⟩
  obtain ⟨s, hs⟩ : ∃ s, s = w.heap.size := ⟨_, rfl⟩
  have s1 : (w.alloc o1).heap.size = s + 1 := by rw [hs]; simp
  have s2 : ((w.alloc o1).alloc o2).heap.size = s + 2 := by rw [hs]; simp
  have hb1 := (Below.refl w.heap.size w).alloc (Nat.le_refl _) o1
  have hb2 := hb1.alloc hb1.size o2
  have hx0 : Box3 (w.alloc o1) s (.slice A0 n0 c0) (.slice A1 n1 c1) (.slice A2 n2 c2) := by rw [ho1, hs]; exact Box3.made _ _ _ _ _
  have hz0 : Box3 ((w.alloc o1).alloc o2) (s + 1) (.slice none 0 0) (.slice none 0 0) (.slice none 0 0) := by rw [← s1, ho2]; exact Box3.made _ _ _ _ _
  have hzf : ∀ off, ((w.alloc o1).alloc o2).frozen? ⟨s + 1, off, none⟩ = false := by rw [← s1, ho2]; exact Box3.free _ _ _ _ _
  have hT : ThreeAt ((w.alloc o1).alloc o2) (s + 2) 0 0 0 [] [] [] (.slice none 0 0) (.slice none 0 0) (.slice none 0 0) (((w.alloc o1).alloc o2).alloc o2) := by
    have := Three.new ((w.alloc o1).alloc o2) 27
    rw [← ho2, s2] at this
    exact this
  have hb3 : Below (s + 2) ((w.alloc o1).alloc o2) (((w.alloc o1).alloc o2).alloc o2) := by have := (Below.refl ((w.alloc o1).alloc o2).heap.size ((w.alloc o1).alloc o2)).alloc (Nat.le_refl _) o2; rw [s2] at this; exact this
  have HX := Lib.hid (hx0.alloc (by omega) o2)
  have HZ := Lib.hid hz0
  have HZF := Lib.hid hzf
  have HT := Lib.hid hT
  have HB2 := Lib.hid hb2
  have S2 := Lib.hid s2
  have hyb := ((hx0.alloc (by omega) o2).below hb3 (by omega)).1
  obtain ⟨wz, hwz⟩ : ∃ wz, wz = (w.alloc o1).alloc o2 := ⟨_, rfl⟩
  obtain ⟨wy, hwy⟩ : ∃ wy, wy = wz.alloc o2 := ⟨_, rfl⟩
  rw [← hwz] at HX HZ HZF HT HB2 S2 hyb
  rw [← hwy] at HT hyb
  have hgz : wz.heap.size ≤ s + 2 := by have := S2.out; omega
  clear hx0 hz0 hzf hT hb3 hb1 hb2 s1 s2
  subst ho1
  subst ho2
  have HSZ := Lib.hid hs
  clear hs
  go_enter Try.func26, Try.ntmps26
  have hB := HT.out.2.2.2.2.2.2.2.2.1
  have hgl := HT.out.2.2.2.2.2.2.2.2.2
  have HC := Lib.hid ((H.out.below (HB2.out.trans (hB.mono HB2.out.size))).more (HB2.out.trans (hB.mono HB2.out.size)).size)
  go_wp2_with fail
  rw [← hwz, ← hwy, ← HSZ.out, show s + 1 + 1 = s + 2 from rfl]
  refine (toIntS_own _ _ _ k.d _ HC.out.1 h0).mono ?_
  rintro e w1 ⟨B0, b0, rfl, ho, hb⟩
  have d0 := (HT.out.1.below hb hgl).1
  have e0 := free_below hb hgl HT.out.2.1 0
  have b := (HX.out.below (hB.trans (hb.mono hB.size)) (by rw [S2.out]; omega)).2.1
  have HT := Lib.hid (Three.put0 hgz HT.out hb ho)
  clear HC hB hgl ho hb
  clear hyb hwy hwz
  have hB := HT.out.2.2.2.2.2.2.2.2.1
  have hgl := HT.out.2.2.2.2.2.2.2.2.2
  have HC := Lib.hid ((H.out.below (HB2.out.trans (hB.mono HB2.out.size))).more (HB2.out.trans (hB.mono HB2.out.size)).size)
  go_wp2_with fail
  refine (toIntS_own _ _ _ k.i _ HC.out.2.1 h1).mono ?_
  rintro e w2 ⟨B1, b1, rfl, ho, hb⟩
  have d1 := (HT.out.1.below hb hgl).2.1
  have e1 := free_below hb hgl HT.out.2.1 1
  have b := (HX.out.below (hB.trans (hb.mono hB.size)) (by rw [S2.out]; omega)).2.2
  have HT := Lib.hid (Three.put1 hgz HT.out hb ho)
  clear HC hB hgl ho hb
  have hB := HT.out.2.2.2.2.2.2.2.2.1
  have hgl := HT.out.2.2.2.2.2.2.2.2.2
  have HC := Lib.hid ((H.out.below (HB2.out.trans (hB.mono HB2.out.size))).more (HB2.out.trans (hB.mono HB2.out.size)).size)
  go_wp2_with fail
  refine (toIntS_own _ _ _ k.r _ HC.out.2.2 h2).mono ?_
  rintro e w3 ⟨B2, b2, rfl, ho, hb⟩
  have d2 := (HT.out.1.below hb hgl).2.2
  have e2 := free_below hb hgl HT.out.2.1 2
  have d0 := (HT.out.1.below hb hgl).1
  have d1 := (HT.out.1.below hb hgl).2.1
  have z := HZ.out.below (hB.trans (hb.mono hB.size)) (by rw [S2.out]; omega)
  have z0 := z.1
  have z1 := z.2.1
  have z2 := z.2.2
  have zf := free_below (hB.trans (hb.mono hB.size)) (by rw [S2.out]; omega) HZF.out
  have f0 := zf 0
  have f1 := zf 1
  have f2 := zf 2
  clear z zf
  have HT := Lib.hid (Three.put2 hgz HT.out hb ho)
  clear HC hB hgl ho hb
  go_wp2
  refine bodyPost_ret (v := .agg #[.slice B0 n0 b0, .slice B1 n1 b1, .slice B2 n2 b2]) ?_ rfl ?_
  · rw [results_cell1 rfl]
    go_simp
  · have hs := HSZ.out
    have ho := Three.out (s := s + 1) (base := w.heap.size) (u0 := .slice B0 n0 b0) (u1 := .slice B1 n1 b1) (u2 := .slice B2 n2 b2) HT.out (by omega) (by omega)
    have hB := HT.out.2.2.2.2.2.2.2.2.1
    have hb := HB2.out.trans (hB.mono HB2.out.size)
    unfold OwnCo
    rw [HL.out.1, HL.out.2.1, HL.out.2.2]
    exact ⟨B0, B1, B2, b0, b1, b2, rfl, ho.1, ho.2.1, ho.2.2.1, ho.2.2.2.1, ho.2.2.2.2.1, ho.2.2.2.2.2, ((hb.setCell (p := ⟨s + 1, 0, none⟩) (by simp only; omega) _).setCell (p := ⟨s + 1, 1, none⟩) (by simp only; omega) _).setCell (p := ⟨s + 1, 2, none⟩) (by simp only; omega) _⟩

end Go.Proofs.Ytnfjdlocmdgefaa

/- Contracts (CoSm). -/
namespace Go.Proofs.Ytnfjdlocmdgefaa
open Go.RowKit
set_option linter.unusedVariables false

def Co.same (a b : Co) : Bool := decide (a.d = b.d) && decide (a.i = b.i) && decide (a.r = b.r)

end Go.Proofs.Ytnfjdlocmdgefaa
