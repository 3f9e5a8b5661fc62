/- Texts of one claim laid into one file, in build order: SlowS, RelI, SloI, ExSlowDist. -/
import Derived.Test.YtlndaflhlkbedaaMg14
import Derived.Deep.RegionHeld3
import Derived.Outline
/- Contracts (SlowS). -/
namespace Go.Proofs.Ytlndaflhlkbedaa
open Go.RowKit
set_option linter.unusedVariables false

theorem Tr.slow_eq {xs ys : Tr} {k : Co} (h1 : Tr.ok xs = true) (h2 : Tr.ok ys = true) (h3 : Co.ok k = true) : RR xs ys k 0 (max 0 (Tr.la xs (xs.length - 1))) 0 (max 0 (Tr.la ys (ys.length - 1))) + RR xs ys k (max 0 (Tr.la xs (xs.length - 1))) (xs.length - 1) (max 0 (Tr.la ys (ys.length - 1))) (ys.length - 1) + Co.rel k (Tr.xa xs (xs.length - 1)) (Tr.xa ys (ys.length - 1)) = Tr.rootDist xs ys k := by
  rw [Tr.la_last h1, Tr.la_last h2, Tr.xa_last h1, Tr.xa_last h2]
  unfold Tr.rootDist
  rw [h1, h2, h3]
  show RR xs ys k 0 (max 0 0) 0 (max 0 0) + RR xs ys k (max 0 0) _ (max 0 0) _ + _ = _
  rw [show max 0 0 = 0 from rfl]
  have : RR xs ys k 0 0 0 0 = 0 := RD_none (Nat.le_refl _) (Nat.le_refl _)
  rw [this, Int.zero_add]
  rfl
section
variable (A A' : Option Addr) (n n' c c' : Nat) (xs ys : Tr) (K0 K1 K2 : Option Addr) (n0 n1 n2 c0 c1 c2 : Nat) (k : Co) (w : World) (ha : NdIn w w.heap.size A n xs) (hb : NdIn w w.heap.size A' n' ys) (hk : CoIn w w.heap.size K0 K1 K2 n0 n1 n2 k)
    (hn : n ≤ 1048576) (hn' : n' ≤ 1048576) (h0 : n0 ≤ 1048576) (h1 : n1 ≤ 1048576) (h2 : n2 ≤ 1048576)
include ha hb hk hn hn' h0 h1 h2
set_option maxHeartbeats 1600000 in
set_option maxRecDepth 100000 in
theorem specSlowDist_any : Calls Try.prog 54 #[.slice A n c, .slice A' n' c', .agg #[.slice K0 n0 c0, .slice K1 n1 c1, .slice K2 n2 c2]] w fun e w' => e = .returned (.int .i64 (Tr.rootDist xs ys k)) ∧ Below w.heap.size w w' := by
  obtain ⟨wc, hwc⟩ : ∃ wc, wc = w.alloc (.cells #[.slice K0 n0 c0, .slice K1 n1 c1, .slice K2 n2 c2] 27) := ⟨_, rfl⟩
  have hbc : Below w.heap.size w wc := by rw [hwc]; exact (Below.refl _ _).alloc (Nat.le_refl _) _
  have HQ := Lib.hid (show Box3 wc w.heap.size (.slice K0 n0 c0) (.slice K1 n1 c1) (.slice K2 n2 c2) by rw [hwc]; exact Box3.made _ _ _ _ _)
  have HL := Lib.hid (show w.heap.size < wc.heap.size by rw [hwc]; simp)
  have HWC := Lib.hid hwc
  have HA := Lib.hid (ha.to_below hbc)
  have HB := Lib.hid (hb.to_below hbc)
  have HK := Lib.hid (hk.to_below hbc)
  have HBC := Lib.hid hbc
  cases hd : DOk xs ys k with
  | false =>
    have Hf := Lib.hid (show Tr.rootDist xs ys k = -1 by unfold DOk at hd; unfold Tr.rootDist; rw [hd]; rfl)
    have HD := Lib.hid (show (Tr.ok xs && Tr.ok ys && Co.ok k) = false from hd)
    clear ha hb hk hd hwc hbc
    go_enter Try.func54, Try.ntmps54
    go_wp2_with fail
    rw [← HWC.out]
    refine (l8Three_any (c := _) (c' := _) (c0 := _) (c1 := _) (c2 := _) (ha := HA.out) (hb := HB.out) (hk := HK.out) (hn := hn) (hn' := hn') (h0 := h0) (h1 := h1) (h2 := h2)).mono ?_
    rintro e w1 ⟨rfl, b1⟩
    have HA := Lib.hid (HA.out.to_below b1)
    have HB := Lib.hid (HB.out.to_below b1)
    have HK := Lib.hid (HK.out.to_below b1)
    have HQ := Lib.hid (HQ.out.below b1 HL.out)
    have HL := Lib.hid (Nat.lt_of_lt_of_le HL.out b1.size)
    have HBC := Lib.hid (HBC.out.trans (b1.mono HBC.out.size))
    clear b1
    rw [HD.out]
    go_wp2
    go_ret
    exact ⟨Kit.ret_int Hf.out.symm, HBC.out⟩
  | true =>
    obtain ⟨o1, o2, o3⟩ := DOk.parts hd
    have hln := ha.1
    have hln' := hb.1
    have HL1 := Lib.hid hln
    have HL2 := Lib.hid hln'
    have O1 := Lib.hid o1
    have O2 := Lib.hid o2
    have O3 := Lib.hid o3
    have HD := Lib.hid (show (Tr.ok xs && Tr.ok ys && Co.ok k) = true from hd)
    clear ha hb hk hd hwc hbc o1 o2 o3 hln hln'
    go_enter Try.func54, Try.ntmps54
    go_wp2_with fail
    rw [← HWC.out]
    refine (l8Three_any (c := _) (c' := _) (c0 := _) (c1 := _) (c2 := _) (ha := HA.out) (hb := HB.out) (hk := HK.out) (hn := hn) (hn' := hn') (h0 := h0) (h1 := h1) (h2 := h2)).mono ?_
    rintro e w1 ⟨rfl, b1⟩
    have HA := Lib.hid (HA.out.to_below b1)
    have HB := Lib.hid (HB.out.to_below b1)
    have HK := Lib.hid (HK.out.to_below b1)
    have HQ := Lib.hid (HQ.out.below b1 HL.out)
    have HL := Lib.hid (Nat.lt_of_lt_of_le HL.out b1.size)
    have HBC := Lib.hid (HBC.out.trans (b1.mono HBC.out.size))
    clear b1
    rw [HD.out]
    obtain ⟨q0, q1, q2⟩ := HQ.out
    go_wp2_with fail
    clear q0 q1 q2
    refine (l9New_any _ _ _ _ _ _ xs ys _ _ _ _ _ _ _ _ _ k _ HA.out HB.out HK.out O1.out O2.out O3.out).mono ?_
    rintro e w2 ⟨D, N, K, rfl, hM, b2⟩
    have BB := Lib.hid (HBC.out.trans (b2.mono HBC.out.size))
    have HM := Lib.hid hM
    clear hM b2
    have hln := (Tr.len24 O1.out).1
    have hln' := (Tr.len24 O2.out).1
    have C := Lib.hid (l9Match_any w1.heap.size N D xs ys k (xs.length + ys.length) O1.out O2.out O3.out (l9Dist_any w1.heap.size N D xs ys k O1.out O2.out O3.out _) 0 xs.length 0 ys.length w2 (by omega) (Nat.le_refl _) (by omega) (Nat.le_refl _) (by omega) ⟨K, HM.out⟩)
    rw [Tr.slow_eq O1.out O2.out O3.out, HL1.out, HL2.out] at C
    clear hln hln'
    go_wp2_with fail
    refine C.out.mono ?_
    rintro e w3 ⟨rfl, hk3⟩
    have BF := Lib.hid (BB.out.trans (hk3.2.mono HBC.out.size))
    go_wp2
    go_ret
    exact ⟨rfl, BF.out⟩
end

end Go.Proofs.Ytlndaflhlkbedaa

/- Contracts (RelI). -/
namespace Go.Proofs.Ytlndaflhlkbedaa
open Go.RowKit
set_option linter.unusedVariables false

set_option maxHeartbeats 1600000 in
set_option maxRecDepth 100000 in
theorem implRelCost_any (A0 A1 A2 : Option Addr) (n0 n1 n2 c0 c1 c2 : Nat) (k : Co) (a b : Int) (w : World) (h : CoIn w w.heap.size A0 A1 A2 n0 n1 n2 k) (h0 : n0 ≤ 1048576) (h1 : n1 ≤ 1048576) (h2 : n2 ≤ 1048576) :
    Calls Try.prog 70 #[.agg #[.slice A0 n0 c0, .slice A1 n1 c1, .slice A2 n2 c2], .int .i64 a, .int .i64 b] w fun e w' => e = .returned (.int .i64 (Co.rel k a b)) ∧ Below w.heap.size w w' := by
  have H := Lib.hid h
  have HL := Lib.hid h.len
  clear h
  have HB := Lib.hid ((Below.refl w.heap.size w).alloc (Nat.le_refl _) (.cells #[.slice A0 n0 c0, .slice A1 n1 c1, .slice A2 n2 c2] 27))
  have H1 := Lib.hid (H.out.to_below HB.out)
  cases e0 : Co.ok k with
  | false =>
    have Hf := Lib.hid (show Co.rel k a b = 0 by unfold Co.rel; rw [e0]; rfl)
    have E0 := Lib.hid e0
    clear e0
    go_enter Try.func70, Try.ntmps70
    go_wp2_with fail
    refine (implCostOk_any _ _ _ _ _ _ _ _ _ k _ H1.out h0 h1 h2).mono ?_
    rintro e w1 ⟨rfl, hb⟩
    have HB := Lib.hid (HB.out.trans (hb.mono HB.out.size))
    clear hb
    rw [E0.out]
    go_wp2
    go_ret
    exact ⟨Kit.ret_int Hf.out.symm, HB.out⟩
  | true =>
    cases e1 : Lab.ok a with
    | false =>
      have Hf := Lib.hid (show Co.rel k a b = 0 by unfold Co.rel; rw [e0, e1]; rfl)
      have E0 := Lib.hid e0
      have E1 := Lib.hid e1
      clear e0 e1
      go_enter Try.func70, Try.ntmps70
      go_wp2_with fail
      refine (implCostOk_any _ _ _ _ _ _ _ _ _ k _ H1.out h0 h1 h2).mono ?_
      rintro e w1 ⟨rfl, hb⟩
      have HB := Lib.hid (HB.out.trans (hb.mono HB.out.size))
      clear hb
      rw [E0.out]
      go_wp2_with fail
      refine (implLabelOk_any _ _).mono ?_
      rintro e w2 ⟨rfl, rfl⟩
      rw [E1.out]
      go_wp2
      go_ret
      exact ⟨Kit.ret_int Hf.out.symm, HB.out⟩
    | true =>
      cases e2 : Lab.ok b with
      | false =>
        have Hf := Lib.hid (show Co.rel k a b = 0 by unfold Co.rel; rw [e0, e1, e2]; rfl)
        have E0 := Lib.hid e0
        have E1 := Lib.hid e1
        have E2 := Lib.hid e2
        clear e0 e1 e2
        go_enter Try.func70, Try.ntmps70
        go_wp2_with fail
        refine (implCostOk_any _ _ _ _ _ _ _ _ _ k _ H1.out h0 h1 h2).mono ?_
        rintro e w1 ⟨rfl, hb⟩
        have HB := Lib.hid (HB.out.trans (hb.mono HB.out.size))
        clear hb
        rw [E0.out]
        go_wp2_with fail
        refine (implLabelOk_any _ _).mono ?_
        rintro e w2 ⟨rfl, rfl⟩
        rw [E1.out]
        go_wp2_with fail
        refine (implLabelOk_any _ _).mono ?_
        rintro e w3 ⟨rfl, rfl⟩
        rw [E2.out]
        go_wp2
        go_ret
        exact ⟨Kit.ret_int Hf.out.symm, HB.out⟩
      | true =>
        have hd := (Zs.fit_iff.1 (Co.ok_iff.1 e0).2.2.1).1
        have ha : 0 ≤ a ∧ a ≤ 5 := by simpa [Lab.ok] using e1
        have hb' : 0 ≤ b ∧ b ≤ 5 := by simpa [Lab.ok] using e2
        obtain ⟨i, rfl⟩ := Int.eq_ofNat_of_zero_le ha.1
        obtain ⟨j, rfl⟩ := Int.eq_ofNat_of_zero_le hb'.1
        obtain ⟨p, hp⟩ : ∃ p, p = i * 6 + j := ⟨_, rfl⟩
        have Hf := Lib.hid (show Co.rel k (i : Int) (j : Int) = Zs.at k.r p by unfold Co.rel; rw [e0, e1, e2, hp]; rfl)
        have E0 := Lib.hid e0
        have E1 := Lib.hid e1
        have E2 := Lib.hid e2
        have hn6 : n2 = 36 := by rw [← hd]; exact HL.out.2.2.symm
        clear e0 e1 e2 hd
        subst hn6
        obtain ⟨ad, rfl, _⟩ := H1.out.2.2.2.1 (by omega)
        have a1 : IntKind.i64.wrap ((i : Int) * 6) = (i : Int) * 6 := Kit.w64 (by omega) (by omega)
        have a2 : IntKind.i64.wrap ((i : Int) * 6 + (j : Int)) = (p : Int) := by rw [Kit.w64 (by omega) (by omega)]; omega
        have a3 : (i : Int) * 6 + (j : Int) = (p : Int) := by omega
        have k1 : (0 : Int) ≤ (p : Int) := by omega
        have k2 : (p : Int) < 36 := by omega
        have hp36 : p < 36 := by omega
        have g0 : (w.alloc (.cells #[.slice A0 n0 c0, .slice A1 n1 c1, .slice (some ad) 36 c2] 27)).cell? ⟨w.heap.size, 2, none⟩ = some (.slice (some ad) 36 c2) := by simp
        clear hp ha hb'
        go_enter Try.func70, Try.ntmps70
        go_wp2_with fail
        refine (implCostOk_any _ _ _ _ _ _ _ _ _ k _ H1.out h0 h1 h2).mono ?_
        rintro e w1 ⟨rfl, hb⟩
        have HB := Lib.hid (HB.out.trans (hb.mono HB.out.size))
        have H1 := Lib.hid (H1.out.to_below hb)
        have g1 := (hb.cell (p := ⟨w.heap.size, 2, none⟩) (by simp)).trans g0
        have c1' := H1.out.2.2.here (k := p) hp36
        clear hb g0
        rw [E0.out]
        go_wp2_with fail
        refine (implLabelOk_any _ _).mono ?_
        rintro e w2 ⟨rfl, rfl⟩
        rw [E1.out]
        go_wp2_with fail
        refine (implLabelOk_any _ _).mono ?_
        rintro e w3 ⟨rfl, rfl⟩
        rw [E2.out]
        go_wp2_with fail
        go_quiet (first | (go_at_call 116; exact quiet_same ((relIndex_any _ _ _ (by omega) (by omega) (by omega) (by omega)).mono fun e w' ⟨h1, h2⟩ => ⟨by rw [h1, a3], h2⟩)))
        go_wp2
        go_ret
        exact ⟨Kit.ret_int Hf.out.symm, HB.out.trans ((Drawn.refl _).drewN _).toBelow⟩
end Go.Proofs.Ytlndaflhlkbedaa

/- Contracts (SloI). -/
namespace Go.Proofs.Ytlndaflhlkbedaa
open Go.RowKit
set_option linter.unusedVariables false

def BelW (w wq : World) : Prop := Below w.heap.size w wq
section
variable {w wa wx wy : World} {ad bd : Addr} {a b : Int} {K0 K1 K2 : Option Addr} {n0 n1 n2 c0 c1 c2 : Nat}
theorem sl_below (h : wx.cell? ⟨w.heap.size, 0, none⟩ = some (.slice K0 n0 c0) ∧ wx.cell? ⟨w.heap.size, 1, none⟩ = some (.slice K1 n1 c1) ∧ wx.cell? ⟨w.heap.size, 2, none⟩ = some (.slice K2 n2 c2) ∧ wx.cell? ad = some (.int .i64 a) ∧ wx.cell? bd = some (.int .i64 b) ∧ BelW wa wx) : Below wa.heap.size wa wx := h.2.2.2.2.2
theorem sl_keep (h : wx.cell? ⟨w.heap.size, 0, none⟩ = some (.slice K0 n0 c0) ∧ wx.cell? ⟨w.heap.size, 1, none⟩ = some (.slice K1 n1 c1) ∧ wx.cell? ⟨w.heap.size, 2, none⟩ = some (.slice K2 n2 c2) ∧ wx.cell? ad = some (.int .i64 a) ∧ wx.cell? bd = some (.int .i64 b) ∧ BelW wa wx) (hb : Below wx.heap.size wx wy) : wy.cell? ⟨w.heap.size, 0, none⟩ = some (.slice K0 n0 c0) ∧ wy.cell? ⟨w.heap.size, 1, none⟩ = some (.slice K1 n1 c1) ∧ wy.cell? ⟨w.heap.size, 2, none⟩ = some (.slice K2 n2 c2) ∧ wy.cell? ad = some (.int .i64 a) ∧ wy.cell? bd = some (.int .i64 b) ∧ BelW wa wy :=
  have c : ∀ {p : Addr} {v : Value}, wx.cell? p = some v → wy.cell? p = some v := fun hc => (hb.cell (World.block_lt_of_cell? _ _ hc)).trans hc
  ⟨c h.1, c h.2.1, c h.2.2.1, c h.2.2.2.1, c h.2.2.2.2.1, h.2.2.2.2.2.trans (hb.mono h.2.2.2.2.2.size)⟩
end
set_option maxHeartbeats 800000 in
set_option maxRecDepth 100000 in
theorem implSlowDist_any (A A' : Option Addr) (n n' c c' : Nat) (xs ys : Tr) (K0 K1 K2 : Option Addr) (n0 n1 n2 c0 c1 c2 : Nat) (k : Co) (w : World) (ha : NdIn w w.heap.size A n xs) (hb : NdIn w w.heap.size A' n' ys) (hk : CoIn w w.heap.size K0 K1 K2 n0 n1 n2 k) (hn : n ≤ 1048576) (hn' : n' ≤ 1048576) (h0 : n0 ≤ 1048576) (h1 : n1 ≤ 1048576) (h2 : n2 ≤ 1048576) (hc : n ≤ c) (hc' : n' ≤ c') :
    Calls Try.prog 16 #[.slice A n c, .slice A' n' c', .agg #[.slice K0 n0 c0, .slice K1 n1 c1, .slice K2 n2 c2]] w fun e w' => e = .returned (.int .i64 (Tr.rootDist xs ys k)) ∧ Below w.heap.size w w' := by
  obtain ⟨wc, hwc⟩ : ∃ wc, wc = w.alloc (.cells #[.slice K0 n0 c0, .slice K1 n1 c1, .slice K2 n2 c2] 27) := ⟨_, rfl⟩
  have hbc : Below w.heap.size w wc := by rw [hwc]; exact (Below.refl _ _).alloc (Nat.le_refl _) _
  have HQ := Lib.hid (show Box3 wc w.heap.size (.slice K0 n0 c0) (.slice K1 n1 c1) (.slice K2 n2 c2) by rw [hwc]; exact Box3.made _ _ _ _ _)
  have HWC := Lib.hid hwc
  have HA := Lib.hid (ha.to_below hbc)
  have HB := Lib.hid (hb.to_below hbc)
  have HK := Lib.hid (hk.to_below hbc)
  have HBC := Lib.hid hbc
  have HL := Lib.hid (show w.heap.size < wc.heap.size by rw [hwc]; simp)
  have hln := ha.1
  have hln' := hb.1
  have a1 : IntKind.i64.wrap ((n : Int) - 1) = (n : Int) - 1 := Kit.w64 (by omega) (by omega)
  have a2 : IntKind.i64.wrap ((n' : Int) - 1) = (n' : Int) - 1 := Kit.w64 (by omega) (by omega)
  have CF := Lib.hid (implForestDist_any A A' n n' c c' xs ys K0 K1 K2 n0 n1 n2 c0 c1 c2 k wc HA.out HB.out HK.out 0 ((n : Int) - 1) 0 ((n' : Int) - 1) hn hn' h0 h1 h2 hc hc')
  cases hd : DOk xs ys k with
  | false =>
    have Hf := Lib.hid (show Tr.rootDist xs ys k = -1 by unfold DOk at hd; unfold Tr.rootDist; rw [hd]; rfl)
    have EF := Lib.hid (show Tr.fdist xs ys k 0 ((n : Int) - 1) 0 ((n' : Int) - 1) = -1 from if_neg (fun h => by unfold DOk at hd; rw [hd] at h; exact absurd h.1 (by decide)))
    rw [EF.out] at CF
    obtain ⟨q0, q1, q2⟩ := HQ.out
    clear ha hb hk hd hwc hbc hln hln'
    go_enter Try.func16, Try.ntmps16
    go_wp2_with fail
    rw [← HWC.out]
    go_wp2_with fail
    refine CF.out.mono ?_
    rintro e w1 ⟨rfl, b1⟩
    have BB1 := Lib.hid (HBC.out.trans (b1.mono HBC.out.size))
    clear b1 q0 q1 q2
    go_wp2
    go_ret
    exact ⟨Kit.ret_int Hf.out.symm, BB1.out⟩
  | true =>
    obtain ⟨o1, o2, o3⟩ := DOk.parts hd
    obtain ⟨x1, x24⟩ := Tr.len24 o1
    obtain ⟨y1, y24⟩ := Tr.len24 o2
    obtain ⟨ad, eA, hA⟩ := ha.2.1 (by omega)
    obtain ⟨bd, eB, hB⟩ := hb.2.1 (by omega)
    obtain ⟨R, hR⟩ : ∃ R, R = RR xs ys k 0 (xs.length - 1) 0 (ys.length - 1) := ⟨_, rfl⟩
    obtain ⟨rv, hrv⟩ : ∃ rv, rv = Co.rel k (Tr.l xs 0) (Tr.l ys 0) := ⟨_, rfl⟩
    have bd1 := RR_bound (k := k) o1 o2 (p := 0) (a := xs.length - 1) (q := 0) (b := ys.length - 1) (Nat.zero_le _) (by omega) (Nat.zero_le _) (by omega)
    have bd2 := (Co.nonneg' k).2.2 (Tr.l xs 0) (Tr.l ys 0)
    rw [← hR] at bd1
    rw [← hrv] at bd2
    have Hf := Lib.hid (show Tr.rootDist xs ys k = R + rv by unfold DOk at hd; unfold Tr.rootDist; rw [hd, hR, hrv]; rfl)
    have EF := Lib.hid (show Tr.fdist xs ys k 0 ((n : Int) - 1) 0 ((n' : Int) - 1) = R by
      unfold Tr.fdist
      rw [if_pos ⟨hd, ⟨by omega, by omega, by omega⟩, ⟨by omega, by omega, by omega⟩⟩, hR]
      rw [show ((n : Int) - 1).toNat = xs.length - 1 by omega, show ((n' : Int) - 1).toNat = ys.length - 1 by omega]
      rfl)
    rw [EF.out] at CF
    have s1 : IntKind.i64.wrap (R + rv) = R + rv := Kit.w64 (by omega) (by omega)
    have f1 : decide (R < 0) = false := decide_eq_false (by omega)
    have k3 : 0 < n := by omega
    have k4 : 0 < n' := by omega
    have CR := Lib.hid (fun (wq : World) (hb : Below wc.heap.size wc wq) => implRelCost_any K0 K1 K2 n0 n1 n2 c0 c1 c2 k (Tr.l xs 0) (Tr.l ys 0) wq (HK.out.to_below hb) h0 h1 h2)
    rw [← hrv] at CR
    obtain ⟨q0, q1, q2⟩ := HQ.out
    clear ha hb hk hd hwc hbc hln hln' hR hrv bd1 bd2 o1 o2 o3
    subst eA
    subst eB
    go_enter Try.func16, Try.ntmps16
    go_wp2_with fail
    rw [← HWC.out]
    go_wp2_with fail
    refine CF.out.mono ?_
    rintro e w1 ⟨rfl, b1⟩
    have W1 := Lib.hid b1
    have BB1 := Lib.hid (HBC.out.trans (b1.mono HBC.out.size))
    obtain ⟨q0, q1, q2⟩ := HQ.out.below b1 HL.out
    have l1 : w1.cell? ad = some (.int .i64 (Tr.l xs 0)) := by have h := ((HA.out.to_below b1).here (k := 0) (by omega)).1; rw [Nat.zero_mul, Addr.add_zero'] at h; exact h
    have l2 : w1.cell? bd = some (.int .i64 (Tr.l ys 0)) := by have h := ((HB.out.to_below b1).here (k := 0) (by omega)).1; rw [Nat.zero_mul, Addr.add_zero'] at h; exact h
    clear b1
    have S0 := Lib.hid (show w1.drew.cell? ⟨w.heap.size, 0, none⟩ = some (.slice K0 n0 c0) ∧ w1.drew.cell? ⟨w.heap.size, 1, none⟩ = some (.slice K1 n1 c1) ∧ w1.drew.cell? ⟨w.heap.size, 2, none⟩ = some (.slice K2 n2 c2) ∧ w1.drew.cell? ad = some (.int .i64 (Tr.l xs 0)) ∧ w1.drew.cell? bd = some (.int .i64 (Tr.l ys 0)) ∧ BelW wc w1.drew from ⟨q0, q1, q2, l1, l2, Drawn.below W1.out (Drawn.refl _).drew⟩)
    clear q0 q1 q2 l1 l2
    go_wp2_with fail
    go_region_held3 (fun wq => wq.cell? ⟨w.heap.size, 0, none⟩ = some (.slice K0 n0 c0) ∧ wq.cell? ⟨w.heap.size, 1, none⟩ = some (.slice K1 n1 c1) ∧ wq.cell? ⟨w.heap.size, 2, none⟩ = some (.slice K2 n2 c2) ∧ wq.cell? ad = some (.int .i64 (Tr.l xs 0)) ∧ wq.cell? bd = some (.int .i64 (Tr.l ys 0)) ∧ BelW wc wq) (first | (with_reducible exact SC) | (with_reducible exact S0.out)) (first | (go_at_call 70; refine (CR.out _ (sl_below (by assumption))).mono ?_; rintro e w2 ⟨rfl, b2⟩; have SC := sl_keep (by assumption) b2))
    have BB2 := Lib.hid (HBC.out.trans ((sl_below SC).mono HBC.out.size))
    clear b2
    go_wp2
    go_ret
    exact ⟨Kit.ret_int Hf.out.symm, BB2.out⟩

end Go.Proofs.Ytlndaflhlkbedaa

/- Contracts (ExSlowDist). -/
namespace Go.Proofs.Ytlndaflhlkbedaa
open Go.RowKit
set_option linter.unusedVariables false

set_option maxHeartbeats 3200000 in
set_option maxRecDepth 100000 in
theorem exactSlowDist_walk (A0 : Option Addr) (n0 c0 : Nat) (x0 : Tr) (A1 : Option Addr) (n1 c1 : Nat) (x1 : Tr) (A20 A21 A22 : Option Addr) (n20 n21 n22 c20 c21 c22 : Nat) (x2 : Co) (le0 : n0 ≤ maxLen) (_wf0 : Tr.wf x0) (le1 : n1 ≤ maxLen) (_wf1 : Tr.wf x1) (le20 : n20 ≤ maxLen) (le21 : n21 ≤ maxLen) (le22 : n22 ≤ maxLen) (w : World) (h0 : NdIn w w.heap.size A0 n0 x0) (h1 : NdIn w w.heap.size A1 n1 x1) (h2 : CoIn w w.heap.size A20 A21 A22 n20 n21 n22 x2) :
    Calls Try.prog 9 #[.slice A0 n0 c0, .slice A1 n1 c1, .agg #[.slice A20 n20 c20, .slice A21 n21 c21, .slice A22 n22 c22]] w fun e w' => e = .returned (.bool true) ∧ Below w.heap.size w w' := by
  have Ia0 := Lib.hid h0
  have Hn0 := Lib.hid h0.1
  clear h0
  unfold maxLen at le0
  have Ia1 := Lib.hid h1
  have Hn1 := Lib.hid h1.1
  clear h1
  unfold maxLen at le1
  have Ia2 := Lib.hid h2
  have Hn2 := Lib.hid h2.len
  clear h2
  unfold maxLen at le20 le21 le22
  obtain ⟨wa, hwa⟩ : ∃ wa, wa = (w.alloc (.cells #[.slice A20 n20 c20, .slice A21 n21 c21, .slice A22 n22 c22] 58)) := ⟨_, rfl⟩
  have LW := Lib.hid (show Below w.heap.size w wa by rw [hwa]; exact (Below.refl _ _).alloc (Nat.le_refl _) _)
  have HX2 := Lib.hid (show Box3 wa (w.heap.size) (.slice A20 n20 c20) (.slice A21 n21 c21) (.slice A22 n22 c22) by rw [hwa]; exact Box3.made _ _ _ _ _)
  have GL2 := Lib.hid (show w.heap.size < wa.heap.size by rw [hwa]; simp)
  have LB2 := Lib.hid (Below.refl wa.heap.size wa)
  have HWA := Lib.hid hwa
  clear hwa
  by_cases hs0 : (n0) ≤ 1048576
  rotate_left
  · go_enter Try.func9, Try.ntmps9
    go_wp2_with fail
    rw [← HWA.out]
    refine (szNodeS_any _ _ _ _ _ le0 (by omega) (by omega)).mono ?_
    rintro e w' ⟨rfl, rfl⟩
    rw [if_neg (by omega)]
    go_wp2
    go_ret
    exact ⟨rfl, LW.out⟩
  by_cases hs1 : (n0) + (n1) ≤ 1048576
  rotate_left
  · go_enter Try.func9, Try.ntmps9
    go_wp2_with fail
    rw [← HWA.out]
    refine (szNodeS_any _ _ _ _ _ le0 (by omega) (by omega)).mono ?_
    rintro e w' ⟨rfl, rfl⟩
    rw [if_pos (by omega)]
    go_wp2_with fail
    refine (szNodeS_any _ _ _ _ _ le1 (by omega) (by omega)).mono ?_
    rintro e w' ⟨rfl, rfl⟩
    rw [if_neg (by omega)]
    go_wp2
    go_ret
    exact ⟨rfl, LW.out⟩
  by_cases hs2 : (n0) + (n1) + (n20 + n21 + n22) ≤ 1048576
  rotate_left
  · go_enter Try.func9, Try.ntmps9
    go_wp2_with fail
    rw [← HWA.out]
    refine (szNodeS_any _ _ _ _ _ le0 (by omega) (by omega)).mono ?_
    rintro e w' ⟨rfl, rfl⟩
    rw [if_pos (by omega)]
    go_wp2_with fail
    refine (szNodeS_any _ _ _ _ _ le1 (by omega) (by omega)).mono ?_
    rintro e w' ⟨rfl, rfl⟩
    rw [if_pos (by omega)]
    obtain ⟨g20, g21, g22⟩ := HX2.out.below LB2.out GL2.out
    go_wp2_with fail
    clear g20 g21 g22
    refine (szCost_any _ _ _ _ _ _ _ _ _ _ _ (by omega) (by omega) (by omega) (by omega) (by omega)).mono ?_
    rintro e w1 ⟨rfl, hb⟩
    have LB2 := Lib.hid (LB2.out.trans (hb.mono LB2.out.size))
    have LW := Lib.hid (LW.out.trans (hb.mono LW.out.size))
    clear hb
    rw [if_neg (by omega)]
    go_wp2
    go_ret
    exact ⟨rfl, LW.out⟩
  have hn0 : n0 ≤ 1048576 := by omega
  have hn1 : n1 ≤ 1048576 := by omega
  have hn20 : n20 ≤ 1048576 := by omega
  have hn21 : n21 ≤ 1048576 := by omega
  have hn22 : n22 ≤ 1048576 := by omega
  have La0 := Lib.hid LW.out
  have La1 := Lib.hid LW.out
  have La2 := Lib.hid LW.out
  go_enter Try.func9, Try.ntmps9
  go_wp2_with fail
  rw [← HWA.out]
  refine (szNodeS_any _ _ _ _ _ le0 (by omega) (by omega)).mono ?_
  rintro e w' ⟨rfl, rfl⟩
  rw [if_pos (by omega)]
  go_wp2_with fail
  refine (szNodeS_any _ _ _ _ _ le1 (by omega) (by omega)).mono ?_
  rintro e w' ⟨rfl, rfl⟩
  rw [if_pos (by omega)]
  obtain ⟨g20, g21, g22⟩ := HX2.out.below LB2.out GL2.out
  go_wp2_with fail
  clear g20 g21 g22
  refine (szCost_any _ _ _ _ _ _ _ _ _ _ _ (by omega) (by omega) (by omega) (by omega) (by omega)).mono ?_
  rintro e w1 ⟨rfl, hb⟩
  have La0 := Lib.hid (La0.out.trans (hb.mono La0.out.size))
  have La1 := Lib.hid (La1.out.trans (hb.mono La1.out.size))
  have La2 := Lib.hid (La2.out.trans (hb.mono La2.out.size))
  have LB2 := Lib.hid (LB2.out.trans (hb.mono LB2.out.size))
  have LW := Lib.hid (LW.out.trans (hb.mono LW.out.size))
  clear hb
  rw [if_pos (by omega)]
  obtain ⟨g20, g21, g22⟩ := HX2.out.below LB2.out GL2.out
  obtain ⟨g20, g21, g22⟩ := HX2.out.below LB2.out GL2.out
  go_wp2_with fail
  have S0 := Lib.hid (show w1.drew.cell? ⟨w.heap.size, 0, none⟩ = some (.slice A20 n20 c20) ∧ w1.drew.cell? ⟨w.heap.size, 1, none⟩ = some (.slice A21 n21 c21) ∧ w1.drew.cell? ⟨w.heap.size, 2, none⟩ = some (.slice A22 n22 c22) ∧ w1.drew.cell? ⟨w.heap.size, 0, none⟩ = some (.slice A20 n20 c20) ∧ w1.drew.cell? ⟨w.heap.size, 1, none⟩ = some (.slice A21 n21 c21) ∧ w1.drew.cell? ⟨w.heap.size, 2, none⟩ = some (.slice A22 n22 c22) ∧ SixG w1 (w.heap.size) (w.heap.size) w1.drew from ⟨g20, g21, g22, g20, g21, g22, (Below.refl _ _).drew, Nat.lt_of_lt_of_le GL2.out LB2.out.size, Nat.lt_of_lt_of_le GL2.out LB2.out.size⟩)
  clear g20 g21 g22
  clear g20 g21 g22
  go_region_held3 (fun wq => wq.cell? ⟨w.heap.size, 0, none⟩ = some (.slice A20 n20 c20) ∧ wq.cell? ⟨w.heap.size, 1, none⟩ = some (.slice A21 n21 c21) ∧ wq.cell? ⟨w.heap.size, 2, none⟩ = some (.slice A22 n22 c22) ∧ wq.cell? ⟨w.heap.size, 0, none⟩ = some (.slice A20 n20 c20) ∧ wq.cell? ⟨w.heap.size, 1, none⟩ = some (.slice A21 n21 c21) ∧ wq.cell? ⟨w.heap.size, 2, none⟩ = some (.slice A22 n22 c22) ∧ SixG w1 (w.heap.size) (w.heap.size) wq) (first | exact S0.out | (refine six_keep ?_ hb; assumption)) (first | (go_at_call 50; (fail_if_success (have := ts0)); refine (toNodeS_any _ _ _ x0 _ (Ia0.out.to_below (La0.out.trans ((six_below (by assumption)).mono La0.out.size))) hn0).mono ?_; rintro e w2 ⟨rfl, ho, hb⟩; have ts0 := True.intro; have Is0 := Lib.hid (NdIn.of_own ho); clear ho) | (go_at_call 50; (fail_if_success (have := ts1)); refine (toNodeS_any _ _ _ x1 _ (Ia1.out.to_below (La1.out.trans ((six_below (by assumption)).mono La1.out.size))) hn1).mono ?_; rintro e w3 ⟨rfl, ho, hb⟩; have ts1 := True.intro; have Is0 := Lib.hid (Is0.out.to_below hb); have Is1 := Lib.hid (NdIn.of_own ho); clear ho) | (go_at_call 51; refine (toCost_any _ _ _ _ _ _ _ _ _ x2 _ (Ia2.out.to_below (La2.out.trans ((six_below (by assumption)).mono La2.out.size))) hn20 hn21 hn22).mono ?_; rintro e w4 ⟨As0, As1, As2, cs0, cs1, cs2, rfl, o0, o1, o2, _, _, _, hb⟩; have Is0 := Lib.hid (Is0.out.to_below hb); have Is1 := Lib.hid (Is1.out.to_below hb); have Is2 := Lib.hid (show CoIn w4 w4.heap.size As0 As1 As2 x2.d.length x2.i.length x2.r.length x2 from ⟨IntIn.of_own o0, IntIn.of_own o1, IntIn.of_own o2⟩); clear o0 o1 o2) | (go_at_call 54; refine (specSlowDist_any (c := _) (c' := _) (c0 := _) (c1 := _) (c2 := _) (ha := Is0.out) (hb := Is1.out) (hk := Is2.out) (hn := hn0) (hn' := hn1) (h0 := (by rw [Hn2.out.1]; exact hn20)) (h1 := (by rw [Hn2.out.2.1]; exact hn21)) (h2 := (by rw [Hn2.out.2.2]; exact hn22))).mono ?_; rintro e w5 ⟨rfl, hb⟩))
  have hb := Lib.hid (show SixG w1 (w.heap.size) (w.heap.size) w5 by (first | (rename_i q; exact q.2.2.2.2.2.2) | (rename_i q _; exact q.2.2.2.2.2.2)))
  have hb := hb.out.1
  clear S0
  have La0 := Lib.hid (La0.out.trans (hb.mono La0.out.size))
  have La1 := Lib.hid (La1.out.trans (hb.mono La1.out.size))
  have La2 := Lib.hid (La2.out.trans (hb.mono La2.out.size))
  have LB2 := Lib.hid (LB2.out.trans (hb.mono LB2.out.size))
  have LW := Lib.hid (LW.out.trans (hb.mono LW.out.size))
  clear hb
  clear Is2 Is0 Is1 ts0 ts1
  go_wp2_with fail
  refine (toNodeS_any _ _ _ x0 _ (Ia0.out.to_below La0.out) hn0).mono ?_
  rintro e w6 ⟨rfl, ho, hb⟩
  have La0 := Lib.hid (La0.out.trans (hb.mono La0.out.size))
  have La1 := Lib.hid (La1.out.trans (hb.mono La1.out.size))
  have La2 := Lib.hid (La2.out.trans (hb.mono La2.out.size))
  have LB2 := Lib.hid (LB2.out.trans (hb.mono LB2.out.size))
  have LW := Lib.hid (LW.out.trans (hb.mono LW.out.size))
  clear hb
  have Ix0 := Lib.hid (NdIn.of_own ho)
  have Lx0 := Lib.hid (Below.refl w6.heap.size w6)
  clear ho
  go_wp2_with fail
  refine (toNodeS_any _ _ _ x1 _ (Ia1.out.to_below La1.out) hn1).mono ?_
  rintro e w7 ⟨rfl, ho, hb⟩
  have La0 := Lib.hid (La0.out.trans (hb.mono La0.out.size))
  have La1 := Lib.hid (La1.out.trans (hb.mono La1.out.size))
  have La2 := Lib.hid (La2.out.trans (hb.mono La2.out.size))
  have Lx0 := Lib.hid (Lx0.out.trans (hb.mono Lx0.out.size))
  have LB2 := Lib.hid (LB2.out.trans (hb.mono LB2.out.size))
  have LW := Lib.hid (LW.out.trans (hb.mono LW.out.size))
  clear hb
  have Ix1 := Lib.hid (NdIn.of_own ho)
  have Lx1 := Lib.hid (Below.refl w7.heap.size w7)
  clear ho
  obtain ⟨g20, g21, g22⟩ := HX2.out.below LB2.out GL2.out
  go_wp2_with fail
  clear g20 g21 g22
  refine (toCost_any _ _ _ _ _ _ _ _ _ x2 _ (Ia2.out.to_below La2.out) hn20 hn21 hn22).mono ?_
  rintro e w8 ⟨Ax20, Ax21, Ax22, cx20, cx21, cx22, rfl, o0, o1, o2, _, _, _, hb⟩
  have La0 := Lib.hid (La0.out.trans (hb.mono La0.out.size))
  have La1 := Lib.hid (La1.out.trans (hb.mono La1.out.size))
  have La2 := Lib.hid (La2.out.trans (hb.mono La2.out.size))
  have Lx0 := Lib.hid (Lx0.out.trans (hb.mono Lx0.out.size))
  have Lx1 := Lib.hid (Lx1.out.trans (hb.mono Lx1.out.size))
  have LB2 := Lib.hid (LB2.out.trans (hb.mono LB2.out.size))
  have LW := Lib.hid (LW.out.trans (hb.mono LW.out.size))
  clear hb
  have Ix2 := Lib.hid (show CoIn w8 w8.heap.size Ax20 Ax21 Ax22 x2.d.length x2.i.length x2.r.length x2 from ⟨IntIn.of_own o0, IntIn.of_own o1, IntIn.of_own o2⟩)
  have Lx2 := Lib.hid (Below.refl w8.heap.size w8)
  clear o0 o1 o2
  obtain ⟨w9, hw⟩ : ∃ wb, wb = w8.alloc (.cells #[.slice Ax20 x2.d.length cx20, .slice Ax21 x2.i.length cx21, .slice Ax22 x2.r.length cx22] 27) := ⟨_, rfl⟩
  have hb : Below w8.heap.size w8 w9 := by rw [hw]; exact (Below.refl _ _).alloc (Nat.le_refl _) _
  have La0 := Lib.hid (La0.out.trans (hb.mono La0.out.size))
  have La1 := Lib.hid (La1.out.trans (hb.mono La1.out.size))
  have La2 := Lib.hid (La2.out.trans (hb.mono La2.out.size))
  have Lx0 := Lib.hid (Lx0.out.trans (hb.mono Lx0.out.size))
  have Lx1 := Lib.hid (Lx1.out.trans (hb.mono Lx1.out.size))
  have Lx2 := Lib.hid (Lx2.out.trans (hb.mono Lx2.out.size))
  have LB2 := Lib.hid (LB2.out.trans (hb.mono LB2.out.size))
  have LW := Lib.hid (LW.out.trans (hb.mono LW.out.size))
  clear hb
  have HXx2 := Lib.hid (show Box3 w9 w8.heap.size (.slice Ax20 x2.d.length cx20) (.slice Ax21 x2.i.length cx21) (.slice Ax22 x2.r.length cx22) by rw [hw]; exact Box3.made _ _ _ _ _)
  have GLx2 := Lib.hid (show w8.heap.size < w9.heap.size by rw [hw]; simp)
  have LBx2 := Lib.hid (Below.refl w9.heap.size w9)
  have HW := Lib.hid hw
  clear hw
  obtain ⟨gx20, gx21, gx22⟩ := HXx2.out.below LBx2.out GLx2.out
  rw [HW.out] at gx20 gx21 gx22
  go_wp2_with fail
  clear gx20 gx21 gx22
  rw [← HW.out]
  clear HW
  refine (implSlowDist_any (c := _) (c' := _) (c0 := _) (c1 := _) (c2 := _) (ha := (Ix0.out.to_below Lx0.out)) (hb := (Ix1.out.to_below Lx1.out)) (hk := (Ix2.out.to_below Lx2.out)) (hn := hn0) (hn' := hn1) (h0 := (by rw [Hn2.out.1]; exact hn20)) (h1 := (by rw [Hn2.out.2.1]; exact hn21)) (h2 := (by rw [Hn2.out.2.2]; exact hn22)) (hc := Nat.le_refl _) (hc' := Nat.le_refl _)).mono ?_
  rintro e w10 ⟨rfl, hb⟩
  have La0 := Lib.hid (La0.out.trans (hb.mono La0.out.size))
  have La1 := Lib.hid (La1.out.trans (hb.mono La1.out.size))
  have La2 := Lib.hid (La2.out.trans (hb.mono La2.out.size))
  have Lx0 := Lib.hid (Lx0.out.trans (hb.mono Lx0.out.size))
  have Lx1 := Lib.hid (Lx1.out.trans (hb.mono Lx1.out.size))
  have Lx2 := Lib.hid (Lx2.out.trans (hb.mono Lx2.out.size))
  have LB2 := Lib.hid (LB2.out.trans (hb.mono LB2.out.size))
  have LBx2 := Lib.hid (LBx2.out.trans (hb.mono LBx2.out.size))
  have LW := Lib.hid (LW.out.trans (hb.mono LW.out.size))
  clear hb
  go_wp2_with fail
  refine (toNodeS_any _ _ _ x0 _ (Ia0.out.to_below La0.out) hn0).mono ?_
  rintro e w11 ⟨rfl, ho, hb⟩
  have La0 := Lib.hid (La0.out.trans (hb.mono La0.out.size))
  have La1 := Lib.hid (La1.out.trans (hb.mono La1.out.size))
  have La2 := Lib.hid (La2.out.trans (hb.mono La2.out.size))
  have Lx0 := Lib.hid (Lx0.out.trans (hb.mono Lx0.out.size))
  have Lx1 := Lib.hid (Lx1.out.trans (hb.mono Lx1.out.size))
  have Lx2 := Lib.hid (Lx2.out.trans (hb.mono Lx2.out.size))
  have LB2 := Lib.hid (LB2.out.trans (hb.mono LB2.out.size))
  have LBx2 := Lib.hid (LBx2.out.trans (hb.mono LBx2.out.size))
  have LW := Lib.hid (LW.out.trans (hb.mono LW.out.size))
  clear hb
  have Iy0 := Lib.hid (NdIn.of_own ho)
  have Ly0 := Lib.hid (Below.refl w11.heap.size w11)
  clear ho
  go_wp2_with fail
  refine (eqNodeS_any _ _ _ _ _ _ x0 x0 _ (Ix0.out.to_below Lx0.out) (Iy0.out.to_below Ly0.out) hn0 hn0).mono ?_
  rintro e w12 ⟨rfl, hb⟩
  have La0 := Lib.hid (La0.out.trans (hb.mono La0.out.size))
  have La1 := Lib.hid (La1.out.trans (hb.mono La1.out.size))
  have La2 := Lib.hid (La2.out.trans (hb.mono La2.out.size))
  have Lx0 := Lib.hid (Lx0.out.trans (hb.mono Lx0.out.size))
  have Lx1 := Lib.hid (Lx1.out.trans (hb.mono Lx1.out.size))
  have Lx2 := Lib.hid (Lx2.out.trans (hb.mono Lx2.out.size))
  have Ly0 := Lib.hid (Ly0.out.trans (hb.mono Ly0.out.size))
  have LB2 := Lib.hid (LB2.out.trans (hb.mono LB2.out.size))
  have LBx2 := Lib.hid (LBx2.out.trans (hb.mono LBx2.out.size))
  have LW := Lib.hid (LW.out.trans (hb.mono LW.out.size))
  clear hb
  go_wp2_with fail
  refine (toNodeS_any _ _ _ x1 _ (Ia1.out.to_below La1.out) hn1).mono ?_
  rintro e w13 ⟨rfl, ho, hb⟩
  have La0 := Lib.hid (La0.out.trans (hb.mono La0.out.size))
  have La1 := Lib.hid (La1.out.trans (hb.mono La1.out.size))
  have La2 := Lib.hid (La2.out.trans (hb.mono La2.out.size))
  have Lx0 := Lib.hid (Lx0.out.trans (hb.mono Lx0.out.size))
  have Lx1 := Lib.hid (Lx1.out.trans (hb.mono Lx1.out.size))
  have Lx2 := Lib.hid (Lx2.out.trans (hb.mono Lx2.out.size))
  have LB2 := Lib.hid (LB2.out.trans (hb.mono LB2.out.size))
  have LBx2 := Lib.hid (LBx2.out.trans (hb.mono LBx2.out.size))
  have LW := Lib.hid (LW.out.trans (hb.mono LW.out.size))
  clear hb
  have Iy1 := Lib.hid (NdIn.of_own ho)
  have Ly1 := Lib.hid (Below.refl w13.heap.size w13)
  clear ho
  go_wp2_with fail
  refine (eqNodeS_any _ _ _ _ _ _ x1 x1 _ (Ix1.out.to_below Lx1.out) (Iy1.out.to_below Ly1.out) hn1 hn1).mono ?_
  rintro e w14 ⟨rfl, hb⟩
  have La0 := Lib.hid (La0.out.trans (hb.mono La0.out.size))
  have La1 := Lib.hid (La1.out.trans (hb.mono La1.out.size))
  have La2 := Lib.hid (La2.out.trans (hb.mono La2.out.size))
  have Lx0 := Lib.hid (Lx0.out.trans (hb.mono Lx0.out.size))
  have Lx1 := Lib.hid (Lx1.out.trans (hb.mono Lx1.out.size))
  have Lx2 := Lib.hid (Lx2.out.trans (hb.mono Lx2.out.size))
  have Ly1 := Lib.hid (Ly1.out.trans (hb.mono Ly1.out.size))
  have LB2 := Lib.hid (LB2.out.trans (hb.mono LB2.out.size))
  have LBx2 := Lib.hid (LBx2.out.trans (hb.mono LBx2.out.size))
  have LW := Lib.hid (LW.out.trans (hb.mono LW.out.size))
  clear hb
  obtain ⟨gx20, gx21, gx22⟩ := HXx2.out.below LBx2.out GLx2.out
  obtain ⟨g20, g21, g22⟩ := HX2.out.below LB2.out GL2.out
  go_wp2_with fail
  have S0 := Lib.hid (show w14.drew.cell? ⟨w8.heap.size, 0, none⟩ = some (.slice Ax20 x2.d.length cx20) ∧ w14.drew.cell? ⟨w8.heap.size, 1, none⟩ = some (.slice Ax21 x2.i.length cx21) ∧ w14.drew.cell? ⟨w8.heap.size, 2, none⟩ = some (.slice Ax22 x2.r.length cx22) ∧ w14.drew.cell? ⟨w.heap.size, 0, none⟩ = some (.slice A20 n20 c20) ∧ w14.drew.cell? ⟨w.heap.size, 1, none⟩ = some (.slice A21 n21 c21) ∧ w14.drew.cell? ⟨w.heap.size, 2, none⟩ = some (.slice A22 n22 c22) ∧ SixG w14 (w8.heap.size) (w.heap.size) w14.drew from ⟨gx20, gx21, gx22, g20, g21, g22, (Below.refl _ _).drew, Nat.lt_of_lt_of_le GLx2.out LBx2.out.size, Nat.lt_of_lt_of_le GL2.out LB2.out.size⟩)
  clear gx20 gx21 gx22
  clear g20 g21 g22
  go_region_held3 (fun wq => wq.cell? ⟨w8.heap.size, 0, none⟩ = some (.slice Ax20 x2.d.length cx20) ∧ wq.cell? ⟨w8.heap.size, 1, none⟩ = some (.slice Ax21 x2.i.length cx21) ∧ wq.cell? ⟨w8.heap.size, 2, none⟩ = some (.slice Ax22 x2.r.length cx22) ∧ wq.cell? ⟨w.heap.size, 0, none⟩ = some (.slice A20 n20 c20) ∧ wq.cell? ⟨w.heap.size, 1, none⟩ = some (.slice A21 n21 c21) ∧ wq.cell? ⟨w.heap.size, 2, none⟩ = some (.slice A22 n22 c22) ∧ SixG w14 (w8.heap.size) (w.heap.size) wq) (first | exact S0.out | (refine six_keep ?_ hb; assumption)) (first | (go_at_call 51; refine (toCost_any _ _ _ _ _ _ _ _ _ x2 _ (Ia2.out.to_below (La2.out.trans ((six_below (by assumption)).mono La2.out.size))) hn20 hn21 hn22).mono ?_; rintro e w15 ⟨Ay20, Ay21, Ay22, cy20, cy21, cy22, rfl, o0, o1, o2, _, _, _, hb⟩) | (go_at_call 53; refine (eqCost_any _ _ _ _ _ _ _ _ _ x2 _ _ _ _ _ _ _ _ _ x2 _ (Ix2.out.to_below (Lx2.out.trans ((six_below (by assumption)).mono Lx2.out.size))) ⟨IntIn.of_own o0, IntIn.of_own o1, IntIn.of_own o2⟩ (by rw [Hn2.out.1]; exact hn20) (by rw [Hn2.out.2.1]; exact hn21) (by rw [Hn2.out.2.2]; exact hn22) (by rw [Hn2.out.1]; exact hn20) (by rw [Hn2.out.2.1]; exact hn21) (by rw [Hn2.out.2.2]; exact hn22)).mono ?_; rintro e w16 ⟨rfl, hb⟩; rw [Co.same_self]))
  have hb := Lib.hid (show SixG w14 (w8.heap.size) (w.heap.size) w16 by (first | (rename_i q; exact q.2.2.2.2.2.2) | (rename_i q _; exact q.2.2.2.2.2.2)))
  have hb := hb.out.1
  clear S0
  have La0 := Lib.hid (La0.out.trans (hb.mono La0.out.size))
  have La1 := Lib.hid (La1.out.trans (hb.mono La1.out.size))
  have La2 := Lib.hid (La2.out.trans (hb.mono La2.out.size))
  have Lx0 := Lib.hid (Lx0.out.trans (hb.mono Lx0.out.size))
  have Lx1 := Lib.hid (Lx1.out.trans (hb.mono Lx1.out.size))
  have Lx2 := Lib.hid (Lx2.out.trans (hb.mono Lx2.out.size))
  have LB2 := Lib.hid (LB2.out.trans (hb.mono LB2.out.size))
  have LBx2 := Lib.hid (LBx2.out.trans (hb.mono LBx2.out.size))
  have LW := Lib.hid (LW.out.trans (hb.mono LW.out.size))
  clear hb
  go_wp2
  go_ret
  exact ⟨rfl, LW.out⟩

end Go.Proofs.Ytlndaflhlkbedaa
