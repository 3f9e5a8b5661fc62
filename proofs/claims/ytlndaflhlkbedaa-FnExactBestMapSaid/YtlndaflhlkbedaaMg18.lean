/- Texts of one claim laid into one file, in build order: DrSl, Bxc, Slow. -/
import Derived.Test.YtlndaflhlkbedaaMg17
import Derived.Deep.RegionHeld3
import Derived.Outline
/- Contracts (DrSl). -/
namespace Go.Proofs.Ytlndaflhlkbedaa
open Go.RowKit
set_option linter.unusedVariables false

set_option maxHeartbeats 3200000 in
set_option maxRecDepth 100000 in
theorem l8DrawSlowDist_ex (w : World) (k : Code) (hcode : CodeIn w w.heap.size k.a k.cs) (hlen : k.cs.length ≤ 1048576) :
    Calls Try.prog 15 #[.slice k.a k.cs.length k.cap] w (DrawT3 w) := by
  obtain ⟨wz, hwz⟩ : ∃ wz, wz = w.alloc (.cells #[.slice none 0 0, .slice none 0 0, .slice none 0 0] 27) := ⟨_, rfl⟩
  obtain ⟨s, hs⟩ : ∃ s, s = w.heap.size := ⟨_, rfl⟩
  have hbz : Below w.heap.size w wz := by rw [hwz]; exact (Below.refl _ _).alloc (Nat.le_refl _) _
  have zz : wz.heap.size = s + 1 := by rw [hwz, hs]; simp
  have HX := Lib.hid (show Box3 wz s (.slice none 0 0) (.slice none 0 0) (.slice none 0 0) by rw [hwz, hs]; exact Box3.made _ _ _ _ _)
  have HF := Lib.hid (show ∀ off, wz.frozen? ⟨s, off, none⟩ = false by rw [hwz, hs]; exact fun off => by simp)
  have HC := Lib.hid (CodeIn.onto hcode hbz hbz.size)
  have HBZ := Lib.hid (show Below s w wz by rw [hs]; exact hbz)
  have HS := Lib.hid hs
  have HZ := Lib.hid zz
  have HW := Lib.hid hwz
  clear hcode hbz hs zz hwz
  go_enter Try.func15, Try.ntmps15
  go_wp2_with fail
  rw [← HW.out, ← HS.out]
  refine (l1New_ex _ k HC.out hlen).mono ?_
  rintro e w1 ⟨rfl, c, g1⟩
  have HX := Lib.hid (HX.out.grown g1 (by have := HZ.out; omega) (fun b e => by cases e))
  have HF := Lib.hid (free_kept g1 (by have := HZ.out; omega) (fun b e => by cases e) HF.out)
  have HB := Lib.hid (HBZ.out.trans ((Below.refl _ _).grown g1 (by have := HZ.out; omega) (fun b e => by cases e)))
  have l1 := g1.size
  have HQ := Lib.hid c
  have hsz : s < wz.heap.size := by have := HZ.out; omega
  clear c g1
  go_wp2_with fail
  refine (l8Draw_ex w1 _ k 8 (by decide) HQ.out).mono ?_
  rintro e w2 ⟨xs, ys, A, A', n, n', cp, cp', h0, h2, c0, c2, A1, n1, q1, K, rfl, ha, hb, hcp, hcp', hn, hn', hn1, hk, g, _, ⟨e0, e1, e2⟩, ea, eb⟩
  have HX := Lib.hid (HX.out.grown g (by omega) (fun b e => by injection e with e; omega))
  have HF := Lib.hid (free_kept g (by omega) (fun b e => by injection e with e; omega) HF.out)
  have HB := Lib.hid (HB.out.trans (Kit.below_of_grown g (fun b e => by injection e with e; omega) (by omega)))
  have l2 := g.size
  obtain ⟨w3, hw3⟩ : ∃ w3, w3 = w2.alloc (.cells #[.slice (some ⟨h0, 0, none⟩) 6 c0, .slice A1 n1 q1, .slice (some ⟨h2, 0, none⟩) 36 c2] 27) := ⟨_, rfl⟩
  have z3 : w3.heap.size = w2.heap.size + 1 := by rw [hw3]; simp
  have ga : w2.grownBy w3 none := by rw [hw3]; exact Kit.grown_alloc _ _ _
  obtain ⟨b0, b1, b2⟩ := (show Box3 w3 w2.heap.size (.slice (some ⟨h0, 0, none⟩) 6 c0) (.slice A1 n1 q1) (.slice (some ⟨h2, 0, none⟩) 36 c2) by rw [hw3]; exact Box3.made _ _ _ _ _)
  obtain ⟨x0, x1, x2⟩ := HX.out.grown ga (by omega) (fun b e => by cases e)
  have HF3 := Lib.hid (free_kept ga (by omega) (fun b e => by cases e) HF.out)
  have y0 := HF3.out 0
  have y1 := HF3.out 1
  have y2 := HF3.out 2
  have HB := Lib.hid (HB.out.trans ((Below.refl _ _).grown ga (by omega) (fun b e => by cases e)))
  have ND := Lib.hid (And.intro ha (And.intro hb (And.intro hk (And.intro e0 (And.intro e1 (And.intro e2 (And.intro ea eb)))))))
  have GA := Lib.hid ga
  have hne : w2.heap.size ≠ s := by omega
  have hne' : s ≠ w2.heap.size := by omega
  rw [hw3] at b0 b1 b2 x0 x1 x2 y0 y1 y2
  have HW3 := Lib.hid hw3
  clear ha hb hk g ga hw3 e0 e1 e2 ea eb
  go_wp2_with fail
  rw [← HW3.out]
  rw [← HW3.out] at b0 b1 b2 x0 x1 x2 y0 y1 y2
  go_still_tail 5, (by kernel_rfl)
  change wpList _ _ _ _ _ w3.drew
  go_wp2
  (try simp only [Exit.inBlock, Exit.then])
  refine bodyPost_ret (v := .tuple #[.slice A n cp, .slice A' n' cp', .agg #[.slice (some ⟨h0, 0, none⟩) 6 c0, .slice A1 n1 q1, .slice (some ⟨h2, 0, none⟩) 36 c2]]) ?_ rfl ?_
  · rw [results_two_cell rfl]
    go_simp
  · obtain ⟨ha, hb, ⟨k0, k1, k2⟩, e0, e1, e2, ea, eb⟩ := ND.out
    have gS : ∀ u0 u1 u2, w3.drew.grownBy (((w3.drew.setCell ⟨s, 0, none⟩ u0).setCell ⟨s, 1, none⟩ u1).setCell ⟨s, 2, none⟩ u2) (some s) := fun u0 u1 u2 => Kit.grown_then_set (Kit.grown_then_set (Kit.grown_set _ _ _ _) _ _) _ _
    have dr : w2.grownBy w3.drew none := grown_drewN GA.out 1
    have hlo : s < w1.heap.size := by omega
    have r1 : ∀ b, (none : Option Nat) = some b → b < w1.heap.size := fun b e => by cases e
    have r2 : ∀ b, some s = some b → b < w1.heap.size := fun b e => by injection e with e; omega
    have f0 : ∀ ad, (some ⟨h0, 0, none⟩ : Option Addr) = some ad → w1.heap.size ≤ ad.block := fun ad e => by injection e with e; rw [← e]; exact e0
    have f2 : ∀ ad, (some ⟨h2, 0, none⟩ : Option Addr) = some ad → w1.heap.size ≤ ad.block := fun ad e => by injection e with e; rw [← e]; exact e2
    have kA := (ha.keepLo ea dr r1).keepLo ea (gS (.slice (some ⟨h0, 0, none⟩) 6 c0) (.slice A1 n1 q1) (.slice (some ⟨h2, 0, none⟩) 36 c2)) r2
    have kB := (hb.keepLo eb dr r1).keepLo eb (gS (.slice (some ⟨h0, 0, none⟩) 6 c0) (.slice A1 n1 q1) (.slice (some ⟨h2, 0, none⟩) 36 c2)) r2
    have K0 := (k0.keepLo f0 dr r1).keepLo f0 (gS (.slice (some ⟨h0, 0, none⟩) 6 c0) (.slice A1 n1 q1) (.slice (some ⟨h2, 0, none⟩) 36 c2)) r2
    have K1 := (k1.keepLo e1 dr r1).keepLo e1 (gS (.slice (some ⟨h0, 0, none⟩) 6 c0) (.slice A1 n1 q1) (.slice (some ⟨h2, 0, none⟩) 36 c2)) r2
    have K2 := (k2.keepLo f2 dr r1).keepLo f2 (gS (.slice (some ⟨h0, 0, none⟩) 6 c0) (.slice A1 n1 q1) (.slice (some ⟨h2, 0, none⟩) 36 c2)) r2
    have BB := (Drawn.below HB.out (Drawn.refl w3).drew).trans (Kit.below_of_grown (gS (.slice (some ⟨h0, 0, none⟩) 6 c0) (.slice A1 n1 q1) (.slice (some ⟨h2, 0, none⟩) 36 c2)) (fun b e => by injection e with e; omega) (by show s ≤ w3.heap.size; omega))
    exact ⟨xs, ys, _, _, _, _, _, _, _, _, _, _, _, _, _, K, rfl, kA, kB, hcp, hcp', hn, hn', hn1, ⟨K0, K1, K2⟩, by rw [← HS.out]; exact BB⟩

end Go.Proofs.Ytlndaflhlkbedaa

/- Contracts (Bxc). -/
namespace Go.Proofs.Ytlndaflhlkbedaa
open Go.RowKit
set_option linter.unusedVariables false

/-- below a world's blocks nothing has turned -/
def BelA (w wq : World) : Prop := Below w.heap.size w wq
section
variable {wa wx wy : World} {b : Nat} {v0 v1 v2 : Value}
theorem bx_below (h : wx.cell? ⟨b, 0, none⟩ = some v0 ∧ wx.cell? ⟨b, 1, none⟩ = some v1 ∧ wx.cell? ⟨b, 2, none⟩ = some v2 ∧ BelA wa wx) : Below wa.heap.size wa wx := h.2.2.2
theorem bx_keep (h : wx.cell? ⟨b, 0, none⟩ = some v0 ∧ wx.cell? ⟨b, 1, none⟩ = some v1 ∧ wx.cell? ⟨b, 2, none⟩ = some v2 ∧ BelA wa wx) (hb : Below wx.heap.size wx wy) : wy.cell? ⟨b, 0, none⟩ = some v0 ∧ wy.cell? ⟨b, 1, none⟩ = some v1 ∧ wy.cell? ⟨b, 2, none⟩ = some v2 ∧ BelA wa wy :=
  have c : ∀ {p : Addr} {v : Value}, wx.cell? p = some v → wy.cell? p = some v := fun hc => (hb.cell (World.block_lt_of_cell? _ _ hc)).trans hc
  ⟨c h.1, c h.2.1, c h.2.2.1, h.2.2.2.trans (hb.mono h.2.2.2.size)⟩
theorem bx_drawn (h : wx.cell? ⟨b, 0, none⟩ = some v0 ∧ wx.cell? ⟨b, 1, none⟩ = some v1 ∧ wx.cell? ⟨b, 2, none⟩ = some v2 ∧ BelA wa wx) (hd : Drawn wx wy) : wy.cell? ⟨b, 0, none⟩ = some v0 ∧ wy.cell? ⟨b, 1, none⟩ = some v1 ∧ wy.cell? ⟨b, 2, none⟩ = some v2 ∧ BelA wa wy := bx_keep h hd.toBelow
end

end Go.Proofs.Ytlndaflhlkbedaa

/- Contracts (Slow). -/
namespace Go.Proofs.Ytlndaflhlkbedaa
open Go.RowKit
set_option linter.unusedVariables false

set_option maxHeartbeats 3200000 in
set_option maxRecDepth 100000 in
theorem slow_any (k : Code) (w : World) (hcode : CodeIn w w.heap.size k.a k.cs) (hlen : k.cs.length ≤ 1048576) :
    Calls Try.prog 3 #[.slice k.a k.cs.length k.cap] w fun e w' => e = .returned (.bool true) ∧ Below w.heap.size w w' := by
  have HC := Lib.hid hcode
  clear hcode
  go_enter Try.func3, Try.ntmps3
  go_wp2_with fail
  refine (big_small _ _ _ (by omega) _).mono ?_
  rintro e w0 ⟨rfl, rfl⟩
  go_wp2_with fail
  refine (l8DrawSlowDist_ex w k HC.out hlen).mono ?_
  rintro e w1 ⟨xs, ys, A, A', n, n', cp, cp', h0, h2, c0, c2, A1, n1, q1, K, rfl, ha, hb, hcp, hcp', hn, hn', hn1, hk, hbl⟩
  obtain ⟨wa, hwa⟩ : ∃ wb, wb = w1.alloc (.cells #[.slice (some ⟨h0, 0, none⟩) 6 c0, .slice A1 n1 q1, .slice (some ⟨h2, 0, none⟩) 36 c2] 27) := ⟨_, rfl⟩
  have hba : Below w1.heap.size w1 wa := by rw [hwa]; exact (Below.refl _ _).alloc (Nat.le_refl _) _
  have HN0 := Lib.hid (ha.to_below hba)
  have HN1 := Lib.hid (hb.to_below hba)
  have HK := Lib.hid (hk.to_below hba)
  have HW := Lib.hid (hbl.trans (hba.mono hbl.size))
  have HQ := Lib.hid (show Box3 wa w1.heap.size (.slice (some ⟨h0, 0, none⟩) 6 c0) (.slice A1 n1 q1) (.slice (some ⟨h2, 0, none⟩) 36 c2) by rw [hwa]; exact Box3.made _ _ _ _ _)
  have Hwa := Lib.hid hwa
  have L0 := Lib.hid ha.1
  have L1 := Lib.hid hb.1
  have hN1 : n1 ≤ 1048576 := by rcases hn1 with h | h <;> omega
  have hs0 : n ≤ 1048576 := by omega
  have hs1 : n' ≤ 1048576 := by omega
  clear ha hb hk hbl hba hwa
  obtain ⟨R, hR⟩ : ∃ R, R = Tr.rootDist xs ys K := ⟨_, rfl⟩
  obtain ⟨T, hT⟩ : ∃ T, T = Tr.dist xs ys K := ⟨_, rfl⟩
  have C1 := Lib.hid (fun (wq : World) (hb : Below wa.heap.size wa wq) => show Calls Try.prog 16 #[.slice A n cp, .slice A' n' cp', .agg #[.slice (some ⟨h0, 0, none⟩) 6 c0, .slice A1 n1 q1, .slice (some ⟨h2, 0, none⟩) 36 c2]] wq fun e w' => e = .returned (.int .i64 R) ∧ Below wq.heap.size wq w' from by
    rw [hR]
    exact implSlowDist_any (c := _) (c' := _) (c0 := _) (c1 := _) (c2 := _) (ha := HN0.out.to_below hb) (hb := HN1.out.to_below hb) (hk := HK.out.to_below hb) (hn := hs0) (hn' := hs1) (h0 := by decide) (h1 := hN1) (h2 := by decide) (hc := hcp) (hc' := hcp'))
  have C2 := Lib.hid (fun (wq : World) (hb : Below wa.heap.size wa wq) => show Calls Try.prog 17 #[.slice A n cp, .slice A' n' cp', .agg #[.slice (some ⟨h0, 0, none⟩) 6 c0, .slice A1 n1 q1, .slice (some ⟨h2, 0, none⟩) 36 c2]] wq fun e w' => e = .returned (.int .i64 R) ∧ Below wq.heap.size wq w' from by
    rw [hR]
    exact implRootDist_any (c := _) (c' := _) (c0 := _) (c1 := _) (c2 := _) (ha := HN0.out.to_below hb) (hb := HN1.out.to_below hb) (hk := HK.out.to_below hb) (hn := hs0) (hn' := hs1) (h0 := by decide) (h1 := hN1) (h2 := by decide) (hc := hcp) (hc' := hcp'))
  have C3 := Lib.hid (fun (wq : World) (hb : Below wa.heap.size wa wq) => show Calls Try.prog 18 #[.slice A n cp, .slice A' n' cp', .agg #[.slice (some ⟨h0, 0, none⟩) 6 c0, .slice A1 n1 q1, .slice (some ⟨h2, 0, none⟩) 36 c2]] wq fun e w' => e = .returned (.int .i64 R) ∧ Below wq.heap.size wq w' from by
    rw [hR]
    exact specRootDist_any (c := _) (c' := _) (c0 := _) (c1 := _) (c2 := _) (ha := HN0.out.to_below hb) (hb := HN1.out.to_below hb) (hk := HK.out.to_below hb) (hn := hs0) (hn' := hs1) (h0 := by decide) (h1 := hN1) (h2 := by decide))
  have C4 := Lib.hid (fun (wq : World) (hb : Below wa.heap.size wa wq) => show Calls Try.prog 19 #[.slice A n cp, .slice A' n' cp', .agg #[.slice (some ⟨h0, 0, none⟩) 6 c0, .slice A1 n1 q1, .slice (some ⟨h2, 0, none⟩) 36 c2]] wq fun e w' => e = .returned (.int .i64 T) ∧ Below wq.heap.size wq w' from by
    rw [hT]
    exact implTreeDist_any (c := _) (c' := _) (c0 := _) (c1 := _) (c2 := _) (ha := HN0.out.to_below hb) (hb := HN1.out.to_below hb) (hk := HK.out.to_below hb) (hn := hs0) (hn' := hs1) (h0 := by decide) (h1 := hN1) (h2 := by decide) (hc := hcp) (hc' := hcp'))
  have f1 : (R == R) = true := by simp
  have f2 : decide (T ≤ R) = true := by rw [hR, hT]; exact decide_eq_true (Tr.dist_root xs ys K)
  have S0 := Lib.hid (show (wa.drew.cell? ⟨w1.heap.size, 0, none⟩ = some (.slice (some ⟨h0, 0, none⟩) 6 c0) ∧ wa.drew.cell? ⟨w1.heap.size, 1, none⟩ = some (.slice A1 n1 q1) ∧ wa.drew.cell? ⟨w1.heap.size, 2, none⟩ = some (.slice (some ⟨h2, 0, none⟩) 36 c2) ∧ BelA wa wa.drew) from ⟨HQ.out.1, HQ.out.2.1, HQ.out.2.2, (Drawn.refl _).drew.toBelow⟩)
  clear hR hT
  go_wp2_with fail
  rw [← Hwa.out]
  go_region_held3 (fun wq => wq.cell? ⟨w1.heap.size, 0, none⟩ = some (.slice (some ⟨h0, 0, none⟩) 6 c0) ∧ wq.cell? ⟨w1.heap.size, 1, none⟩ = some (.slice A1 n1 q1) ∧ wq.cell? ⟨w1.heap.size, 2, none⟩ = some (.slice (some ⟨h2, 0, none⟩) 36 c2) ∧ BelA wa wq) (first | (with_reducible exact SC) | (with_reducible exact S0.out)) (first | ((go_at_call 16; with_reducible refine (C1.out _ (bx_below (by assumption))).mono ?_); rintro e w5 ⟨rfl, hb5⟩; have SC := bx_keep (by assumption) hb5) | ((go_at_call 17; with_reducible refine (C2.out _ (bx_below (by assumption))).mono ?_); rintro e w5 ⟨rfl, hb5⟩; have SC := bx_keep (by assumption) hb5) | ((go_at_call 18; with_reducible refine (C3.out _ (bx_below (by assumption))).mono ?_); rintro e w5 ⟨rfl, hb5⟩; have SC := bx_keep (by assumption) hb5) | ((go_at_call 19; with_reducible refine (C4.out _ (bx_below (by assumption))).mono ?_); rintro e w5 ⟨rfl, hb5⟩; have SC := bx_keep (by assumption) hb5))
  have HE := Lib.hid (HW.out.trans ((bx_below SC).mono HW.out.size))
  go_wp2
  go_ret
  exact ⟨rfl, HE.out⟩

end Go.Proofs.Ytlndaflhlkbedaa
