/- Texts of one claim laid into one file, in build order: Add, AddO, AddP, AddF, Cmp, FullI, DistI, UniM, DisM, Draw, Big, Draw2, DrawX, DrawOnce, DrawOnceX, DrawLab, DrawK, Mem2, TreeD, DrawL2, AnyD, NearD. -/
import Derived.Test.YtlndaflhlkbedaaMg15
import Derived.BigQuiet
import Derived.Deep.QuietTactic
import Derived.Deep.RegionHeld3
import Derived.Deep.RegionLaw
import Derived.Laws.AppendOwn
import Derived.Laws.OwnMore
import Derived.Maps.Range
import Derived.Outline
import Derived.StillTailTactics
import Derived.Test.YtlndaflhlkbedaaRows
/- Contracts (Add). -/
namespace Go.Proofs.Ytlndaflhlkbedaa
open Go.RowKit
set_option linter.unusedVariables false

/-- the table in a region that ends with a store into the trees -/
def DTo (B : Nat) (D : DtD) (xs ys : Tr) (k : Co) (F : Nat → Nat → Int) (T : List Int) (u : Nat) (v : Int) (w0 wq : World) : Prop :=
  (DT B D xs ys k F T wq ∨ DT B D xs ys k F (T.set u v) wq) ∧ Below B w0 wq
section
variable {B : Nat} {D : DtD} {xs ys : Tr} {k : Co} {F : Nat → Nat → Int} {T : List Int} {n : Nat} {v : Int} {w0 wx wq : World} {u c : Option Value} {q : Addr}
theorem dto_keep (hS : wx.cell? ⟨D.g, 9, none⟩ = u ∧ wx.cell? q = c ∧ DTo B D xs ys k F T n v w0 wx) (hd : Drawn wx wq) :
    wq.cell? ⟨D.g, 9, none⟩ = u ∧ wq.cell? q = c ∧ DTo B D xs ys k F T n v w0 wq := by
  obtain ⟨h1, h2, h3, h4⟩ := hS
  exact ⟨by rw [hd.cell]; exact h1, by rw [hd.cell]; exact h2, h3.imp (fun h => h.drawn hd) (fun h => h.drawn hd), hd.below h4⟩
theorem dto_rel (hS : wx.cell? ⟨D.g, 9, none⟩ = u ∧ wx.cell? q = c ∧ DTo B D xs ys k F T n v w0 wx) (hx : Tr.ok xs = true) (hy : Tr.ok ys = true) (hk : Co.ok k = true) (x y : Nat) (hxl : x < xs.length) (hyl : y < ys.length) :
    Calls Try.prog 72 #[.pointer (some ⟨D.g, 0, none⟩), .int .i64 x, .int .i64 y] wx fun e w' => e = .returned (.int .i64 (Co.rel k (Tr.xa xs x) (Tr.xa ys y))) ∧ Drawn wx w' := by
  obtain ⟨_, _, h3, _⟩ := hS
  rcases h3 with h | h
  · exact distRel_any _ _ _ _ _ _ _ _ h hx hy hk x y hxl hyl
  · exact distRel_any _ _ _ _ _ _ _ _ h hx hy hk x y hxl hyl
theorem dto_cell (hS : wx.cell? ⟨D.g, 9, none⟩ = u ∧ wx.cell? q = c ∧ DTo B D xs ys k F T n v w0 wx) (hn : n < T.length) : ∃ z, wx.cell? ⟨D.gt, n, none⟩ = some (.int .i64 z) ∧ wx.frozen? ⟨D.gt, n, none⟩ = false := by
  obtain ⟨_, _, h3, _⟩ := hS
  rcases h3 with h | h
  · exact ⟨_, own_int h.row (k := n) hn, h.row.frozenAt n⟩
  · exact ⟨_, own_int h.row (k := n) (by rw [List.length_set]; exact hn), h.row.frozenAt n⟩
theorem dto_store (hS : wx.cell? ⟨D.g, 9, none⟩ = u ∧ wx.cell? q = c ∧ DTo B D xs ys k F T n v w0 wx) (hq : q.block = D.g) :
    (wx.setCell ⟨D.gt, n, none⟩ (.int .i64 v)).cell? ⟨D.g, 9, none⟩ = u ∧ (wx.setCell ⟨D.gt, n, none⟩ (.int .i64 v)).cell? q = c ∧ DTo B D xs ys k F T n v w0 (wx.setCell ⟨D.gt, n, none⟩ (.int .i64 v)) := by
  obtain ⟨h1, h2, h3, h4⟩ := hS
  have hg : D.gt ≠ D.g := by rcases h3 with h | h <;> exact h.gg
  have hB : B ≤ D.gt := by rcases h3 with h | h <;> exact h.tB.1
  refine ⟨?_, ?_, .inr ?_, h4.setCell hB _⟩
  · rw [World.cell?_setCell_other _ _ _ _ (fun e => by injection e with e1 e2; exact hg e1)]; exact h1
  · rw [World.cell?_setCell_other _ _ _ _ (fun e => by rw [← e] at hq; exact hg hq)]; exact h2
  · rcases h3 with h | h
    · exact h.setT n v
    · have := h.setT n v
      rw [List.set_set] at this
      exact this
end
set_option maxHeartbeats 1600000 in
set_option maxRecDepth 100000 in
theorem distAdd_first (B : Nat) (D : DtD) (xs ys : Tr) (k : Co) (F : Nat → Nat → Int) (T : List Int) (w : World) (h : DT B D xs ys k F T w) (hx : Tr.ok xs = true) (hy : Tr.ok ys = true) (hk : Co.ok k = true)
    (p q x y : Nat) (hxl : x < xs.length) (hyl : y < ys.length) (hp : Tr.la xs x = p) (hq : Tr.la ys y = q) (v : Int)
    (hv : v = min (min (F x (y + 1) + Co.del k (Tr.xa xs x)) (F (x + 1) y + Co.ins k (Tr.xa ys y))) (F x y + Co.rel k (Tr.xa xs x) (Tr.xa ys y)))
    (f1 : 0 ≤ F x (y + 1) ∧ F x (y + 1) ≤ 1000000) (f2 : 0 ≤ F (x + 1) y ∧ F (x + 1) y ≤ 1000000) (f3 : 0 ≤ F x y ∧ F x y ≤ 1000000) :
    Calls Try.prog 142 #[.pointer (some ⟨D.g, 0, none⟩), .int .i64 p, .int .i64 q, .int .i64 x, .int .i64 y] w fun e w' => e = .returned (.tuple #[]) ∧ DT B D xs ys k (updF F (x + 1) (y + 1) v) (T.set (x * ys.length + y) v) w' ∧ Below B w w' := by
  obtain ⟨lx, lx'⟩ := Tr.len24 hx
  obtain ⟨ly, ly'⟩ := Tr.len24 hy
  have g1 := h.fr x (y + 1) (by omega) (by omega)
  have g2 := h.fr (x + 1) y (by omega) (by omega)
  have g3 := h.fr x y (by omega) (by omega)
  have H := Lib.hid h
  have HX := Lib.hid hx
  have HY := Lib.hid hy
  have HK := Lib.hid hk
  have Hv := Lib.hid hv
  have n1 := (Co.nonneg' k).1 (Tr.xa xs x)
  have n2 := (Co.nonneg' k).2.1 (Tr.xa ys y)
  have n3 := (Co.nonneg' k).2.2 (Tr.xa xs x) (Tr.xa ys y)
  obtain ⟨u0, hu0⟩ : ∃ u0, u0 = x * ys.length := ⟨_, rfl⟩
  have hu1 : u0 ≤ 576 := by rw [hu0]; exact Nat.mul_le_mul (show x ≤ 24 by omega) ly'
  have hu2 := idx_lt hxl hyl
  rw [← hu0] at hu2 ⊢
  obtain ⟨t0, ht0⟩ : ∃ t0, t0 = u0 + y := ⟨_, rfl⟩
  rw [← ht0] at hu2 ⊢
  have hadd : (u0 : Int) + (y : Int) = (t0 : Int) := by omega
  obtain ⟨nm, hnm⟩ : ∃ nm, nm = xs.length * ys.length := ⟨_, rfl⟩
  have hmul : (x : Int) * (ys.length : Int) = (u0 : Int) := by rw [hu0, Int.natCast_mul]
  have a3 : IntKind.i64.wrap ((x : Int) * (ys.length : Int)) = (u0 : Int) := by rw [hmul, Kit.w64 (by omega) (by omega)]
  have c9 := h.h9
  have f9 := h.row.frozenAt t0
  have t9 := own_int h.row (k := t0) (by rw [h.tlen]; exact hu2)
  rw [← hnm] at c9 hu2
  have c1 := h.h1
  have c3 := h.h3
  have c4 := h.h4
  have l1 := (h.ra1.at_ x hxl).trans (by rw [Tr.la_up hx hxl, hp])
  have l2 := (h.rb1.at_ y hyl).trans (by rw [Tr.la_up hy hyl, hq])
  have e1 : ((p : Int) == (p : Int)) = true := by simp
  have e2 : ((q : Int) == (q : Int)) = true := by simp
  have a1 : IntKind.i64.wrap ((x : Int) + 1) = ((x + 1 : Nat) : Int) := by rw [Kit.w64 (by omega) (by omega)]; omega
  have a2 : IntKind.i64.wrap ((y : Int) + 1) = ((y + 1 : Nat) : Int) := by rw [Kit.w64 (by omega) (by omega)]; omega
  have b1 : (0 : Int) ≤ (x : Int) := by omega
  have b2 : (x : Int) < 25 := by omega
  have b3 : (0 : Int) ≤ (y : Int) := by omega
  have b4 : (y : Int) < 25 := by omega
  have b5 : (0 : Int) ≤ ((x + 1 : Nat) : Int) := by omega
  have b6 : ((x + 1 : Nat) : Int) < 25 := by omega
  have b7 : (0 : Int) ≤ ((y + 1 : Nat) : Int) := by omega
  have d1 : (0 : Int) ≤ (t0 : Int) := by omega
  have d2 : (t0 : Int) < (nm : Int) := by omega
  have d3 : (x : Int) < (xs.length : Int) := by omega
  have d4 : (y : Int) < (ys.length : Int) := by omega
  have b8 : ((y + 1 : Nat) : Int) < 25 := by omega
  have HU0 := Lib.hid hu0
  have HT0 := Lib.hid ht0
  have HADD := Lib.hid hadd
  have HNM := Lib.hid hnm
  clear h hx hy hk hv ht0 hadd hu0 hnm hmul hp hq
  go_enter Try.func142, Try.ntmps142
  go_wp2_with fail
  go_quiet (first | (go_at_call 126; exact quiet_drawn (distDel_any _ _ _ _ _ _ _ _ (H.out.drawn ((Drawn.refl _).drewN _)) HX.out HY.out HK.out x hxl)) | (go_at_call 128; exact quiet_drawn (distIns_any _ _ _ _ _ _ _ _ (H.out.drawn ((Drawn.refl _).drewN _)) HX.out HY.out HK.out y hyl)))
  rw [min_if]
  obtain ⟨m0, hm0⟩ : ∃ m0, m0 = min (F x (y + 1) + Co.del k (Tr.xa xs x)) (F (x + 1) y + Co.ins k (Tr.xa ys y)) := ⟨_, rfl⟩
  rw [← hm0]
  rw [← hm0] at Hv
  have HM0 := Lib.hid hm0
  clear hm0
  go_wp2_with fail
  rw [HADD.out]
  go_quiet (fail)
  go_wp2_with fail
  generalize hw1 : World.drewN w _ = w1
  have hd1 : Drawn w w1 := ⟨_, hw1.symm⟩
  have H1 := Lib.hid (H.out.drawn hd1)
  have HD1 := Lib.hid hd1
  have g3' := (hd1.cell _).trans g3
  have c9' := (hd1.cell _).trans c9
  clear g1 g2 g3 c9 f9 t9 c1 c3 c4 l1 l2 hw1 hd1
  have HTL := Lib.hid (show t0 < T.length by rw [H.out.tlen, ← HNM.out]; exact hu2)
  have Hvv := Lib.hid (show (if IntKind.i64.wrap (F x y + Co.rel k (Tr.xa xs x) (Tr.xa ys y)) < m0 then IntKind.i64.wrap (F x y + Co.rel k (Tr.xa xs x) (Tr.xa ys y)) else m0) = v by rw [Kit.w64 (by omega) (by omega), min_if, Hv.out])
  have S0 := Lib.hid (show w1.drew.cell? ⟨D.g, 9, none⟩ = some (.slice (some ⟨D.gt, 0, none⟩) nm nm) ∧ w1.drew.cell? ⟨D.g, 10 + x * 25 + y, none⟩ = some (.int .i64 (F x y)) ∧ DTo B D xs ys k F T t0 v w1 w1.drew from ⟨c9', g3', .inl (H1.out.drawn (Drawn.refl _).drew), (Drawn.refl _).drew.toBelow⟩)
  go_region_held3 (fun wq => wq.cell? ⟨D.g, 9, none⟩ = some (.slice (some ⟨D.gt, 0, none⟩) nm nm) ∧ wq.cell? ⟨D.g, 10 + x * 25 + y, none⟩ = some (.int .i64 (F x y)) ∧ DTo B D xs ys k F T t0 v w1 wq) (first | exact S0.out | (refine dto_keep ?_ hd; assumption) | (rw [Hvv.out]; exact dto_store (dto_keep (by assumption) hd) rfl)) (first | (go_at_call 72; refine (dto_rel (by assumption) HX.out HY.out HK.out x y hxl hyl).mono ?_; rintro e w5 ⟨rfl, hd⟩; obtain ⟨z5, tc5, tf5⟩ := dto_cell (dto_keep (by assumption) hd) HTL.out))
  rw [Hvv.out]
  obtain ⟨w6, hw6⟩ : ∃ w6, w6 = w5.setCell ⟨D.gt, t0, none⟩ (.int .i64 v) := ⟨_, rfl⟩
  have h6 : DT B D xs ys k F (T.set t0 v) w6 := by rw [hw6]; exact (H1.out.drawn ((Drawn.refl _).drew.trans hd)).setT t0 v
  have hb6 : Below B w w6 := by rw [hw6]; exact ((HD1.out.trans ((Drawn.refl _).drew.trans hd)).toBelow).setCell h6.tB.1 _
  rw [← hw6]
  have c9 := h6.h9
  have t9 := own_int h6.row (k := t0) (by rw [List.length_set]; exact HTL.out)
  have f9 := h6.fr (x + 1) (y + 1) (by omega) (by omega)
  have z9 := h6.fz (10 + (x + 1) * 25 + (y + 1))
  rw [Zs.at_set HTL.out, if_pos rfl] at t9
  rw [← HNM.out] at c9
  have H6 := Lib.hid h6
  have HB6 := Lib.hid hb6
  clear h6 hb6 hw6 g3' c9' tc5 tf5 hd
  go_wp2_with fail
  have s1 : (0 : Int) ≤ (x : Int) + 1 := by omega
  have s2 : (x : Int) + 1 < 25 := by omega
  have s3 : (0 : Int) ≤ (y : Int) + 1 := by omega
  have s4 : (y : Int) + 1 < 25 := by omega
  go_still_tail 16, (by kernel_rfl)
  change wpList _ _ _ _ _ w6.drew
  go_wp2
  (try simp only [Exit.inBlock, Exit.then])
  refine bodyPost_ret (results_none rfl _ _ _) rfl ?_
  exact ⟨rfl, (H6.out.drawn (Drawn.refl _).drew).setF (by omega) (by omega) v, (Drawn.below HB6.out (Drawn.refl _).drew).setCell H6.out.gB _⟩

end Go.Proofs.Ytlndaflhlkbedaa

/- Contracts (AddO). -/
namespace Go.Proofs.Ytlndaflhlkbedaa
open Go.RowKit
set_option linter.unusedVariables false

set_option maxHeartbeats 1600000 in
set_option maxRecDepth 100000 in
theorem distAdd_left (B : Nat) (D : DtD) (xs ys : Tr) (k : Co) (F : Nat → Nat → Int) (T : List Int) (w : World) (h : DT B D xs ys k F T w) (hx : Tr.ok xs = true) (hy : Tr.ok ys = true) (hk : Co.ok k = true)
    (p q x y : Nat) (hxl : x < xs.length) (hyl : y < ys.length) (l r : Nat) (hp : Tr.la xs x = l) (hq : Tr.la ys y = r) (hne : l ≠ p) (v : Int)
    (hv : v = min (min (F x (y + 1) + Co.del k (Tr.xa xs x)) (F (x + 1) y + Co.ins k (Tr.xa ys y))) (F l r + Zs.at T (x * ys.length + y)))
    (f0 : 0 ≤ Zs.at T (x * ys.length + y) ∧ Zs.at T (x * ys.length + y) ≤ 1000000) (f1 : 0 ≤ F x (y + 1) ∧ F x (y + 1) ≤ 1000000) (f2 : 0 ≤ F (x + 1) y ∧ F (x + 1) y ≤ 1000000) (f3 : 0 ≤ F l r ∧ F l r ≤ 1000000) :
    Calls Try.prog 142 #[.pointer (some ⟨D.g, 0, none⟩), .int .i64 p, .int .i64 q, .int .i64 x, .int .i64 y] w fun e w' => e = .returned (.tuple #[]) ∧ DT B D xs ys k (updF F (x + 1) (y + 1) v) T w' ∧ Below B w w' := by
  obtain ⟨lx, lx'⟩ := Tr.len24 hx
  obtain ⟨ly, ly'⟩ := Tr.len24 hy
  have g1 := h.fr x (y + 1) (by omega) (by omega)
  have g2 := h.fr (x + 1) y (by omega) (by omega)
  have hlx : l ≤ x := by rw [← hp]; exact (Tr.la_nest hx x hxl).1
  have hry : r ≤ y := by rw [← hq]; exact (Tr.la_nest hy y hyl).1
  have g3 := h.fr l r (by omega) (by omega)
  have H := Lib.hid h
  have HX := Lib.hid hx
  have HY := Lib.hid hy
  have HK := Lib.hid hk
  have n1 := (Co.nonneg' k).1 (Tr.xa xs x)
  have n2 := (Co.nonneg' k).2.1 (Tr.xa ys y)
  obtain ⟨u0, hu0⟩ : ∃ u0, u0 = x * ys.length := ⟨_, rfl⟩
  have hu1 : u0 ≤ 576 := by rw [hu0]; exact Nat.mul_le_mul (show x ≤ 24 by omega) ly'
  have hu2 := idx_lt hxl hyl
  rw [← hu0] at hu2 f0 hv
  obtain ⟨t0, ht0⟩ : ∃ t0, t0 = u0 + y := ⟨_, rfl⟩
  rw [← ht0] at hu2 f0 hv
  have hadd : (u0 : Int) + (y : Int) = (t0 : Int) := by omega
  obtain ⟨nm, hnm⟩ : ∃ nm, nm = xs.length * ys.length := ⟨_, rfl⟩
  have hmul : (x : Int) * (ys.length : Int) = (u0 : Int) := by rw [hu0, Int.natCast_mul]
  have a3 : IntKind.i64.wrap ((x : Int) * (ys.length : Int)) = (u0 : Int) := by rw [hmul, Kit.w64 (by omega) (by omega)]
  have c9 := h.h9
  have f9 := h.row.frozenAt t0
  have t9 := own_int h.row (k := t0) (by rw [h.tlen]; exact hu2)
  rw [← hnm] at c9 hu2
  have c1 := h.h1
  have c3 := h.h3
  have c4 := h.h4
  have l1 := (h.ra1.at_ x hxl).trans (by rw [Tr.la_up hx hxl, hp])
  have l2 := (h.rb1.at_ y hyl).trans (by rw [Tr.la_up hy hyl, hq])
  have e1 : ((l : Int) == (p : Int)) = false := by simp; omega
  have a1 : IntKind.i64.wrap ((x : Int) + 1) = ((x + 1 : Nat) : Int) := by rw [Kit.w64 (by omega) (by omega)]; omega
  have a2 : IntKind.i64.wrap ((y : Int) + 1) = ((y + 1 : Nat) : Int) := by rw [Kit.w64 (by omega) (by omega)]; omega
  have b1 : (0 : Int) ≤ (x : Int) := by omega
  have b2 : (x : Int) < 25 := by omega
  have b3 : (0 : Int) ≤ (y : Int) := by omega
  have b4 : (y : Int) < 25 := by omega
  have b5 : (0 : Int) ≤ ((x + 1 : Nat) : Int) := by omega
  have b6 : ((x + 1 : Nat) : Int) < 25 := by omega
  have b7 : (0 : Int) ≤ ((y + 1 : Nat) : Int) := by omega
  have d1 : (0 : Int) ≤ (t0 : Int) := by omega
  have d2 : (t0 : Int) < (nm : Int) := by omega
  have k1 : (0 : Int) ≤ (l : Int) := by omega
  have k2 : (l : Int) < 25 := by omega
  have k3 : (0 : Int) ≤ (r : Int) := by omega
  have k4 : (r : Int) < 25 := by omega
  have d3 : (x : Int) < (xs.length : Int) := by omega
  have d4 : (y : Int) < (ys.length : Int) := by omega
  have b8 : ((y + 1 : Nat) : Int) < 25 := by omega
  have Hv := Lib.hid hv
  have HU0 := Lib.hid hu0
  have HT0 := Lib.hid ht0
  have HADD := Lib.hid hadd
  have HNM := Lib.hid hnm
  clear h hx hy hk hv ht0 hadd hu0 hnm hmul hp hq
  go_enter Try.func142, Try.ntmps142
  go_wp2_with fail
  go_quiet (first | (go_at_call 126; exact quiet_drawn (distDel_any _ _ _ _ _ _ _ _ (H.out.drawn ((Drawn.refl _).drewN _)) HX.out HY.out HK.out x hxl)) | (go_at_call 128; exact quiet_drawn (distIns_any _ _ _ _ _ _ _ _ (H.out.drawn ((Drawn.refl _).drewN _)) HX.out HY.out HK.out y hyl)))
  rw [min_if]
  obtain ⟨m0, hm0⟩ : ∃ m0, m0 = min (F x (y + 1) + Co.del k (Tr.xa xs x)) (F (x + 1) y + Co.ins k (Tr.xa ys y)) := ⟨_, rfl⟩
  rw [← hm0]
  rw [← hm0] at Hv
  have HM0 := Lib.hid hm0
  clear hm0
  go_wp2_with fail
  rw [HADD.out]
  go_quiet (fail)
  go_wp2_with fail
  generalize hw1 : World.drewN w _ = w1
  have hd1 : Drawn w w1 := ⟨_, hw1.symm⟩
  have H1 := Lib.hid (H.out.drawn hd1)
  have HD1 := Lib.hid hd1
  have g3' := (hd1.cell _).trans g3
  have c9' := (hd1.cell _).trans c9
  have t9' := (hd1.cell _).trans t9
  have f9' := H1.out.fr (x + 1) (y + 1) (by omega) (by omega)
  have z9 := H1.out.fz (10 + (x + 1) * 25 + (y + 1))
  clear g1 g2 g3 c9 f9 t9 c1 c3 c4 l1 l2 hw1 hd1
  have s1 : (0 : Int) ≤ (x : Int) + 1 := by omega
  have s2 : (x : Int) + 1 < 25 := by omega
  have s3 : (0 : Int) ≤ (y : Int) + 1 := by omega
  have s4 : (y : Int) + 1 < 25 := by omega
  go_still_tail 27, (by kernel_rfl)
  change wpList _ _ _ _ _ w1.drew
  go_wp2
  all_goals
    (try simp only [Exit.inBlock, Exit.then])
    refine bodyPost_end (results_none rfl _ _ _) rfl ?_
    have hv2 := Hv.out
    first | rw [show F l r + Zs.at T t0 = v by omega] | rw [show m0 = v by omega]
    exact ⟨rfl, (H1.out.drawn (Drawn.refl _).drew).setF (by omega) (by omega) v, ((HD1.out.trans (Drawn.refl _).drew).toBelow).setCell H1.out.gB _⟩

end Go.Proofs.Ytlndaflhlkbedaa

/- Contracts (AddP). -/
namespace Go.Proofs.Ytlndaflhlkbedaa
open Go.RowKit
set_option linter.unusedVariables false

set_option maxHeartbeats 1600000 in
set_option maxRecDepth 100000 in
theorem distAdd_right (B : Nat) (D : DtD) (xs ys : Tr) (k : Co) (F : Nat → Nat → Int) (T : List Int) (w : World) (h : DT B D xs ys k F T w) (hx : Tr.ok xs = true) (hy : Tr.ok ys = true) (hk : Co.ok k = true)
    (p q x y : Nat) (hxl : x < xs.length) (hyl : y < ys.length) (l r : Nat) (hp : Tr.la xs x = l) (hq : Tr.la ys y = r) (hle : l = p) (hne : r ≠ q) (v : Int)
    (hv : v = min (min (F x (y + 1) + Co.del k (Tr.xa xs x)) (F (x + 1) y + Co.ins k (Tr.xa ys y))) (F l r + Zs.at T (x * ys.length + y)))
    (f0 : 0 ≤ Zs.at T (x * ys.length + y) ∧ Zs.at T (x * ys.length + y) ≤ 1000000) (f1 : 0 ≤ F x (y + 1) ∧ F x (y + 1) ≤ 1000000) (f2 : 0 ≤ F (x + 1) y ∧ F (x + 1) y ≤ 1000000) (f3 : 0 ≤ F l r ∧ F l r ≤ 1000000) :
    Calls Try.prog 142 #[.pointer (some ⟨D.g, 0, none⟩), .int .i64 p, .int .i64 q, .int .i64 x, .int .i64 y] w fun e w' => e = .returned (.tuple #[]) ∧ DT B D xs ys k (updF F (x + 1) (y + 1) v) T w' ∧ Below B w w' := by
  subst hle
  obtain ⟨lx, lx'⟩ := Tr.len24 hx
  obtain ⟨ly, ly'⟩ := Tr.len24 hy
  have g1 := h.fr x (y + 1) (by omega) (by omega)
  have g2 := h.fr (x + 1) y (by omega) (by omega)
  have hlx : l ≤ x := by rw [← hp]; exact (Tr.la_nest hx x hxl).1
  have hry : r ≤ y := by rw [← hq]; exact (Tr.la_nest hy y hyl).1
  have g3 := h.fr l r (by omega) (by omega)
  have H := Lib.hid h
  have HX := Lib.hid hx
  have HY := Lib.hid hy
  have HK := Lib.hid hk
  have n1 := (Co.nonneg' k).1 (Tr.xa xs x)
  have n2 := (Co.nonneg' k).2.1 (Tr.xa ys y)
  obtain ⟨u0, hu0⟩ : ∃ u0, u0 = x * ys.length := ⟨_, rfl⟩
  have hu1 : u0 ≤ 576 := by rw [hu0]; exact Nat.mul_le_mul (show x ≤ 24 by omega) ly'
  have hu2 := idx_lt hxl hyl
  rw [← hu0] at hu2 f0 hv
  obtain ⟨t0, ht0⟩ : ∃ t0, t0 = u0 + y := ⟨_, rfl⟩
  rw [← ht0] at hu2 f0 hv
  have hadd : (u0 : Int) + (y : Int) = (t0 : Int) := by omega
  obtain ⟨nm, hnm⟩ : ∃ nm, nm = xs.length * ys.length := ⟨_, rfl⟩
  have hmul : (x : Int) * (ys.length : Int) = (u0 : Int) := by rw [hu0, Int.natCast_mul]
  have a3 : IntKind.i64.wrap ((x : Int) * (ys.length : Int)) = (u0 : Int) := by rw [hmul, Kit.w64 (by omega) (by omega)]
  have c9 := h.h9
  have f9 := h.row.frozenAt t0
  have t9 := own_int h.row (k := t0) (by rw [h.tlen]; exact hu2)
  rw [← hnm] at c9 hu2
  have c1 := h.h1
  have c3 := h.h3
  have c4 := h.h4
  have l1 := (h.ra1.at_ x hxl).trans (by rw [Tr.la_up hx hxl, hp])
  have l2 := (h.rb1.at_ y hyl).trans (by rw [Tr.la_up hy hyl, hq])
  have e1 : ((l : Int) == (l : Int)) = true := by simp
  have e2 : ((r : Int) == (q : Int)) = false := by simp; omega
  have a1 : IntKind.i64.wrap ((x : Int) + 1) = ((x + 1 : Nat) : Int) := by rw [Kit.w64 (by omega) (by omega)]; omega
  have a2 : IntKind.i64.wrap ((y : Int) + 1) = ((y + 1 : Nat) : Int) := by rw [Kit.w64 (by omega) (by omega)]; omega
  have b1 : (0 : Int) ≤ (x : Int) := by omega
  have b2 : (x : Int) < 25 := by omega
  have b3 : (0 : Int) ≤ (y : Int) := by omega
  have b4 : (y : Int) < 25 := by omega
  have b5 : (0 : Int) ≤ ((x + 1 : Nat) : Int) := by omega
  have b6 : ((x + 1 : Nat) : Int) < 25 := by omega
  have b7 : (0 : Int) ≤ ((y + 1 : Nat) : Int) := by omega
  have d1 : (0 : Int) ≤ (t0 : Int) := by omega
  have d2 : (t0 : Int) < (nm : Int) := by omega
  have k1 : (0 : Int) ≤ (l : Int) := by omega
  have k2 : (l : Int) < 25 := by omega
  have k3 : (0 : Int) ≤ (r : Int) := by omega
  have k4 : (r : Int) < 25 := by omega
  have d3 : (x : Int) < (xs.length : Int) := by omega
  have d4 : (y : Int) < (ys.length : Int) := by omega
  have b8 : ((y + 1 : Nat) : Int) < 25 := by omega
  have Hv := Lib.hid hv
  have HU0 := Lib.hid hu0
  have HT0 := Lib.hid ht0
  have HADD := Lib.hid hadd
  have HNM := Lib.hid hnm
  clear h hx hy hk hv ht0 hadd hu0 hnm hmul hp hq
  go_enter Try.func142, Try.ntmps142
  go_wp2_with fail
  go_quiet (first | (go_at_call 126; exact quiet_drawn (distDel_any _ _ _ _ _ _ _ _ (H.out.drawn ((Drawn.refl _).drewN _)) HX.out HY.out HK.out x hxl)) | (go_at_call 128; exact quiet_drawn (distIns_any _ _ _ _ _ _ _ _ (H.out.drawn ((Drawn.refl _).drewN _)) HX.out HY.out HK.out y hyl)))
  rw [min_if]
  obtain ⟨m0, hm0⟩ : ∃ m0, m0 = min (F x (y + 1) + Co.del k (Tr.xa xs x)) (F (x + 1) y + Co.ins k (Tr.xa ys y)) := ⟨_, rfl⟩
  rw [← hm0]
  rw [← hm0] at Hv
  have HM0 := Lib.hid hm0
  clear hm0
  go_wp2_with fail
  rw [HADD.out]
  go_quiet (fail)
  go_wp2_with fail
  generalize hw1 : World.drewN w _ = w1
  have hd1 : Drawn w w1 := ⟨_, hw1.symm⟩
  have H1 := Lib.hid (H.out.drawn hd1)
  have HD1 := Lib.hid hd1
  have g3' := (hd1.cell _).trans g3
  have c9' := (hd1.cell _).trans c9
  have t9' := (hd1.cell _).trans t9
  have f9' := H1.out.fr (x + 1) (y + 1) (by omega) (by omega)
  have z9 := H1.out.fz (10 + (x + 1) * 25 + (y + 1))
  clear g1 g2 g3 c9 f9 t9 c1 c3 c4 l1 l2 hw1 hd1
  have s1 : (0 : Int) ≤ (x : Int) + 1 := by omega
  have s2 : (x : Int) + 1 < 25 := by omega
  have s3 : (0 : Int) ≤ (y : Int) + 1 := by omega
  have s4 : (y : Int) + 1 < 25 := by omega
  go_still_tail 27, (by kernel_rfl)
  change wpList _ _ _ _ _ w1.drew
  go_wp2
  all_goals
    (try simp only [Exit.inBlock, Exit.then])
    refine bodyPost_end (results_none rfl _ _ _) rfl ?_
    have hv2 := Hv.out
    first | rw [show F l r + Zs.at T t0 = v by omega] | rw [show m0 = v by omega]
    exact ⟨rfl, (H1.out.drawn (Drawn.refl _).drew).setF (by omega) (by omega) v, ((HD1.out.trans (Drawn.refl _).drew).toBelow).setCell H1.out.gB _⟩

end Go.Proofs.Ytlndaflhlkbedaa

/- Contracts (AddF). -/
namespace Go.Proofs.Ytlndaflhlkbedaa
open Go.RowKit
set_option linter.unusedVariables false

/-- one cell of the table is filled -/
theorem distAdd_any (B : Nat) (D : DtD) (xs ys : Tr) (k : Co) (F : Nat → Nat → Int) (T0 T : List Int) (w : World) (h : DT B D xs ys k F T w) (hx : Tr.ok xs = true) (hy : Tr.ok ys = true) (hk : Co.ok k = true)
    (i j x y : Nat) (hi : i < xs.length) (hj : j < ys.length) (hA : Ahead xs ys k i j T0) (hf : Fill xs ys k i j x y F T0 T) (px : Tr.la xs i ≤ x) (xi : x ≤ i) (qy : Tr.la ys j ≤ y) (yj : y ≤ j) :
    Calls Try.prog 142 #[.pointer (some ⟨D.g, 0, none⟩), .int .i64 (Tr.la xs i : Nat), .int .i64 (Tr.la ys j : Nat), .int .i64 x, .int .i64 y] w fun e w' =>
      e = .returned (.tuple #[]) ∧ (∃ F' T', Fill xs ys k i j x (y + 1) F' T0 T' ∧ DT B D xs ys k F' T' w') ∧ Below B w w' := by
  obtain ⟨g1, g2, g3, g4⟩ := Fill.geo hx hy hi hj px xi qy yj
  obtain ⟨r1, r2, r3, r4⟩ := Fill.reads hx hy hi hj hf px xi qy yj
  have b1 := RR_bound (k := k) hx hy (p := Tr.la xs i) (a := x) (q := Tr.la ys j) (b := y + 1) (by omega) (by omega) (by omega) (by omega)
  have b2 := RR_bound (k := k) hx hy (p := Tr.la xs i) (a := x + 1) (q := Tr.la ys j) (b := y) (by omega) (by omega) (by omega) (by omega)
  have b3 := RR_bound (k := k) hx hy (p := Tr.la xs i) (a := x) (q := Tr.la ys j) (b := y) (by omega) (by omega) (by omega) (by omega)
  have b4 := RR_bound (k := k) hx hy (p := Tr.la xs i) (a := Tr.la xs x) (q := Tr.la ys j) (b := Tr.la ys y) (by omega) (by omega) (by omega) (by omega)
  rw [← r1] at b1
  rw [← r2] at b2
  rw [← r3] at b3
  rw [← r4] at b4
  by_cases e : Tr.la xs x = Tr.la xs i ∧ Tr.la ys y = Tr.la ys j
  · have st := Fill.first hx hy hi hj hA hf px xi qy yj e rfl (F' := updF F (x + 1) (y + 1) _) (fun a b _ _ _ _ => rfl)
    refine (distAdd_first B D xs ys k F T w h hx hy hk _ _ x y (by omega) (by omega) e.1 e.2 _ rfl (by omega) (by omega) (by omega)).mono ?_
    rintro e' w' ⟨h1, h2, h3⟩
    exact ⟨h1, ⟨_, _, st.2, h2⟩, h3⟩
  · have st := Fill.other hx hy hi hj hA hf px xi qy yj e rfl (F' := updF F (x + 1) (y + 1) _) (fun a b _ _ _ _ => rfl)
    have ht := Fill.tree hi hj hA hf px xi qy yj e
    have b5 := TT_bound (k := k) hx hy (a := x) (b := y) (by omega) (by omega)
    rw [← ht] at b5
    by_cases e1 : Tr.la xs x = Tr.la xs i
    · refine (distAdd_right B D xs ys k F T w h hx hy hk _ _ x y (by omega) (by omega) _ _ rfl rfl e1 (fun e2 => e ⟨e1, e2⟩) _ rfl (by omega) (by omega) (by omega) (by omega)).mono ?_
      rintro e' w' ⟨h1, h2, h3⟩
      exact ⟨h1, ⟨_, _, st, h2⟩, h3⟩
    · refine (distAdd_left B D xs ys k F T w h hx hy hk _ _ x y (by omega) (by omega) _ _ rfl rfl e1 _ rfl (by omega) (by omega) (by omega) (by omega)).mono ?_
      rintro e' w' ⟨h1, h2, h3⟩
      exact ⟨h1, ⟨_, _, st, h2⟩, h3⟩

end Go.Proofs.Ytlndaflhlkbedaa

/- Contracts (Cmp). -/
namespace Go.Proofs.Ytlndaflhlkbedaa
open Go.RowKit
set_option linter.unusedVariables false

/-- the table in a region that ends with a store into the forests -/
def DFo (B : Nat) (D : DtD) (xs ys : Tr) (k : Co) (F : Nat → Nat → Int) (T : List Int) (a b : Nat) (v : Int) (w0 wq : World) : Prop :=
  (DT B D xs ys k F T wq ∨ DT B D xs ys k (updF F a b v) T wq) ∧ Below B w0 wq
section
variable {B : Nat} {D : DtD} {xs ys : Tr} {k : Co} {F : Nat → Nat → Int} {T : List Int} {a b : Nat} {v : Int} {w0 wx wq : World} {c : Option Value} {q : Addr}
theorem dfo_keep (hS : wx.cell? q = c ∧ DFo B D xs ys k F T a b v w0 wx) (hd : Drawn wx wq) : wq.cell? q = c ∧ DFo B D xs ys k F T a b v w0 wq := by
  obtain ⟨h2, h3, h4⟩ := hS
  exact ⟨by rw [hd.cell]; exact h2, h3.imp (fun h => h.drawn hd) (fun h => h.drawn hd), hd.below h4⟩
theorem dfo_del (hS : wx.cell? q = c ∧ DFo B D xs ys k F T a b v w0 wx) (hx : Tr.ok xs = true) (hy : Tr.ok ys = true) (hk : Co.ok k = true) (x : Nat) (hxl : x < xs.length) :
    Calls Try.prog 126 #[.pointer (some ⟨D.g, 0, none⟩), .int .i64 x] wx fun e w' => e = .returned (.int .i64 (Co.del k (Tr.xa xs x))) ∧ Drawn wx w' := by
  obtain ⟨_, h3, _⟩ := hS
  rcases h3 with h | h
  · exact distDel_any _ _ _ _ _ _ _ _ h hx hy hk x hxl
  · exact distDel_any _ _ _ _ _ _ _ _ h hx hy hk x hxl
theorem dfo_ins (hS : wx.cell? q = c ∧ DFo B D xs ys k F T a b v w0 wx) (hx : Tr.ok xs = true) (hy : Tr.ok ys = true) (hk : Co.ok k = true) (y : Nat) (hyl : y < ys.length) :
    Calls Try.prog 128 #[.pointer (some ⟨D.g, 0, none⟩), .int .i64 y] wx fun e w' => e = .returned (.int .i64 (Co.ins k (Tr.xa ys y))) ∧ Drawn wx w' := by
  obtain ⟨_, h3, _⟩ := hS
  rcases h3 with h | h
  · exact distIns_any _ _ _ _ _ _ _ _ h hx hy hk y hyl
  · exact distIns_any _ _ _ _ _ _ _ _ h hx hy hk y hyl
theorem dfo_cell (hS : wx.cell? q = c ∧ DFo B D xs ys k F T a b v w0 wx) (ha : a < 25) (hb : b < 25) : ∃ z, wx.cell? ⟨D.g, 10 + a * 25 + b, none⟩ = some (.int .i64 z) ∧ wx.frozen? ⟨D.g, 10 + a * 25 + b, none⟩ = false := by
  obtain ⟨_, h3, _⟩ := hS
  rcases h3 with h | h
  · exact ⟨_, h.fr a b ha hb, h.fz _⟩
  · exact ⟨_, h.fr a b ha hb, h.fz _⟩
theorem updF_twice (F : Nat → Nat → Int) (a b : Nat) (v : Int) : updF (updF F a b v) a b v = updF F a b v := by
  funext x y
  unfold updF
  split <;> rfl
theorem dfo_store (hS : wx.cell? q = c ∧ DFo B D xs ys k F T a b v w0 wx) (ha : a < 25) (hb : b < 25) (hq : q ≠ ⟨D.g, 10 + a * 25 + b, none⟩) :
    (wx.setCell ⟨D.g, 10 + a * 25 + b, none⟩ (.int .i64 v)).cell? q = c ∧ DFo B D xs ys k F T a b v w0 (wx.setCell ⟨D.g, 10 + a * 25 + b, none⟩ (.int .i64 v)) := by
  obtain ⟨h2, h3, h4⟩ := hS
  have hB : B ≤ D.g := by rcases h3 with h | h <;> exact h.gB
  refine ⟨?_, .inr ?_, h4.setCell hB _⟩
  · rw [World.cell?_setCell_other _ _ _ _ (fun e => hq e.symm)]; exact h2
  · rcases h3 with h | h
    · exact h.setF ha hb v
    · have := h.setF ha hb v
      rw [updF_twice] at this
      exact this
end

set_option maxHeartbeats 1600000 in
set_option maxRecDepth 100000 in
theorem distCmp_any (B : Nat) (D : DtD) (xs ys : Tr) (k : Co) (F : Nat → Nat → Int) (T : List Int) (w : World) (h : DT B D xs ys k F T w) (hx : Tr.ok xs = true) (hy : Tr.ok ys = true) (hk : Co.ok k = true)
    (i j : Nat) (hi : i < xs.length) (hj : j < ys.length) (hA : Ahead xs ys k i j T) :
    Calls Try.prog 118 #[.pointer (some ⟨D.g, 0, none⟩), .int .i64 i, .int .i64 j] w fun e w' =>
      e = .returned (.tuple #[]) ∧ (∃ F' T', Fill xs ys k i j (i + 1) (Tr.la ys j) F' T T' ∧ DT B D xs ys k F' T' w') ∧ Below B w w' := by
  obtain ⟨lx, lx'⟩ := Tr.len24 hx
  obtain ⟨ly, ly'⟩ := Tr.len24 hy
  have hpi := (Tr.la_nest hx i hi).1
  have hqj := (Tr.la_nest hy j hj).1
  have l1 := (h.ra1.at_ i hi).trans (by rw [Tr.la_up hx hi])
  have l2 := (h.rb1.at_ j hj).trans (by rw [Tr.la_up hy hj])
  obtain ⟨p, hp⟩ : ∃ p, p = Tr.la xs i := ⟨_, rfl⟩
  obtain ⟨q, hq⟩ : ∃ q, q = Tr.la ys j := ⟨_, rfl⟩
  rw [← hp] at hpi l1
  rw [← hq] at hqj l2
  have c1 := h.h1
  have c4 := h.h4
  have H := Lib.hid h
  have HX := Lib.hid hx
  have HY := Lib.hid hy
  have HK := Lib.hid hk
  have HP := Lib.hid hp
  have HQ := Lib.hid hq
  have HA := Lib.hid hA
  have b1 : (0 : Int) ≤ (i : Int) := by omega
  have b2 : (i : Int) < (xs.length : Int) := by omega
  have b3 : (0 : Int) ≤ (j : Int) := by omega
  have b4 : (j : Int) < (ys.length : Int) := by omega
  have b5 : (0 : Int) ≤ (p : Int) := by omega
  have b6 : (p : Int) < 25 := by omega
  have b7 : (0 : Int) ≤ (q : Int) := by omega
  have b8 : (q : Int) < 25 := by omega
  have ZZ := Lib.hid (RR_zero (xs := xs) (ys := ys) (k := k) (i := i) (j := j))
  have ZL := Lib.hid (fun x a b => RR_left (xs := xs) (ys := ys) (k := k) (i := i) (j := j) (x := x) hx hi a b)
  have ZR := Lib.hid (fun y a b => RR_right (xs := xs) (ys := ys) (k := k) (i := i) (j := j) (y := y) hy hj a b)
  have BL := Lib.hid (fun x (a1 : Tr.la xs i ≤ x) (a2 : x ≤ i) => RR_bound (k := k) hx hy (p := Tr.la xs i) (a := x) (q := Tr.la ys j) (b := Tr.la ys j) a1 (by omega) (Nat.le_refl _) (by omega))
  have BR := Lib.hid (fun y (a1 : Tr.la ys j ≤ y) (a2 : y ≤ j) => RR_bound (k := k) hx hy (p := Tr.la xs i) (a := Tr.la xs i) (q := Tr.la ys j) (b := y) (Nat.le_refl _) (by omega) a1 (by omega))
  rw [← hp, ← hq] at ZZ ZL ZR BL BR
  clear h hx hy hk hp hq hA
  go_enter Try.func118, Try.ntmps118
  go_wp2_with fail
  go_quiet (fail)
  generalize hw1 : World.drewN w _ = w1
  have hd1 : Drawn w w1 := ⟨_, hw1.symm⟩
  have H1 := Lib.hid (H.out.drawn hd1)
  have HD1 := Lib.hid hd1
  have f1 := H1.out.fr p q (by omega) (by omega)
  have z1 := H1.out.fz (10 + p * 25 + q)
  clear c1 c4 l1 l2 hw1 hd1
  go_wp2
  have H2 := Lib.hid (H1.out.setF (x := p) (y := q) (by omega) (by omega) 0)
  have HB2 := Lib.hid (HD1.out.toBelow.setCell H1.out.gB (.int .i64 0) (p := ⟨D.g, 10 + p * 25 + q, none⟩))
  obtain ⟨w2, hw2⟩ : ∃ w2, w2 = w1.setCell ⟨D.g, 10 + p * 25 + q, none⟩ (.int .i64 0) := ⟨_, rfl⟩
  rw [← hw2] at H2 HB2 ⊢
  clear f1 z1 hw2
  have hst1 : ∀ a, p ≤ a → a ≤ p → updF F p q 0 a q = RR xs ys k p a q q := fun a a1 a2 => by
    have e : a = p := by omega
    rw [e, ZZ.out]
    simp [updF]
  have ST1 := Lib.hid hst1
  clear hst1
  go_loopw [8] (fun xv wr => ∃ (x : Nat) (F1 : Nat → Nat → Int), p ≤ x ∧ x ≤ i + 1 ∧ xv = .int .i64 x ∧ DT B D xs ys k F1 T wr ∧ Below B w wr ∧ ∀ a, p ≤ a → a ≤ x → F1 a q = RR xs ys k p a q q) (fun x _ => i + 1 - (intOf x).toNat)
  case atStart => exact ⟨p, _, Nat.le_refl _, by omega, rfl, H2.out, HB2.out, ST1.out⟩
  case round =>
    clear H1 HD1 H2 HB2 ST1
    obtain ⟨x, F1, hpx, hxi, rfl, hD, hB, hF⟩ := hrel
    have HD := Lib.hid hD
    have HB := Lib.hid hB
    have HF := Lib.hid hF
    clear hD hB hF
    by_cases hlt : x ≤ i
    · have g1 := HD.out.fr x q (by omega) (by omega)
      have bd := BL.out x hpx hlt
      rw [← HF.out x hpx (Nat.le_refl _)] at bd
      have n1 := (Co.nonneg' k).1 (Tr.xa xs x)
      have c1 : (0 : Int) ≤ (x : Int) := by omega
      have c2 : (x : Int) < 25 := by omega
      have c3 : (0 : Int) ≤ (x : Int) + 1 := by omega
      have c4 : (x : Int) + 1 < 25 := by omega
      have a1 : IntKind.i64.wrap ((x : Int) + 1) = (x : Int) + 1 := Kit.w64 (by omega) (by omega)
      have Hww := Lib.hid (show IntKind.i64.wrap (F1 x q + Co.del k (Tr.xa xs x)) = F1 x q + Co.del k (Tr.xa xs x) from Kit.w64 (by omega) (by omega))
      have S0 := Lib.hid (show wr.drew.cell? ⟨D.g, 10 + x * 25 + q, none⟩ = some (.int .i64 (F1 x q)) ∧ DFo B D xs ys k F1 T (x + 1) q (F1 x q + Co.del k (Tr.xa xs x)) wr wr.drew from ⟨g1, .inl (HD.out.drawn (Drawn.refl _).drew), (Drawn.refl _).drew.toBelow⟩)
      go_wp2_with fail
      go_region_held3 (fun wq => wq.cell? ⟨D.g, 10 + x * 25 + q, none⟩ = some (.int .i64 (F1 x q)) ∧ DFo B D xs ys k F1 T (x + 1) q (F1 x q + Co.del k (Tr.xa xs x)) wr wq) (first | exact S0.out | (refine dfo_keep ?_ hd; assumption) | (rw [Hww.out]; exact dfo_store (dfo_keep (by assumption) hd) (by omega) (by omega) (fun e => by injection e with e1 e2; omega))) (first | (go_at_call 126; refine (dfo_del (by assumption) HX.out HY.out HK.out x (by omega)).mono ?_; rintro e w5 ⟨rfl, hd⟩; obtain ⟨z5, tc5, tf5⟩ := dfo_cell (dfo_keep (by assumption) hd) (by omega) (by omega)))
      rw [Hww.out]
      have h6 := (HD.out.drawn ((Drawn.refl _).drew.trans hd)).setF (x := x + 1) (y := q) (by omega) (by omega) (F1 x q + Co.del k (Tr.xa xs x))
      have hb6 : Below B w (w5.setCell ⟨D.g, 10 + (x + 1) * 25 + q, none⟩ (.int .i64 (F1 x q + Co.del k (Tr.xa xs x)))) := (HB.out.trans ((Drawn.refl _).drew.trans hd).toBelow).setCell HD.out.gB _
      have H6 := Lib.hid h6
      have HB6 := Lib.hid hb6
      clear h6 hb6 S0 a1
      go_wp2
      go_roundw
      case rel =>
        refine ⟨x + 1, _, by omega, by omega, by go_num, H6.out, HB6.out, fun a a1 a2 => ?_⟩
        unfold updF
        by_cases e : a = x + 1
        · rw [if_pos ⟨e, rfl⟩, e, ZL.out x hpx hlt, HF.out x hpx (Nat.le_refl _)]
        · rw [if_neg (fun c => e c.1)]; exact HF.out a a1 (by omega)
      case measure => simp [intOf]; omega
    · have HXE := Lib.hid (show x = i + 1 by omega)
      rw [HXE.out] at HF
      go_wp2
      go_loopw [9] (fun yv wr => ∃ (y : Nat) (F1 : Nat → Nat → Int), q ≤ y ∧ y ≤ j + 1 ∧ yv = .int .i64 y ∧ DT B D xs ys k F1 T wr ∧ Below B w wr ∧ (∀ a, p ≤ a → a ≤ i + 1 → F1 a q = RR xs ys k p a q q) ∧ ∀ b, q ≤ b → b ≤ y → F1 p b = RR xs ys k p p q b) (fun y _ => j + 1 - (intOf y).toNat)
      case atStart => exact ⟨q, F1, Nat.le_refl _, by omega, rfl, HD.out, HB.out, HF.out, fun b b1 b2 => by
        have e : b = q := by omega
        rw [e]; exact HF.out p (Nat.le_refl _) (by omega)⟩
      case round =>
        clear HD HB HF
        clear F1
        obtain ⟨y, F1, hqy, hyj, rfl, hD, hB, hF, hG⟩ := hrel
        have HD := Lib.hid hD
        have HB := Lib.hid hB
        have HF := Lib.hid hF
        have HG := Lib.hid hG
        clear hD hB hF hG
        by_cases hlt : y ≤ j
        · have g1 := HD.out.fr p y (by omega) (by omega)
          have bd := BR.out y hqy hlt
          rw [← HG.out y hqy (Nat.le_refl _)] at bd
          have n1 := (Co.nonneg' k).2.1 (Tr.xa ys y)
          have c1 : (0 : Int) ≤ (y : Int) := by omega
          have c2 : (y : Int) < 25 := by omega
          have c3 : (0 : Int) ≤ (y : Int) + 1 := by omega
          have c4 : (y : Int) + 1 < 25 := by omega
          have a1 : IntKind.i64.wrap ((y : Int) + 1) = (y : Int) + 1 := Kit.w64 (by omega) (by omega)
          have Hww := Lib.hid (show IntKind.i64.wrap (F1 p y + Co.ins k (Tr.xa ys y)) = F1 p y + Co.ins k (Tr.xa ys y) from Kit.w64 (by omega) (by omega))
          have S0 := Lib.hid (show wr.drew.cell? ⟨D.g, 10 + p * 25 + y, none⟩ = some (.int .i64 (F1 p y)) ∧ DFo B D xs ys k F1 T p (y + 1) (F1 p y + Co.ins k (Tr.xa ys y)) wr wr.drew from ⟨g1, .inl (HD.out.drawn (Drawn.refl _).drew), (Drawn.refl _).drew.toBelow⟩)
          go_wp2_with fail
          go_region_held3 (fun wq => wq.cell? ⟨D.g, 10 + p * 25 + y, none⟩ = some (.int .i64 (F1 p y)) ∧ DFo B D xs ys k F1 T p (y + 1) (F1 p y + Co.ins k (Tr.xa ys y)) wr wq) (first | exact S0.out | (refine dfo_keep ?_ hd; assumption) | (rw [Hww.out]; exact dfo_store (dfo_keep (by assumption) hd) (by omega) (by omega) (fun e => by injection e with e1 e2; omega))) (first | (go_at_call 128; refine (dfo_ins (by assumption) HX.out HY.out HK.out y (by omega)).mono ?_; rintro e w5 ⟨rfl, hd⟩; obtain ⟨z5, tc5, tf5⟩ := dfo_cell (dfo_keep (by assumption) hd) (by omega) (by omega)))
          rw [Hww.out]
          have h6 := (HD.out.drawn ((Drawn.refl _).drew.trans hd)).setF (x := p) (y := y + 1) (by omega) (by omega) (F1 p y + Co.ins k (Tr.xa ys y))
          have hb6 : Below B w (w5.setCell ⟨D.g, 10 + p * 25 + (y + 1), none⟩ (.int .i64 (F1 p y + Co.ins k (Tr.xa ys y)))) := (HB.out.trans ((Drawn.refl _).drew.trans hd).toBelow).setCell HD.out.gB _
          have H6 := Lib.hid h6
          have HB6 := Lib.hid hb6
          clear h6 hb6 S0 a1
          go_wp2
          go_roundw
          case rel =>
            refine ⟨y + 1, _, by omega, by omega, by go_num, H6.out, HB6.out, fun a a1 a2 => ?_, fun b b1 b2 => ?_⟩
            · unfold updF
              rw [if_neg (fun c => by omega)]; exact HF.out a a1 a2
            · unfold updF
              by_cases e : b = y + 1
              · rw [if_pos ⟨rfl, e⟩, e, ZR.out y hqy hlt, HG.out y hqy (Nat.le_refl _)]
              · rw [if_neg (fun c => e c.2)]; exact HG.out b b1 (by omega)
          case measure => simp [intOf]; omega
        · have HYE := Lib.hid (show y = j + 1 by omega)
          rw [HYE.out] at HG
          have FS := Lib.hid (Fill.start HX.out HY.out hi hj HD.out.tlen (by rw [← HP.out, ← HQ.out]; exact HF.out) (by rw [← HP.out, ← HQ.out]; exact HG.out))
          rw [← HP.out, ← HQ.out] at FS
          go_wp2
          go_loopw [10] (fun xv wr => ∃ (x : Nat) (F2 : Nat → Nat → Int) (T2 : List Int), p ≤ x ∧ x ≤ i + 1 ∧ xv = .int .i64 x ∧ Fill xs ys k i j x q F2 T T2 ∧ DT B D xs ys k F2 T2 wr ∧ Below B w wr) (fun x _ => i + 1 - (intOf x).toNat)
          case atStart => exact ⟨p, F1, T, Nat.le_refl _, by omega, rfl, FS.out, HD.out, HB.out⟩
          case round =>
            clear HD HB HF HG FS
            clear F1
            obtain ⟨x, F2, T2, hpx, hxi, rfl, hS, hD, hB⟩ := hrel
            have HD := Lib.hid hD
            have HB := Lib.hid hB
            have HS := Lib.hid hS
            clear hD hB hS
            by_cases hlt : x ≤ i
            · go_wp2
              go_loopw [11] (fun yv wr => ∃ (y : Nat) (F3 : Nat → Nat → Int) (T3 : List Int), q ≤ y ∧ y ≤ j + 1 ∧ yv = .int .i64 y ∧ Fill xs ys k i j x y F3 T T3 ∧ DT B D xs ys k F3 T3 wr ∧ Below B w wr) (fun y _ => j + 1 - (intOf y).toNat)
              case atStart => exact ⟨q, F2, T2, Nat.le_refl _, by omega, rfl, HS.out, HD.out, HB.out⟩
              case round =>
                clear HD HB HS
                clear F2 T2
                obtain ⟨y, F3, T3, hqy, hyj, rfl, hS, hD, hB⟩ := hrel
                have HD := Lib.hid hD
                have HB := Lib.hid hB
                have HS := Lib.hid hS
                clear hD hB hS
                by_cases hlt2 : y ≤ j
                · have HC := Lib.hid (distAdd_any B D xs ys k F3 T T3 wr HD.out HX.out HY.out HK.out i j x y hi hj HA.out HS.out (by rw [← HP.out]; exact hpx) hlt (by rw [← HQ.out]; exact hqy) hlt2)
                  rw [← HP.out, ← HQ.out] at HC
                  go_wp2_with fail
                  refine HC.out.mono ?_
                  rintro e w7 ⟨rfl, ⟨F4, T4, hS4, hD4⟩, hb4⟩
                  have HD4 := Lib.hid hD4
                  have HS4 := Lib.hid hS4
                  have HB4 := Lib.hid (HB.out.trans hb4)
                  clear hD4 hS4 hb4 HC
                  go_wp2
                  go_roundw
                  case rel => exact ⟨y + 1, F4, T4, by omega, by omega, by go_num, HS4.out, HD4.out, HB4.out⟩
                  case measure => simp [intOf]; omega
                · have hye : y = j + 1 := by omega
                  rw [hye] at HS
                  clear hye
                  have HN := Lib.hid (Fill.next HY.out hj HS.out)
                  rw [← HQ.out] at HN
                  go_wp2
                  go_roundw
                  case rel => exact ⟨x + 1, F3, T3, by omega, by omega, by go_num, HN.out, HD.out, HB.out⟩
                  case measure => simp [intOf]; omega
            · have hxe : x = i + 1 := by omega
              rw [hxe] at HS
              clear hxe
              go_wp2
              (try simp only [Exit.inBlock, Exit.then])
              refine bodyPost_end (results_none rfl _ _ _) rfl ?_
              exact ⟨rfl, ⟨F2, T2, by rw [← HQ.out]; exact HS.out, HD.out⟩, HB.out⟩

end Go.Proofs.Ytlndaflhlkbedaa

/- Contracts (FullI). -/
namespace Go.Proofs.Ytlndaflhlkbedaa
open Go.RowKit
set_option linter.unusedVariables false

/-- what fullTable returns of valid trees and costs -/
def FullAt (xs ys : Tr) (k : Co) (w : World) (e : Ending) (w' : World) : Prop :=
  ∃ (D : DtD) (F : Nat → Nat → Int), e = .returned (.pointer (some ⟨D.g, 0, none⟩)) ∧ DT w.heap.size D xs ys k F (Tr.tds xs ys k) w' ∧ (∀ a b, a ≤ xs.length → b ≤ ys.length → F a b = RR xs ys k 0 a 0 b) ∧ Below w.heap.size w w'

/-- nine cells of a block stand; the world has only grown -/
def NiG (g : Nat) (w0 wq : World) : Prop := Below w0.heap.size w0 wq ∧ g < w0.heap.size
theorem nine_keep {w0 wx wq : World} {g : Nat} {u0 u1 u2 u3 u4 u5 u6 u7 u8 : Option Value} (hS : (wx.cell? ⟨g, 0, none⟩ = u0 ∧ wx.cell? ⟨g, 1, none⟩ = u1 ∧ wx.cell? ⟨g, 2, none⟩ = u2 ∧ wx.cell? ⟨g, 3, none⟩ = u3 ∧ wx.cell? ⟨g, 4, none⟩ = u4 ∧ wx.cell? ⟨g, 5, none⟩ = u5 ∧ wx.cell? ⟨g, 6, none⟩ = u6 ∧ wx.cell? ⟨g, 7, none⟩ = u7 ∧ wx.cell? ⟨g, 8, none⟩ = u8) ∧ NiG g w0 wx) (hb : Below wx.heap.size wx wq) : (wq.cell? ⟨g, 0, none⟩ = u0 ∧ wq.cell? ⟨g, 1, none⟩ = u1 ∧ wq.cell? ⟨g, 2, none⟩ = u2 ∧ wq.cell? ⟨g, 3, none⟩ = u3 ∧ wq.cell? ⟨g, 4, none⟩ = u4 ∧ wq.cell? ⟨g, 5, none⟩ = u5 ∧ wq.cell? ⟨g, 6, none⟩ = u6 ∧ wq.cell? ⟨g, 7, none⟩ = u7 ∧ wq.cell? ⟨g, 8, none⟩ = u8) ∧ NiG g w0 wq := by
  obtain ⟨⟨h0, h1, h2, h3, h4, h5, h6, h7, h8⟩, hB, hg⟩ := hS
  have hz := hB.size
  have c (o : Nat) : wq.cell? ⟨g, o, none⟩ = wx.cell? ⟨g, o, none⟩ := hb.cell (p := ⟨g, o, none⟩) (by show g < _; omega)
  exact ⟨⟨by rw [c 0, h0], by rw [c 1, h1], by rw [c 2, h2], by rw [c 3, h3], by rw [c 4, h4], by rw [c 5, h5], by rw [c 6, h6], by rw [c 7, h7], by rw [c 8, h8]⟩, hB.trans (hb.mono hz), hg⟩
theorem nine_below {w0 wx : World} {g : Nat} {u0 u1 u2 u3 u4 u5 u6 u7 u8 : Option Value} (hS : (wx.cell? ⟨g, 0, none⟩ = u0 ∧ wx.cell? ⟨g, 1, none⟩ = u1 ∧ wx.cell? ⟨g, 2, none⟩ = u2 ∧ wx.cell? ⟨g, 3, none⟩ = u3 ∧ wx.cell? ⟨g, 4, none⟩ = u4 ∧ wx.cell? ⟨g, 5, none⟩ = u5 ∧ wx.cell? ⟨g, 6, none⟩ = u6 ∧ wx.cell? ⟨g, 7, none⟩ = u7 ∧ wx.cell? ⟨g, 8, none⟩ = u8) ∧ NiG g w0 wx) : Below w0.heap.size w0 wx := hS.2.1
set_option maxHeartbeats 1600000 in
set_option maxRecDepth 100000 in
theorem fullTable_no (A A' : Option Addr) (n n' c c' : Nat) (xs ys : Tr) (K0 K1 K2 : Option Addr) (n0 n1 n2 c0 c1 c2 : Nat) (k : Co) (w : World) (ha : NdIn w w.heap.size A n xs) (hb : NdIn w w.heap.size A' n' ys) (hk : CoIn w w.heap.size K0 K1 K2 n0 n1 n2 k)
    (hn : n ≤ 1048576) (hn' : n' ≤ 1048576) (h0 : n0 ≤ 1048576) (h1 : n1 ≤ 1048576) (h2 : n2 ≤ 1048576) (hc : n ≤ c) (hc' : n' ≤ c') (hno : DOk xs ys k = false) :
    Calls Try.prog 71 #[.slice A n c, .slice A' n' c', .agg #[.slice K0 n0 c0, .slice K1 n1 c1, .slice K2 n2 c2]] w fun e w' => e = .returned (.pointer none) ∧ Below w.heap.size w w' := by
  obtain ⟨wc, hwc⟩ : ∃ wc, wc = w.alloc (.cells #[.slice K0 n0 c0, .slice K1 n1 c1, .slice K2 n2 c2] 27) := ⟨_, rfl⟩
  have hbc : Below w.heap.size w wc := by rw [hwc]; exact (Below.refl _ _).alloc (Nat.le_refl _) _
  have hzc : wc.heap.size = w.heap.size + 1 := by rw [hwc]; simp
  have HWC := Lib.hid hwc
  have HA := Lib.hid (ha.to_below hbc)
  have HB := Lib.hid (hb.to_below hbc)
  have HK := Lib.hid (hk.to_below hbc)
  have HBC := Lib.hid hbc
  have HZC := Lib.hid hzc
  have HK0 := Lib.hid hk
  have HN := Lib.hid hno
  clear ha hb hk hwc hbc hzc hno
  have M := Lib.hid (And.intro hn (And.intro hn' (And.intro h0 (And.intro h1 (And.intro h2 (And.intro hc hc'))))))
  clear hn hn' h0 h1 h2 hc hc'
  go_enter Try.func71, Try.ntmps71
  go_wp2_with fail
  rw [← HWC.out]
  refine (sidesOf_no _ _ _ _ _ _ xs ys _ _ _ _ _ _ _ _ _ k _ HA.out HB.out HK.out M.out.1 M.out.2.1 M.out.2.2.1 M.out.2.2.2.1 M.out.2.2.2.2.1 M.out.2.2.2.2.2.1 M.out.2.2.2.2.2.2 HN.out).mono ?_
  rintro e w1 ⟨rfl, b1⟩
  have BB1 := Lib.hid (HBC.out.trans (b1.mono HBC.out.size))
  have s1 := b1.size
  have s2 := HZC.out
  clear b1
  go_wp2
  go_ret
  exact ⟨rfl, BB1.out.alloc (by omega) _⟩
set_option maxHeartbeats 1600000 in
set_option maxRecDepth 100000 in
theorem fullTable_yes (A A' : Option Addr) (n n' c c' : Nat) (xs ys : Tr) (K0 K1 K2 : Option Addr) (n0 n1 n2 c0 c1 c2 : Nat) (k : Co) (w : World) (ha : NdIn w w.heap.size A n xs) (hb : NdIn w w.heap.size A' n' ys) (hk : CoIn w w.heap.size K0 K1 K2 n0 n1 n2 k)
    (hc : n ≤ c) (hc' : n' ≤ c') (hx : Tr.ok xs = true) (hy : Tr.ok ys = true) (ho : Co.ok k = true) :
    Calls Try.prog 71 #[.slice A n c, .slice A' n' c', .agg #[.slice K0 n0 c0, .slice K1 n1 c1, .slice K2 n2 c2]] w (FullAt xs ys k w) := by
  have hln := ha.1
  have hln' := hb.1
  have hkl := hk.len
  have l1 := (Zs.fit_iff.1 (Co.fit3 ho).1).1
  have l2 := (Zs.fit_iff.1 (Co.fit3 ho).2.1).1
  have l3 := (Zs.fit_iff.1 (Co.fit3 ho).2.2).1
  obtain rfl : n0 = 6 := by omega
  obtain rfl : n1 = 6 := by omega
  obtain rfl : n2 = 36 := by omega
  obtain ⟨k0, rfl, hk0⟩ := hk.1.2.1 (by omega)
  obtain ⟨k1, rfl, hk1⟩ := hk.2.1.2.1 (by omega)
  obtain ⟨k2, rfl, hk2⟩ := hk.2.2.2.1 (by omega)
  obtain ⟨x1, x24⟩ := Tr.len24 hx
  obtain ⟨y1, y24⟩ := Tr.len24 hy
  subst hln
  subst hln'
  obtain ⟨wc, hwc⟩ : ∃ wc, wc = w.alloc (.cells #[.slice (some k0) 6 c0, .slice (some k1) 6 c1, .slice (some k2) 36 c2] 27) := ⟨_, rfl⟩
  have hbc : Below w.heap.size w wc := by rw [hwc]; exact (Below.refl _ _).alloc (Nat.le_refl _) _
  have hzc : wc.heap.size = w.heap.size + 1 := by rw [hwc]; simp
  have HWC := Lib.hid hwc
  have HA := Lib.hid (ha.to_below hbc)
  have HB := Lib.hid (hb.to_below hbc)
  have HK := Lib.hid (hk.to_below hbc)
  have HBC := Lib.hid hbc
  have HZC := Lib.hid hzc
  have HK0 := Lib.hid hk
  obtain ⟨i0, hi0, hz0, hz1, hz2⟩ := info_parts info_intZ
  have Hi := Lib.hid hi0
  obtain ⟨nm, hnm⟩ : ∃ nm, nm = xs.length * ys.length := ⟨_, rfl⟩
  have hnm1 : nm ≤ 576 := by rw [hnm]; exact Nat.mul_le_mul x24 y24
  have hmul : (xs.length : Int) * (ys.length : Int) = (nm : Int) := by rw [hnm, Int.natCast_mul]
  have a3 : IntKind.i64.wrap ((xs.length : Int) * (ys.length : Int)) = (nm : Int) := by rw [hmul, Kit.w64 (by omega) (by omega)]
  have HNM := Lib.hid hnm
  have HX := Lib.hid hx
  have HY := Lib.hid hy
  have HO := Lib.hid ho
  have lk := fun (zs : Tr) (h : Tr.ok zs = true) => show 0 < (Tr.krs zs).length by obtain ⟨r, hr⟩ := Tr.krs_last h; rw [hr]; simp
  have LKX := Lib.hid (lk xs HX.out)
  have LKY := Lib.hid (lk ys HY.out)
  have kl := fun (zs : Tr) (h : Tr.ok zs = true) => show (Tr.krs zs).length ≤ 24 by have h1 := Tr.krTo_le zs (Tr.lfs zs).length; have h2 := Tr.lfs_len h; have h3 := (Tr.len24 h).2; unfold Tr.krs; omega
  have klx := kl xs HX.out
  have kly := kl ys HY.out
  clear lk kl ha hb hk hkl l1 l2 l3 hx hy ho hwc hbc hzc hi0 hnm hmul
  go_enter Try.func71, Try.ntmps71
  go_wp2_with fail
  rw [← HWC.out]
  refine (sidesOf_yes _ _ _ _ _ _ xs ys _ _ _ _ _ _ _ _ _ k _ HA.out HB.out HK.out hc hc' HX.out HY.out HO.out).mono ?_
  rintro e w1 ⟨ga0, ga1, ga2, gb0, gb1, gb2, ca0, ca1, ca2, cb0, cb1, cb2, rfl, ra0, ra1, ra2, rb0, rb1, rb2, b1⟩
  have s1 := b1.size
  have s2 := HZC.out
  have BB1 := Lib.hid (HBC.out.trans (b1.mono HBC.out.size))
  have ROWS := Lib.hid (And.intro ra0 (And.intro ra1 (And.intro ra2 (And.intro rb0 (And.intro rb1 rb2)))))
  have BC := Lib.hid b1
  clear b1 ra0 ra1 ra2 rb0 rb1 rb2
  obtain ⟨ra0, ra1, ra2, rb0, rb1, rb2⟩ := ROWS.out
  have la0 := (ra0.lt ga0 rfl).2
  have la1 := (ra1.lt ga1 rfl).2
  have la2 := (ra2.lt ga2 rfl).2
  have lb0 := (rb0.lt gb0 rfl).2
  have lb1 := (rb1.lt gb1 rfl).2
  have lb2 := (rb2.lt gb2 rfl).2
  have LL := Lib.hid (And.intro la0 (And.intro la1 (And.intro la2 (And.intro lb0 (And.intro lb1 lb2)))))
  clear ra0 ra1 ra2 rb0 rb1 rb2 la0 la1 la2 lb0 lb1 lb2
  obtain ⟨w2, hw2⟩ : ∃ w2, w2 = w1.alloc (.cells #[.slice (some ⟨ga0, 0, none⟩) xs.length ca0, .slice (some ⟨ga1, 0, none⟩) xs.length ca1, .slice (some ⟨ga2, 0, none⟩) (Tr.krs xs).length ca2, .slice (some ⟨gb0, 0, none⟩) ys.length cb0, .slice (some ⟨gb1, 0, none⟩) ys.length cb1, .slice (some ⟨gb2, 0, none⟩) (Tr.krs ys).length cb2, .slice (some k0) 6 c0, .slice (some k1) 6 c1, .slice (some k2) 36 c2] 86) := ⟨_, rfl⟩
  have hb2 : Below w1.heap.size w1 w2 := by rw [hw2]; exact (Below.refl _ _).alloc (Nat.le_refl _) _
  have z2 : w2.heap.size = w1.heap.size + 1 := by rw [hw2]; simp
  have S0 := Lib.hid (show (w2.drew.cell? ⟨w1.heap.size, 0, none⟩ = some (.slice (some ⟨ga0, 0, none⟩) xs.length ca0) ∧ w2.drew.cell? ⟨w1.heap.size, 1, none⟩ = some (.slice (some ⟨ga1, 0, none⟩) xs.length ca1) ∧ w2.drew.cell? ⟨w1.heap.size, 2, none⟩ = some (.slice (some ⟨ga2, 0, none⟩) (Tr.krs xs).length ca2) ∧ w2.drew.cell? ⟨w1.heap.size, 3, none⟩ = some (.slice (some ⟨gb0, 0, none⟩) ys.length cb0) ∧ w2.drew.cell? ⟨w1.heap.size, 4, none⟩ = some (.slice (some ⟨gb1, 0, none⟩) ys.length cb1) ∧ w2.drew.cell? ⟨w1.heap.size, 5, none⟩ = some (.slice (some ⟨gb2, 0, none⟩) (Tr.krs ys).length cb2) ∧ w2.drew.cell? ⟨w1.heap.size, 6, none⟩ = some (.slice (some k0) 6 c0) ∧ w2.drew.cell? ⟨w1.heap.size, 7, none⟩ = some (.slice (some k1) 6 c1) ∧ w2.drew.cell? ⟨w1.heap.size, 8, none⟩ = some (.slice (some k2) 36 c2)) ∧ NiG w1.heap.size w2 w2.drew from by rw [hw2]; exact ⟨⟨cell_made _ _ _ 0 _ rfl, cell_made _ _ _ 1 _ rfl, cell_made _ _ _ 2 _ rfl, cell_made _ _ _ 3 _ rfl, cell_made _ _ _ 4 _ rfl, cell_made _ _ _ 5 _ rfl, cell_made _ _ _ 6 _ rfl, cell_made _ _ _ 7 _ rfl, cell_made _ _ _ 8 _ rfl⟩, (Drawn.refl _).drew.toBelow, by simp⟩)
  have B2 := Lib.hid hb2
  have Z2 := Lib.hid z2
  have HW2 := Lib.hid hw2
  have C1 := Lib.hid s1
  have C2 := Lib.hid s2
  have X24 := Lib.hid (And.intro klx kly)
  clear hb2 z2 hw2 s1 s2 klx kly x1 x24 y1 y24
  go_wp2_with fail
  rw [← HW2.out]
  go_region_held3 (fun wq => (wq.cell? ⟨w1.heap.size, 0, none⟩ = some (.slice (some ⟨ga0, 0, none⟩) xs.length ca0) ∧ wq.cell? ⟨w1.heap.size, 1, none⟩ = some (.slice (some ⟨ga1, 0, none⟩) xs.length ca1) ∧ wq.cell? ⟨w1.heap.size, 2, none⟩ = some (.slice (some ⟨ga2, 0, none⟩) (Tr.krs xs).length ca2) ∧ wq.cell? ⟨w1.heap.size, 3, none⟩ = some (.slice (some ⟨gb0, 0, none⟩) ys.length cb0) ∧ wq.cell? ⟨w1.heap.size, 4, none⟩ = some (.slice (some ⟨gb1, 0, none⟩) ys.length cb1) ∧ wq.cell? ⟨w1.heap.size, 5, none⟩ = some (.slice (some ⟨gb2, 0, none⟩) (Tr.krs ys).length cb2) ∧ wq.cell? ⟨w1.heap.size, 6, none⟩ = some (.slice (some k0) 6 c0) ∧ wq.cell? ⟨w1.heap.size, 7, none⟩ = some (.slice (some k1) 6 c1) ∧ wq.cell? ⟨w1.heap.size, 8, none⟩ = some (.slice (some k2) 36 c2)) ∧ NiG w1.heap.size w2 wq) (first | (with_reducible exact S0.out) | (with_reducible refine nine_keep ?_ hb; with_reducible assumption) | (with_reducible refine nine_keep ?_ ((Below.refl _ _).alloc (Nat.le_refl _) _); with_reducible assumption)) (first | (refine upon_make w.heap.size 25 3 i0 Try.underlying25 Hi.out hz0 hz1 hz2 nm (by omega) (by have := (nine_below (by assumption)).size; have := Z2.out; have := C1.out; have := C2.out; omega) ?_; intro w7 rt hg7; have hb : Below _ _ w7 := (Below.refl _ _).grown hg7 (Nat.le_refl _) (fun _ h => by cases h); have hbm := hb))
  obtain ⟨ra0, ra1, ra2, rb0, rb1, rb2⟩ := ROWS.out
  obtain ⟨la0, la1, la2, lb0, lb1, lb2⟩ := LL.out
  have sm := hbm.size
  have s1 := C1.out
  have s2 := C2.out
  have z2 := Z2.out
  have zd : w2.drew.heap.size = w2.heap.size := rfl
  have up : ∀ {v : Value} {m : Nat} {zs : List Value}, w1.ownsRow wc.heap.size 3 1 v m zs → w7.ownsRow w.heap.size 3 1 v m zs := fun h => own_base (own_below (own_drawn (own_below h B2.out) (Drawn.refl _).drew) hbm) (by omega)
  have va0 := up ra0
  have va1 := up ra1
  have va2 := up ra2
  have vb0 := up rb0
  have vb1 := up rb1
  have vb2 := up rb2
  have vt : w7.ownsRow w.heap.size 3 1 (.slice (some ⟨w2.heap.size, 0, none⟩) nm nm) nm (ints (List.replicate nm 0)) := rt
  have ht7 : w.heap.size ≤ w2.heap.size ∧ w2.heap.size < w7.heap.size := rt.lt _ rfl
  have hbl : Below w1.heap.size w1 w7 := (B2.out.trans ((Drawn.refl w2).drew.toBelow (B := w1.heap.size))).trans (hbm.mono (by omega))
  have hF : Below w.heap.size w w7 := BB1.out.trans (hbl.mono (by omega))
  have CW : CoIn w7 w.heap.size (some k0) (some k1) (some k2) 6 6 36 k := HK0.out.below hF
  have hD := DT.made (B := w.heap.size) (ck0 := c0) (ck1 := c1) (ck2 := c2) va0 va1 va2 vb0 vb1 vb2 HNM.out vt CW (by refine ⟨?_, ?_, ?_, ?_, ?_, ?_⟩ <;> omega) (by refine ⟨?_, ?_, ?_, ?_, ?_, ?_⟩ <;> omega) ⟨by omega, by omega⟩
  unfold dtCells at hD
  have hF2 : ∀ o, Below w.heap.size w (w7.alloc o) := fun o => hF.alloc (by omega) o
  generalize hwf : World.alloc w7 _ = wf at hD ⊢
  have hBW : Below w.heap.size w wf := by rw [← hwf]; exact hF2 _
  obtain ⟨D, hg, hD⟩ : ∃ D : DtD, D.g = w7.heap.size ∧ DT w.heap.size D xs ys k (fun _ _ => 0) (List.replicate nm 0) wf := ⟨_, rfl, hD⟩
  rw [← hg]
  have HD := Lib.hid hD
  have HBW := Lib.hid hBW
  have HT0 := Lib.hid (show (List.replicate nm (0 : Int)).length = xs.length * ys.length by rw [List.length_replicate]; exact HNM.out)
  have c2' := hD.h2
  obtain ⟨klx, kly⟩ := X24.out
  clear up va0 va1 va2 vb0 vb1 vb2 vt ra0 ra1 ra2 rb0 rb1 rb2 rt hg7 hbm hbl CW hD hF hF2 hBW hwf S0 sm s1 s2 z2 zd ht7 la0 la1 la2 lb0 lb1 lb2 hg
  go_wp2
  go_loopw [39] (fun kv wr => ∃ (kk : Nat) (F : Nat → Nat → Int) (T : List Int), kk ≤ (Tr.krs xs).length ∧ kv = .int .i64 kk ∧ Roots xs ys k kk 0 T ∧ DT w.heap.size D xs ys k F T wr ∧ Below w.heap.size w wr ∧ (kk = (Tr.krs xs).length → ∀ a b, a ≤ xs.length → b ≤ ys.length → F a b = RR xs ys k 0 a 0 b)) (fun kk _ => (Tr.krs xs).length - (intOf kk).toNat)
  case atStart => exact ⟨0, _, _, Nat.zero_le _, rfl, Roots.start HT0.out, HD.out, HBW.out, fun h => by have := LKX.out; omega⟩
  case round =>
    clear HD HBW HT0
    obtain ⟨kk, F, T, hkk, rfl, hR, hD, hB, hL⟩ := hrel
    have HR := Lib.hid hR
    have HD := Lib.hid hD
    have HB := Lib.hid hB
    have HL := Lib.hid hL
    clear hR hD hB hL
    by_cases hlt : kk < (Tr.krs xs).length
    · have r1 := HD.out.ra2.at_ kk hlt
      rw [Tr.kr_up hlt] at r1
      have hil := Tr.krs_lt HX.out (Tr.kr_mem hlt)
      have h5 := HD.out.h5
      have k1 : (0 : Int) ≤ (kk : Int) := by omega
      have k2 : (kk : Int) < ((Tr.krs xs).length : Int) := by omega
      go_wp2
      go_loopw [50] (fun lv wr => ∃ (ll : Nat) (F : Nat → Nat → Int) (T : List Int), ll ≤ (Tr.krs ys).length ∧ lv = .int .i64 ll ∧ Roots xs ys k kk ll T ∧ DT w.heap.size D xs ys k F T wr ∧ Below w.heap.size w wr ∧ (kk + 1 = (Tr.krs xs).length → ll = (Tr.krs ys).length → ∀ a b, a ≤ xs.length → b ≤ ys.length → F a b = RR xs ys k 0 a 0 b)) (fun ll _ => (Tr.krs ys).length - (intOf ll).toNat)
      case atStart => exact ⟨0, F, T, Nat.zero_le _, rfl, HR.out, HD.out, HB.out, fun _ h => by have := LKY.out; omega⟩
      case round =>
        clear HR HD HB HL
        clear F T
        obtain ⟨ll, F, T, hll, rfl, hR, hD, hB, hL⟩ := hrel
        have HR := Lib.hid hR
        have HD := Lib.hid hD
        have HB := Lib.hid hB
        have HL := Lib.hid hL
        clear hR hD hB hL
        by_cases hlt2 : ll < (Tr.krs ys).length
        · have r2 := HD.out.rb2.at_ ll hlt2
          rw [Tr.kr_up hlt2] at r2
          have hjl := Tr.krs_lt HY.out (Tr.kr_mem hlt2)
          have l1 : (0 : Int) ≤ (ll : Int) := by omega
          have l2 : (ll : Int) < ((Tr.krs ys).length : Int) := by omega
          go_wp2_with fail
          refine (distCmp_any w.heap.size D xs ys k F T wr HD.out HX.out HY.out HO.out (Tr.kr xs kk) (Tr.kr ys ll) hil hjl (Roots.ahead HX.out HY.out hlt hlt2 HR.out)).mono ?_
          rintro e w7 ⟨rfl, ⟨F', T', hf, hD'⟩, hb'⟩
          have HR' := Lib.hid (Roots.step hlt hlt2 HR.out hf)
          have HL' := Lib.hid (fun (e1 : kk + 1 = (Tr.krs xs).length) (e2 : ll + 1 = (Tr.krs ys).length) => fill_last HX.out HY.out e1 e2 hf)
          have HD' := Lib.hid hD'
          have HB' := Lib.hid (HB.out.trans hb')
          clear hf hD' hb'
          go_wp2
          go_roundw
          case rel => exact ⟨ll + 1, F', T', by omega, by go_num, HR'.out, HD'.out, HB'.out, HL'.out⟩
          case measure => simp [intOf]; omega
        · have hle : ll = (Tr.krs ys).length := by omega
          have HLL := Lib.hid (fun e => HL.out e hle)
          rw [hle] at HR
          clear HL
          have HN := Lib.hid (Roots.next HR.out)
          clear hle
          go_wp2
          go_roundw
          case rel => exact ⟨kk + 1, F, T, by omega, by go_num, HN.out, HD.out, HB.out, HLL.out⟩
          case measure => simp [intOf]; omega
    · have hke : kk = (Tr.krs xs).length := by omega
      have HLL := Lib.hid (HL.out hke)
      rw [hke] at HR
      clear hke HL
      have HT := Lib.hid (Roots.tds HX.out HY.out HR.out)
      go_wp2
      go_ret
      exact ⟨D, F, rfl, by rw [← HT.out]; exact HD.out, HLL.out, HB.out⟩


end Go.Proofs.Ytlndaflhlkbedaa

/- Contracts (DistI). -/
namespace Go.Proofs.Ytlndaflhlkbedaa
open Go.RowKit
set_option linter.unusedVariables false

section
variable (A A' : Option Addr) (n n' c c' : Nat) (xs ys : Tr) (K0 K1 K2 : Option Addr) (n0 n1 n2 c0 c1 c2 : Nat) (k : Co) (w : World) (ha : NdIn w w.heap.size A n xs) (hb : NdIn w w.heap.size A' n' ys) (hk : CoIn w w.heap.size K0 K1 K2 n0 n1 n2 k)
    (hn : n ≤ 1048576) (hn' : n' ≤ 1048576) (h0 : n0 ≤ 1048576) (h1 : n1 ≤ 1048576) (h2 : n2 ≤ 1048576) (hc : n ≤ c) (hc' : n' ≤ c')
include ha hb hk hn hn' h0 h1 h2 hc hc'
set_option maxHeartbeats 1600000 in
set_option maxRecDepth 100000 in
theorem implTreeDists_any : Calls Try.prog 21 #[.slice A n c, .slice A' n' c', .agg #[.slice K0 n0 c0, .slice K1 n1 c1, .slice K2 n2 c2]] w (OwnInts 3 (Tr.dists xs ys k) w) := by
  obtain ⟨wc, hwc⟩ : ∃ wc, wc = w.alloc (.cells #[.slice K0 n0 c0, .slice K1 n1 c1, .slice K2 n2 c2] 27) := ⟨_, rfl⟩
  have hbc : Below w.heap.size w wc := by rw [hwc]; exact (Below.refl _ _).alloc (Nat.le_refl _) _
  have HWC := Lib.hid hwc
  have HA := Lib.hid (ha.to_below hbc)
  have HB := Lib.hid (hb.to_below hbc)
  have HK := Lib.hid (hk.to_below hbc)
  have HBC := Lib.hid hbc
  cases hd : DOk xs ys k with
  | false =>
    have Hf := Lib.hid (show Tr.dists xs ys k = [] by unfold DOk at hd; unfold Tr.dists; rw [hd]; rfl)
    have HD := Lib.hid hd
    clear ha hb hk hd hwc hbc
    go_enter Try.func21, Try.ntmps21
    go_wp2_with fail
    rw [← HWC.out]
    refine (fullTable_no _ _ _ _ _ _ xs ys _ _ _ _ _ _ _ _ _ k _ HA.out HB.out HK.out hn hn' h0 h1 h2 hc hc' HD.out).mono ?_
    rintro e w1 ⟨rfl, b1⟩
    have BB1 := Lib.hid (HBC.out.trans (b1.mono HBC.out.size))
    clear b1
    go_wp2
    go_ret
    rw [Hf.out]
    exact ⟨none, 0, rfl, own_nil, BB1.out⟩
  | true =>
    obtain ⟨o1, o2, o3⟩ := DOk.parts hd
    have Hf := Lib.hid (show Tr.dists xs ys k = Tr.tds xs ys k by unfold DOk at hd; unfold Tr.dists; rw [hd]; rfl)
    have O1 := Lib.hid o1
    have O2 := Lib.hid o2
    have O3 := Lib.hid o3
    clear ha hb hk hd hwc hbc o1 o2 o3
    go_enter Try.func21, Try.ntmps21
    go_wp2_with fail
    rw [← HWC.out]
    refine (fullTable_yes _ _ _ _ _ _ xs ys _ _ _ _ _ _ _ _ _ k _ HA.out HB.out HK.out hc hc' O1.out O2.out O3.out).mono ?_
    rintro e w1 ⟨D, F, rfl, hD, hF, b1⟩
    have HD := Lib.hid hD
    have BB1 := Lib.hid (HBC.out.trans (b1.mono HBC.out.size))
    have c9 := hD.h9
    clear b1 hD hF
    go_wp2
    go_ret
    have row := HD.out.row
    rw [Hf.out]
    refine ⟨some ⟨D.gt, 0, none⟩, xs.length * ys.length, by rw [Tr.tds_length]; rfl, ?_, BB1.out⟩
    rw [Tr.tds_length]
    exact own_base row HBC.out.size
set_option maxHeartbeats 1600000 in
set_option maxRecDepth 100000 in
theorem implRootDist_any : Calls Try.prog 17 #[.slice A n c, .slice A' n' c', .agg #[.slice K0 n0 c0, .slice K1 n1 c1, .slice K2 n2 c2]] w fun e w' => e = .returned (.int .i64 (Tr.rootDist xs ys k)) ∧ Below w.heap.size w w' := by
  obtain ⟨wc, hwc⟩ : ∃ wc, wc = w.alloc (.cells #[.slice K0 n0 c0, .slice K1 n1 c1, .slice K2 n2 c2] 27) := ⟨_, rfl⟩
  have hbc : Below w.heap.size w wc := by rw [hwc]; exact (Below.refl _ _).alloc (Nat.le_refl _) _
  have HWC := Lib.hid hwc
  have HA := Lib.hid (ha.to_below hbc)
  have HB := Lib.hid (hb.to_below hbc)
  have HK := Lib.hid (hk.to_below hbc)
  have HBC := Lib.hid hbc
  cases hd : DOk xs ys k with
  | false =>
    have Hf := Lib.hid (show Tr.rootDist xs ys k = -1 by unfold DOk at hd; unfold Tr.rootDist; rw [hd]; rfl)
    have HD := Lib.hid hd
    clear ha hb hk hd hwc hbc
    go_enter Try.func17, Try.ntmps17
    go_wp2_with fail
    rw [← HWC.out]
    refine (fullTable_no _ _ _ _ _ _ xs ys _ _ _ _ _ _ _ _ _ k _ HA.out HB.out HK.out hn hn' h0 h1 h2 hc hc' HD.out).mono ?_
    rintro e w1 ⟨rfl, b1⟩
    have BB1 := Lib.hid (HBC.out.trans (b1.mono HBC.out.size))
    clear b1
    go_wp2
    go_ret
    exact ⟨Kit.ret_int Hf.out.symm, BB1.out⟩
  | true =>
    obtain ⟨o1, o2, o3⟩ := DOk.parts hd
    obtain ⟨x1, x24⟩ := Tr.len24 o1
    obtain ⟨y1, y24⟩ := Tr.len24 o2
    have hln := ha.1
    have hln' := hb.1
    obtain ⟨x, hx⟩ : ∃ x, x = xs.length - 1 := ⟨_, rfl⟩
    obtain ⟨y, hy⟩ : ∃ y, y = ys.length - 1 := ⟨_, rfl⟩
    have n3 := (Co.nonneg' k).2.2 (Tr.xa xs x) (Tr.xa ys y)
    have bd := RR_bound (k := k) o1 o2 (p := 0) (a := x) (q := 0) (b := y) (Nat.zero_le _) (by omega) (Nat.zero_le _) (by omega)
    have Hf := Lib.hid (show Tr.rootDist xs ys k = RR xs ys k 0 x 0 y + Co.rel k (Tr.xa xs x) (Tr.xa ys y) by unfold DOk at hd; unfold Tr.rootDist; rw [hd, hx, hy, Tr.xa_last o1, Tr.xa_last o2]; rfl)
    have O1 := Lib.hid o1
    have O2 := Lib.hid o2
    have O3 := Lib.hid o3
    have e1 : (n : Int) - 1 = (x : Int) := by omega
    have e2 : (n' : Int) - 1 = (y : Int) := by omega
    have HX := Lib.hid hx
    have HY := Lib.hid hy
    have k1 : (0 : Int) ≤ (x : Int) := by omega
    have k2 : (x : Int) < 25 := by omega
    have k3 : (0 : Int) ≤ (y : Int) := by omega
    have k4 : (y : Int) < 25 := by omega
    have a1 : IntKind.i64.wrap ((n : Int) - 1) = (x : Int) := by rw [Kit.w64 (by omega) (by omega)]; exact e1
    have a2 : IntKind.i64.wrap ((n' : Int) - 1) = (y : Int) := by rw [Kit.w64 (by omega) (by omega)]; exact e2
    clear ha hb hk hd hwc hbc o1 o2 o3 hx hy
    go_enter Try.func17, Try.ntmps17
    go_wp2_with fail
    rw [← HWC.out]
    refine (fullTable_yes _ _ _ _ _ _ xs ys _ _ _ _ _ _ _ _ _ k _ HA.out HB.out HK.out hc hc' O1.out O2.out O3.out).mono ?_
    rintro e w1 ⟨D, F, rfl, hD, hF, b1⟩
    have HD := Lib.hid hD
    have BB1 := Lib.hid (HBC.out.trans (b1.mono HBC.out.size))
    have cf := hD.fr x y (by omega) (by omega)
    rw [hF x y (by have := HX.out; omega) (by have := HY.out; omega)] at cf
    clear b1 hD hF
    go_wp2_with fail
    try rw [e1]
    try rw [e2]
    go_quiet (first | (go_at_call 72; exact quiet_drawn (distRel_any _ _ _ _ _ _ _ _ (HD.out.drawn ((Drawn.refl _).drewN _)) O1.out O2.out O3.out x y (by have := HX.out; omega) (by have := HY.out; omega))))
    go_wp2
    go_ret
    exact ⟨Kit.ret_int Hf.out.symm, Drawn.below BB1.out ((Drawn.refl _).drewN _)⟩
set_option maxHeartbeats 1600000 in
set_option maxRecDepth 100000 in
theorem implTreeDist_any : Calls Try.prog 19 #[.slice A n c, .slice A' n' c', .agg #[.slice K0 n0 c0, .slice K1 n1 c1, .slice K2 n2 c2]] w fun e w' => e = .returned (.int .i64 (Tr.dist xs ys k)) ∧ Below w.heap.size w w' := by
  obtain ⟨wc, hwc⟩ : ∃ wc, wc = w.alloc (.cells #[.slice K0 n0 c0, .slice K1 n1 c1, .slice K2 n2 c2] 27) := ⟨_, rfl⟩
  have hbc : Below w.heap.size w wc := by rw [hwc]; exact (Below.refl _ _).alloc (Nat.le_refl _) _
  have HWC := Lib.hid hwc
  have HA := Lib.hid (ha.to_below hbc)
  have HB := Lib.hid (hb.to_below hbc)
  have HK := Lib.hid (hk.to_below hbc)
  have HBC := Lib.hid hbc
  have Hc := Lib.hid (implTreeDists_any A A' n n' c c' xs ys K0 K1 K2 n0 n1 n2 c0 c1 c2 k wc HA.out HB.out HK.out hn hn' h0 h1 h2 hc hc')
  cases hd : DOk xs ys k with
  | false =>
    have Hf := Lib.hid (show Tr.dists xs ys k = [] by unfold DOk at hd; unfold Tr.dists; rw [hd]; rfl)
    have Hg := Lib.hid (show Tr.dist xs ys k = -1 by unfold DOk at hd; unfold Tr.dist; rw [hd]; rfl)
    clear ha hb hk hd hwc hbc
    go_enter Try.func19, Try.ntmps19
    go_wp2_with fail
    rw [← HWC.out]
    refine Hc.out.mono ?_
    rintro e w1 ⟨A1, c1, rfl, o1, b1⟩
    have BB1 := Lib.hid (HBC.out.trans (b1.mono HBC.out.size))
    clear b1 o1
    rw [Hf.out]
    go_wp2
    go_ret
    exact ⟨Kit.ret_int Hg.out.symm, BB1.out⟩
  | true =>
    obtain ⟨o1, o2, o3⟩ := DOk.parts hd
    obtain ⟨x1, x24⟩ := Tr.len24 o1
    obtain ⟨y1, y24⟩ := Tr.len24 o2
    obtain ⟨nm, hnm⟩ : ∃ nm, nm = xs.length * ys.length := ⟨_, rfl⟩
    have hnm1 : nm ≤ 576 := by rw [hnm]; exact Nat.mul_le_mul x24 y24
    have hnm0 : 0 < nm := by rw [hnm]; exact Nat.mul_pos (by omega) (by omega)
    obtain ⟨m1, hm1⟩ : ∃ m1, m1 = nm - 1 := ⟨_, rfl⟩
    have Hf := Lib.hid (show Tr.dists xs ys k = Tr.tds xs ys k by unfold DOk at hd; unfold Tr.dists; rw [hd]; rfl)
    have Hg := Lib.hid (show Tr.dist xs ys k = Zs.at (Tr.tds xs ys k) m1 by unfold DOk at hd; unfold Tr.dist; rw [hd, hm1, hnm, Tr.tds_last o1 o2]; rfl)
    have Hl := Lib.hid (show (Tr.tds xs ys k).length = nm by rw [Tr.tds_length, hnm])
    have e0 : ((nm : Int) == 0) = false := by simp; omega
    have e1 : (nm : Int) - 1 = (m1 : Int) := by omega
    have a1 : IntKind.i64.wrap ((nm : Int) - 1) = (m1 : Int) := by rw [Kit.w64 (by omega) (by omega)]; exact e1
    have k1 : (0 : Int) ≤ (m1 : Int) := by omega
    have k2 : (m1 : Int) < (nm : Int) := by omega
    have hlt : m1 < nm := by omega
    clear ha hb hk hd hwc hbc o1 o2 o3 hnm hm1
    go_enter Try.func19, Try.ntmps19
    go_wp2_with fail
    rw [← HWC.out]
    refine Hc.out.mono ?_
    rintro e w1 ⟨A1, c1, rfl, o1, b1⟩
    have BB1 := Lib.hid (HBC.out.trans (b1.mono HBC.out.size))
    rw [Hf.out, Hl.out] at o1
    rw [Hf.out, Hl.out]
    obtain ⟨ad, rfl, _, l1⟩ := (IntIn.of_own o1).at_ hlt
    clear b1 o1
    go_wp2
    go_ret
    exact ⟨Kit.ret_int Hg.out.symm, BB1.out⟩
end

end Go.Proofs.Ytlndaflhlkbedaa

/- The distances of trees whose labels are valid, under costs that agree on those. -/
namespace Go.Proofs.Ytlndaflhlkbedaa
open Go.RowKit
set_option linter.unusedVariables false

def Fst.all (P : Int → Prop) : Fst → Prop
  | .nil => True
  | .snoc l a s => l.all P ∧ P a ∧ s.all P
theorem Fst.all_cat (P : Int → Prop) (f g : Fst) : (f.cat g).all P ↔ f.all P ∧ g.all P := by
  induction g generalizing f with
  | nil => simp [Fst.cat, Fst.all]
  | snoc l a s ih1 ih2 =>
    simp only [Fst.cat, Fst.all]
    rw [ih1]
    constructor
    · rintro ⟨⟨h1, h2⟩, h3, h4⟩; exact ⟨h1, h2, h3, h4⟩
    · rintro ⟨h1, h2, h3, h4⟩; exact ⟨⟨h1, h2⟩, h3, h4⟩
theorem FD_congr {K K' : Cs} {P : Int → Prop} (hd : ∀ a, P a → K.del a = K'.del a) (hi : ∀ a, P a → K.ins a = K'.ins a) (hr : ∀ a b, P a → P b → K.rel a b = K'.rel a b) :
    ∀ (n : Nat) (f g : Fst), f.size + g.size = n → f.all P → g.all P → FD K f g = FD K' f g := by
  intro n
  induction n using Nat.strongRecOn with
  | ind n ih =>
    intro f g hn hf hg
    cases f with
    | nil =>
      cases g with
      | nil => rw [FD_nn, FD_nn]
      | snoc m b t =>
        obtain ⟨g1, g2, g3⟩ := hg
        rw [FD_ns, FD_ns, ih _ (by simp only [Fst.size, Fst.size_cat] at hn ⊢; omega) .nil (m.cat t) rfl trivial ((Fst.all_cat _ _ _).2 ⟨g1, g3⟩), hi b g2]
    | snoc l a s =>
      obtain ⟨f1, f2, f3⟩ := hf
      cases g with
      | nil =>
        rw [FD_sn, FD_sn, ih _ (by simp only [Fst.size, Fst.size_cat] at hn ⊢; omega) (l.cat s) .nil rfl ((Fst.all_cat _ _ _).2 ⟨f1, f3⟩) trivial, hd a f2]
      | snoc m b t =>
        obtain ⟨g1, g2, g3⟩ := hg
        rw [FD_ss, FD_ss, ih _ (by simp only [Fst.size, Fst.size_cat] at hn ⊢; omega) (l.cat s) (.snoc m b t) rfl ((Fst.all_cat _ _ _).2 ⟨f1, f3⟩) ⟨g1, g2, g3⟩,
          ih _ (by simp only [Fst.size, Fst.size_cat] at hn ⊢; omega) (.snoc l a s) (m.cat t) rfl ⟨f1, f2, f3⟩ ((Fst.all_cat _ _ _).2 ⟨g1, g3⟩),
          ih _ (by simp only [Fst.size] at hn ⊢; omega) l m rfl f1 g1, ih _ (by simp only [Fst.size] at hn ⊢; omega) s t rfl f3 g3, hd a f2, hi b g2, hr a b f2 g2]
theorem fr_all {la : Nat → Nat} {x : Nat → Int} {n : Nat} (hN : Nest la n) {P : Int → Prop} : ∀ (m i j : Nat), j - i = m → i ≤ j → j ≤ n → (∀ p, i ≤ p → p < j → P (x p)) → (fr la x i j).all P := by
  intro m
  induction m using Nat.strongRecOn with
  | ind m ih =>
    intro i j hm hij hj hP
    by_cases e : j = i
    · subst e; rw [fr_nil (Nat.le_refl _)]; trivial
    · obtain ⟨j, rfl⟩ : ∃ k, j = k + 1 := ⟨j - 1, by omega⟩
      have h1 := (hN j (by omega)).1
      rw [fr_succ hN (by omega) (by omega)]
      exact ⟨ih _ (by omega) i (max i (la j)) rfl (by omega) (by omega) (fun p a b => hP p a (by omega)), hP j (by omega) (by omega), ih _ (by omega) (max i (la j)) j rfl (by omega) (by omega) (fun p a b => hP p (by omega) (by omega))⟩
/-- a valid label -/
def OkL (a : Int) : Prop := ∃ u : Nat, u < 6 ∧ a = (u : Int)
/-- what lies below a tree's root, as a forest -/
def Tr.inner (xs : Tr) : Fst := fr (Tr.la xs) (Tr.xa xs) 0 (xs.length - 1)
theorem Tr.inner_size {xs : Tr} (h : Tr.ok xs = true) : (Tr.inner xs).size = xs.length - 1 := fr_size (Tr.la_nest h) _ 0 (xs.length - 1) rfl (Nat.zero_le _) (by omega)
theorem Tr.inner_all {xs : Tr} (h : Tr.ok xs = true) : (Tr.inner xs).all OkL := fr_all (Tr.la_nest h) _ 0 (xs.length - 1) rfl (Nat.zero_le _) (by omega) (fun p _ hp => Tr.xa_lab h (by omega))
theorem Tr.root_lab {xs : Tr} (h : Tr.ok xs = true) : OkL (Tr.l xs 0) := by
  have h1 := (Tr.len24 h).1
  rw [← Tr.xa_last h]
  exact Tr.xa_lab h (by omega)
theorem Tr.rootDist_yes {xs ys : Tr} {k : Co} (h1 : Tr.ok xs = true) (h2 : Tr.ok ys = true) (h3 : Co.ok k = true) : Tr.rootDist xs ys k = FD (Co.cs k) (Tr.inner xs) (Tr.inner ys) + Co.rel k (Tr.l xs 0) (Tr.l ys 0) := by
  unfold Tr.rootDist
  rw [h1, h2, h3]
  rfl
theorem Tr.rootDist_no {xs ys : Tr} {k : Co} (h : (Tr.ok xs && Tr.ok ys && Co.ok k) = false) : Tr.rootDist xs ys k = -1 := by
  unfold Tr.rootDist
  rw [h]
  rfl
/-! unit costs -/
def uc : Cs := ⟨fun _ => 1, fun _ => 1, fun a b => if a = b then 0 else 1⟩
theorem uc_metric : uc.metric := by
  refine ⟨⟨fun a => by show (0 : Int) ≤ 1; omega, fun a => by show (0 : Int) ≤ 1; omega, fun a b => by show (0 : Int) ≤ if a = b then 0 else 1; split <;> omega⟩, fun a b => ?_, fun b c => ?_, fun a b c => ?_⟩
  · show (1 : Int) ≤ (if a = b then 0 else 1) + 1; split <;> omega
  · show (1 : Int) ≤ 1 + (if b = c then 0 else 1); split <;> omega
  · show (if a = c then (0 : Int) else 1) ≤ (if a = b then 0 else 1) + (if b = c then 0 else 1)
    by_cases e1 : a = b
    · subst e1; rw [if_pos rfl]; omega
    · rw [if_neg e1]; split <;> split <;> omega
theorem Co.unit_ok : Co.ok Co.unit = true := by decide
theorem Co.unit_dels : ∀ u : Nat, u < 6 → Co.del Co.unit u = 1 ∧ Co.ins Co.unit u = 1 := by decide
theorem Co.unit_rels : ∀ u : Nat, u < 6 → ∀ v : Nat, v < 6 → Co.rel Co.unit u v = if u = v then 0 else 1 := by decide
theorem Co.unit_rel {a b : Int} (ha : OkL a) (hb : OkL b) : Co.rel Co.unit a b = uc.rel a b := by
  obtain ⟨u, hu, rfl⟩ := ha
  obtain ⟨v, hv, rfl⟩ := hb
  rw [Co.unit_rels u hu v hv]
  show _ = if (u : Int) = (v : Int) then 0 else 1
  by_cases e : u = v
  · rw [if_pos e, if_pos (by rw [e])]
  · rw [if_neg e, if_neg (by omega)]
theorem Tr.rootDist_unit {xs ys : Tr} (h1 : Tr.ok xs = true) (h2 : Tr.ok ys = true) : Tr.rootDist xs ys Co.unit = FD uc (Tr.inner xs) (Tr.inner ys) + uc.rel (Tr.l xs 0) (Tr.l ys 0) := by
  rw [Tr.rootDist_yes h1 h2 Co.unit_ok, Co.unit_rel (Tr.root_lab h1) (Tr.root_lab h2)]
  rw [FD_congr (K := Co.cs Co.unit) (K' := uc) (P := OkL) (fun a ha => by obtain ⟨u, hu, rfl⟩ := ha; exact (Co.unit_dels u hu).1) (fun a ha => by obtain ⟨u, hu, rfl⟩ := ha; exact (Co.unit_dels u hu).2) (fun a b ha hb => Co.unit_rel ha hb) _ _ _ rfl (Tr.inner_all h1) (Tr.inner_all h2)]
/-- the law FnTriangle asks for -/
theorem Tr.triangle {xs ys zs : Tr} (h1 : Tr.ok xs = true) (h2 : Tr.ok ys = true) (h3 : Tr.ok zs = true) :
    0 ≤ Tr.rootDist xs ys Co.unit ∧ Tr.rootDist xs ys Co.unit ≤ 48 ∧ Tr.rootDist xs zs Co.unit ≤ Tr.rootDist xs ys Co.unit + Tr.rootDist ys zs Co.unit ∧ (xs.length : Int) - (ys.length : Int) ≤ Tr.rootDist xs ys Co.unit ∧ (ys.length : Int) - (xs.length : Int) ≤ Tr.rootDist xs ys Co.unit ∧ Tr.rootDist xs ys Co.unit ≤ (xs.length : Int) + (ys.length : Int) - 1 := by
  have t := FD_triangle uc_metric _ (Tr.inner xs) (Tr.inner ys) (Tr.inner zs) rfl
  have g := FD_ge (K := uc) uc_metric.pos (fun a => Int.le_refl 1) (fun a => Int.le_refl 1) _ (Tr.inner xs) (Tr.inner ys) rfl
  have l := FD_le (K := uc) (M := 1) (fun a => Int.le_refl 1) (fun a => Int.le_refl 1) _ (Tr.inner xs) (Tr.inner ys) rfl
  have n := FD_nonneg uc_metric.pos _ (Tr.inner xs) (Tr.inner ys) rfl
  have r := uc_metric.rr (Tr.l xs 0) (Tr.l ys 0) (Tr.l zs 0)
  have r0 : 0 ≤ uc.rel (Tr.l xs 0) (Tr.l ys 0) ∧ uc.rel (Tr.l xs 0) (Tr.l ys 0) ≤ 1 := by
    show (0 : Int) ≤ (if Tr.l xs 0 = Tr.l ys 0 then 0 else 1) ∧ (if Tr.l xs 0 = Tr.l ys 0 then (0 : Int) else 1) ≤ 1
    split <;> omega
  have n1 := (Tr.len24 h1)
  have n2 := (Tr.len24 h2)
  rw [Tr.inner_size h1, Tr.inner_size h2] at g l
  rw [Tr.rootDist_unit h1 h2, Tr.rootDist_unit h1 h3, Tr.rootDist_unit h2 h3]
  refine ⟨by omega, by omega, by omega, by omega, by omega, by omega⟩

end Go.Proofs.Ytlndaflhlkbedaa

/- Contracts (DisM). -/
namespace Go.Proofs.Ytlndaflhlkbedaa
open Go.RowKit
set_option linter.unusedVariables false

theorem Tr.dist_root (xs ys : Tr) (k : Co) : Tr.dist xs ys k ≤ Tr.rootDist xs ys k := by
  cases hd : (Tr.ok xs && Tr.ok ys && Co.ok k) with
  | false => unfold Tr.dist Tr.rootDist; rw [hd]; exact Int.le_refl _
  | true =>
    have hx : Tr.ok xs = true := by cases h : Tr.ok xs <;> simp_all
    have hy : Tr.ok ys = true := by cases h : Tr.ok ys <;> simp_all
    obtain ⟨x1, _⟩ := Tr.len24 hx
    obtain ⟨y1, _⟩ := Tr.len24 hy
    unfold Tr.dist Tr.rootDist
    rw [hd]
    show TT xs ys k (xs.length - 1) (ys.length - 1) ≤ RR xs ys k 0 (xs.length - 1) 0 (ys.length - 1) + Co.rel k (Tr.l xs 0) (Tr.l ys 0)
    rw [TT_eq, Tr.la_last hx, Tr.la_last hy, ← Tr.xa_last hx, ← Tr.xa_last hy]
    have h := RD_both (K := Co.cs k) (x := Tr.xa xs) (y := Tr.xa ys) (Tr.la_nest hx) (Tr.la_nest hy) (i := 0) (j := xs.length - 1) (k := 0) (l := ys.length - 1) (Nat.zero_le _) (by omega) (Nat.zero_le _) (by omega)
    rw [Tr.la_last hx, Tr.la_last hy] at h
    rw [show max 0 0 = 0 from rfl, RD_none (Nat.le_refl 0) (Nat.le_refl 0)] at h
    show RD (Co.cs k) (Tr.la xs) (Tr.la ys) (Tr.xa xs) (Tr.xa ys) 0 (xs.length - 1 + 1) 0 (ys.length - 1 + 1) ≤ RD (Co.cs k) (Tr.la xs) (Tr.la ys) (Tr.xa xs) (Tr.xa ys) 0 (xs.length - 1) 0 (ys.length - 1) + (Co.cs k).rel (Tr.xa xs (xs.length - 1)) (Tr.xa ys (ys.length - 1))
    rw [h]
    omega

end Go.Proofs.Ytlndaflhlkbedaa

/- The contracts of the model's draws: a cursor over the bytes of a code; each draw is a function of the code and of where the cursor stands. -/
namespace Go.Proofs.Ytlndaflhlkbedaa
open Go.RowKit
set_option linter.unusedVariables false

/-- the cursor in block B: the code v, how many of its bytes are used, the mixed number -/
def Cur (w : World) (B : Nat) (v : Value) (i : Nat) (h : Int) : Prop := w.heap[B]? = some (.cells #[v, .int .i64 i, .int .i64 h] 132 (0, 0))
/-- the code: a slice of bytes that came in, below block B -/
def CodeIn (w : World) (B : Nat) (a : Option Addr) (cs : List Int) : Prop :=
  ∀ j, j < cs.length → ∃ b off, a = some ⟨b, off, none⟩ ∧ b < B ∧ w.cell? ⟨b, off + j, none⟩ = some (.int .u8 (cs.getD j 0)) ∧ 0 ≤ cs.getD j 0 ∧ cs.getD j 0 < 256

theorem Cur.at0 {w : World} {B : Nat} {v : Value} {i : Nat} {h : Int} (c : Cur w B v i h) : w.cell? ⟨B, 0, none⟩ = some v := by
  unfold Cur at c; simp [World.cell?, c]
theorem Cur.at1 {w : World} {B : Nat} {v : Value} {i : Nat} {h : Int} (c : Cur w B v i h) : w.cell? ⟨B, 1, none⟩ = some (.int .i64 i) := by
  unfold Cur at c; simp [World.cell?, c]
theorem Cur.at2 {w : World} {B : Nat} {v : Value} {i : Nat} {h : Int} (c : Cur w B v i h) : w.cell? ⟨B, 2, none⟩ = some (.int .i64 h) := by
  unfold Cur at c; simp [World.cell?, c]
theorem Cur.free {w : World} {B : Nat} {v : Value} {i : Nat} {h : Int} (c : Cur w B v i h) (o : Nat) : w.frozen? ⟨B, o, none⟩ = false := by
  unfold Cur at c; simp [World.frozen?, c]
theorem Cur.set2 {w : World} {B : Nat} {v : Value} {i : Nat} {h : Int} (c : Cur w B v i h) (h' : Int) : Cur (w.setCell ⟨B, 2, none⟩ (.int .i64 h')) B v i h' := by
  unfold Cur at c ⊢; simp [World.setCell, Array.getElem?_modify, c]
theorem Cur.set1 {w : World} {B : Nat} {v : Value} {i : Nat} {h : Int} (c : Cur w B v i h) (i' : Nat) : Cur (w.setCell ⟨B, 1, none⟩ (.int .i64 i')) B v i' h := by
  unfold Cur at c ⊢; simp [World.setCell, Array.getElem?_modify, c]
theorem Cur.drewN {w : World} {B : Nat} {v : Value} {i : Nat} {h : Int} (c : Cur w B v i h) (n : Nat) : Cur (w.drewN n) B v i h := c

/-- a code: where it lies, its bytes, the slice's capacity -/
structure Code where
  a : Option Addr
  cs : List Int
  cap : Nat
def CurAt (w : World) (B : Nat) (k : Code) (s : Nat × Int) : Prop := Cur w B (.slice k.a k.cs.length k.cap) s.1 s.2 ∧ CodeIn w B k.a k.cs ∧ k.cs.length ≤ 1048576
theorem CodeIn.grown {w w' : World} {B : Nat} {a : Option Addr} {cs : List Int} {r : Option Nat} (h : CodeIn w B a cs) (hg : w.grownBy w' r) (hr : ∀ k, r = some k → B ≤ k) : CodeIn w' B a cs := by
  intro j hj
  obtain ⟨b, off, h1, h2, h3, h4⟩ := h j hj
  refine ⟨b, off, h1, h2, ?_, h4⟩
  have hlt : b < w.heap.size := by
    rcases Nat.lt_or_ge b w.heap.size with h' | h'
    · exact h'
    · simp [World.cell?, Array.getElem?_eq_none h'] at h3
  rw [World.cell?_of_block (w := w) (hg.block b hlt (by intro e; have := hr b e.symm; omega))]
  exact h3
/-- what others do leaves the cursor alone -/
theorem CurAt.kept {w w' : World} {B : Nat} {k : Code} {s : Nat × Int} {r : Option Nat} (h : CurAt w B k s) (hg : w.grownBy w' r) (hr : ∀ g, r = some g → B < g) : CurAt w' B k s := by
  refine ⟨?_, h.2.1.grown hg (fun g hg => Nat.le_of_lt (hr g hg)), h.2.2⟩
  have hc := h.1
  unfold Cur at hc ⊢
  have hlt : B < w.heap.size := by
    rcases Nat.lt_or_ge B w.heap.size with h' | h'
    · exact h'
    · rw [Array.getElem?_eq_none h'] at hc; cases hc
  rw [hg.block B hlt (by intro e; have := hr B e.symm; omega), hc]
theorem CurAt.lt {w : World} {B : Nat} {k : Code} {s : Nat × Int} (h : CurAt w B k s) : B < w.heap.size := by
  have hc := h.1
  unfold Cur at hc
  rcases Nat.lt_or_ge B w.heap.size with h' | h'
  · exact h'
  · rw [Array.getElem?_eq_none h'] at hc; cases hc
theorem CurAt.alloc {w : World} {B : Nat} {k : Code} {s : Nat × Int} (h : CurAt w B k s) (o : Obj) : CurAt (w.alloc o) B k s :=
  h.kept (r := none) ⟨rfl, rfl, rfl, by simp, fun k hk _ => Below.heap_alloc _ _ _ hk⟩ (fun _ h => by cases h)

/-- the next mixed number, and the byte that it gives by itself -/
def Draw.mix (h : Int) : Int := wrap64 (wrap64 (h * 6364136223846793005) + 1442695040888963407)
def Draw.hi (h : Int) : Int := bits .and .i64 (bits .xor .i64 (Draw.mix h / 8589934592) (Draw.mix h / 35184372088832)) 255
theorem Draw.hi_bd (h : Int) : 0 ≤ Draw.hi h ∧ Draw.hi h ≤ 255 := by unfold Draw.hi; rw [Kit.i64_and255]; omega
/-- the next byte of a draw, and where the cursor stands then -/
def Draw.byte (cs : List Int) (s : Nat × Int) : Int × (Nat × Int) :=
  if s.1 < cs.length then (bits .and .i64 (Draw.hi s.2 + cs.getD s.1 0) 255, (s.1 + 1, Draw.mix s.2)) else (Draw.hi s.2, (s.1, Draw.mix s.2))
theorem Draw.byte_bd (cs : List Int) (s : Nat × Int) : 0 ≤ (Draw.byte cs s).1 ∧ (Draw.byte cs s).1 ≤ 255 := by
  unfold Draw.byte; split
  · simp only [Kit.i64_and255]; omega
  · exact Draw.hi_bd _

set_option maxHeartbeats 400000 in
theorem l1Byte_any (w : World) (B : Nat) (k : Code) (s : Nat × Int) (c : CurAt w B k s) :
    Calls Try.prog 129 #[.pointer (some ⟨B, 0, none⟩)] w fun e w' => e = .returned (.int .i64 (Draw.byte k.cs s).1) ∧ CurAt w' B k (Draw.byte k.cs s).2 ∧ w.grownBy w' (some B) := by
  obtain ⟨c, hcode, hlen⟩ := c
  obtain ⟨a, cs, cap⟩ := k
  obtain ⟨i, h⟩ := s
  simp only at c hcode hlen ⊢
  have c0 := c.at0
  have c1 := c.at1
  have c2 := c.at2
  have f1 := c.free 1
  have f2 := c.free 2
  by_cases hi : i < cs.length
  · obtain ⟨b, off, rfl, hbB, hcell, hx0, hx1⟩ := hcode i hi
    have hb : Draw.byte cs (i, h) = (bits .and .i64 (Draw.hi h + cs.getD i 0) 255, (i + 1, Draw.mix h)) := by unfold Draw.byte; rw [if_pos (by exact hi)]
    have Hb := Lib.hid hb
    have hbd := Draw.hi_bd h
    unfold Draw.hi Draw.mix at hbd
    obtain ⟨x, hx⟩ : ∃ x, x = cs.getD i 0 := ⟨_, rfl⟩
    rw [← hx] at hcell hx0 hx1 Hb
    have Hc := Lib.hid c
    have Hcode := Lib.hid hcode
    clear hb hx c hcode
    go_enter Try.func129, Try.ntmps129
    go_wp2
    go_quiet (fail)
    go_wp2
    go_quiet (fail)
    go_wp2
    go_quiet (fail)
    go_wp2
    go_ret
    rw [Hb.out]
    have hg : ∀ r, r = some B → ∀ k, r = some k → B ≤ k := fun r h k hk => by rw [h] at hk; injection hk with hk; omega
    refine ⟨rfl, ⟨((Hc.out.set2 (Draw.mix h)).drewN _).set1 (i + 1), ?_, hlen⟩, ?_⟩
    · refine CodeIn.grown (r := some B) Hcode.out ?_ (hg _ rfl)
      repeat (first | exact Kit.grown_refl _ _ | apply Kit.grown_then_drewN | apply Kit.grown_then_set)
    · repeat (first | exact Kit.grown_refl _ _ | apply Kit.grown_then_drewN | apply Kit.grown_then_set)
  · have hb : Draw.byte cs (i, h) = (Draw.hi h, (i, Draw.mix h)) := by unfold Draw.byte; rw [if_neg (by exact hi)]
    have Hb := Lib.hid hb
    have Hc := Lib.hid c
    have Hcode := Lib.hid hcode
    clear hb c hcode
    go_enter Try.func129, Try.ntmps129
    go_wp2
    go_quiet (fail)
    go_wp2
    go_quiet (fail)
    go_wp2
    go_ret
    rw [Hb.out]
    have hg : ∀ r, r = some B → ∀ k, r = some k → B ≤ k := fun r h k hk => by rw [h] at hk; injection hk with hk; omega
    refine ⟨rfl, ⟨((Hc.out.set2 (Draw.mix h)).drewN _).drewN _, ?_, hlen⟩, ?_⟩
    · refine CodeIn.grown (r := some B) Hcode.out ?_ (hg _ rfl)
      repeat (first | exact Kit.grown_refl _ _ | apply Kit.grown_then_drewN | apply Kit.grown_then_set)
    · repeat (first | exact Kit.grown_refl _ _ | apply Kit.grown_then_drewN | apply Kit.grown_then_set)

/-- a number from 0 to n-1 -/
def Draw.below (cs : List Int) (n : Int) (s : Nat × Int) : Int × (Nat × Int) :=
  if n ≤ 0 then (0, s) else if n ≤ 256 then ((Draw.byte cs s).1 % n, (Draw.byte cs s).2) else
    let x := Draw.byte cs s
    let y := Draw.byte cs x.2
    let z := Draw.byte cs y.2
    let t := Draw.byte cs z.2
    ((x.1 * 16777216 + y.1 * 65536 + z.1 * 256 + t.1) % n, t.2)
theorem Draw.below_bd (cs : List Int) (n : Int) (s : Nat × Int) (hn : 0 < n) : 0 ≤ (Draw.below cs n s).1 ∧ (Draw.below cs n s).1 < n := by
  unfold Draw.below
  rw [if_neg (by omega)]
  split
  · exact ⟨Int.emod_nonneg _ (by omega), Int.emod_lt_of_pos _ hn⟩
  · exact ⟨Int.emod_nonneg _ (by omega), Int.emod_lt_of_pos _ hn⟩
theorem Draw.below_zero (cs : List Int) (n : Int) (s : Nat × Int) (hn : n ≤ 0) : Draw.below cs n s = (0, s) := by unfold Draw.below; rw [if_pos hn]

set_option maxHeartbeats 400000 in
theorem l1Below_any (w : World) (B : Nat) (k : Code) (n : Int) (s : Nat × Int) (c : CurAt w B k s) :
    Calls Try.prog 87 #[.pointer (some ⟨B, 0, none⟩), .int .i64 n] w fun e w' => e = .returned (.int .i64 (Draw.below k.cs n s).1) ∧ CurAt w' B k (Draw.below k.cs n s).2 ∧ w.grownBy w' (some B) := by
  have Hc := Lib.hid c
  clear c
  by_cases h0 : n ≤ 0
  · have Hb := Lib.hid (Draw.below_zero k.cs n s h0)
    go_enter Try.func87, Try.ntmps87
    go_wp2
    go_ret
    rw [Hb.out]
    exact ⟨rfl, Hc.out, Kit.grown_refl _ _⟩
  · by_cases h256 : n ≤ 256
    · have hb : Draw.below k.cs n s = ((Draw.byte k.cs s).1 % n, (Draw.byte k.cs s).2) := by unfold Draw.below; rw [if_neg h0, if_pos h256]
      have Hb := Lib.hid hb
      clear hb
      have hbd := Draw.byte_bd k.cs s
      go_enter Try.func87, Try.ntmps87
      go_wp2_with fail
      refine (l1Byte_any _ B k s Hc.out).mono ?_
      rintro e w1 ⟨rfl, c1, g1⟩
      have C1 := Lib.hid c1
      clear c1
      go_wp2
      go_ret
      rw [Hb.out]
      exact ⟨rfl, C1.out, g1⟩
    · obtain ⟨X, hX⟩ : ∃ X, X = Draw.byte k.cs s := ⟨_, rfl⟩
      obtain ⟨Y, hY⟩ : ∃ Y, Y = Draw.byte k.cs X.2 := ⟨_, rfl⟩
      obtain ⟨Z, hZ⟩ : ∃ Z, Z = Draw.byte k.cs Y.2 := ⟨_, rfl⟩
      obtain ⟨T, hT⟩ : ∃ T, T = Draw.byte k.cs Z.2 := ⟨_, rfl⟩
      have hb : Draw.below k.cs n s = ((X.1 * 16777216 + Y.1 * 65536 + Z.1 * 256 + T.1) % n, T.2) := by
        subst hT hZ hY hX
        unfold Draw.below; rw [if_neg h0, if_neg h256]
      have Hb := Lib.hid hb
      have bX := Draw.byte_bd k.cs s
      have bY := Draw.byte_bd k.cs X.2
      have bZ := Draw.byte_bd k.cs Y.2
      have bT := Draw.byte_bd k.cs Z.2
      rw [← hX] at bX
      rw [← hY] at bY
      rw [← hZ] at bZ
      rw [← hT] at bT
      have HX := Lib.hid hX
      have HY := Lib.hid hY
      have HZ := Lib.hid hZ
      have HT := Lib.hid hT
      clear hX hY hZ hT hb
      go_enter Try.func87, Try.ntmps87
      go_wp2_with fail
      refine (l1Byte_any _ B k s Hc.out).mono ?_
      rintro e w1 ⟨rfl, c1, g1⟩
      rw [← HX.out] at c1 ⊢
      have C1 := Lib.hid c1
      clear c1
      go_wp2_with fail
      refine (l1Byte_any _ B k X.2 C1.out).mono ?_
      rintro e w2 ⟨rfl, c2, g2⟩
      rw [← HY.out] at c2 ⊢
      have C2 := Lib.hid c2
      clear c2
      go_wp2_with fail
      refine (l1Byte_any _ B k Y.2 C2.out).mono ?_
      rintro e w3 ⟨rfl, c3, g3⟩
      rw [← HZ.out] at c3 ⊢
      have C3 := Lib.hid c3
      clear c3
      go_wp2_with fail
      refine (l1Byte_any _ B k Z.2 C3.out).mono ?_
      rintro e w4 ⟨rfl, c4, g4⟩
      rw [← HT.out] at c4 ⊢
      have C4 := Lib.hid c4
      clear c4
      go_wp2
      go_ret
      rw [Hb.out]
      exact ⟨rfl, C4.out, Kit.grown_trans g1 (Kit.grown_trans g2 (Kit.grown_trans g3 g4))⟩

end Go.Proofs.Ytlndaflhlkbedaa

/- Laws over a code: codes that are too long; the code as bytes. -/
namespace Go.Proofs.Ytlndaflhlkbedaa
open Go.RowKit
set_option linter.unusedVariables false

set_option maxHeartbeats 400000 in
theorem big_small (a : Option Addr) (n cap : Nat) (h : (n : Int) ≤ 1048576) (w : World) :
    Calls Try.prog 14 #[.slice a n cap] w fun e w' => e = .returned (.bool false) ∧ w = w' := by
  go_enter Try.func14, Try.ntmps14
  go_wp2
  go_ret
  exact ⟨Kit.ret_bool (by simp; try omega), rfl⟩
set_option maxHeartbeats 400000 in
theorem big_big (a : Option Addr) (n cap : Nat) (h : (1048576 : Int) < n) (w : World) :
    Calls Try.prog 14 #[.slice a n cap] w fun e w' => e = .returned (.bool true) ∧ w = w' := by
  go_enter Try.func14, Try.ntmps14
  go_wp2
  go_ret
  exact ⟨Kit.ret_bool (by simp; try omega), rfl⟩

theorem code_of {w : World} {a : Option Addr} {n cap : Nat} {zs : List Int} (h : Kit.BytesIn w a n cap zs) : (zs.take n).length = n ∧ CodeIn w w.heap.size a (zs.take n) := by
  rcases h with ⟨rfl, rfl, rfl, rfl⟩ | ⟨x, rfl, hl, hm, hz, hcell, hwz⟩
  · exact ⟨rfl, fun j hj => by simp at hj⟩
  · have hlen : (zs.take n).length = n := by simp; omega
    refine ⟨hlen, fun j hj => ?_⟩
    have hj' : j < n := by omega
    have hc := hcell j (by omega)
    obtain ⟨b, off, spot⟩ := x
    have hspot : spot = none := by
      have := World.cell?_spot (hcell 0 (by omega))
      simpa [Addr.add] using this
    subst hspot
    have e : ((⟨b, off, none⟩ : Addr).add j) = ⟨b, off + j, none⟩ := by unfold Addr.add; split <;> simp_all
    rw [e] at hc
    have hg : (zs.take n).getD j 0 = zs.getD j 0 := by simp [List.getD, hj']
    refine ⟨b, off, rfl, ?_, by rw [hg]; exact hc, ?_⟩
    · rcases Nat.lt_or_ge b w.heap.size with h' | h'
      · exact h'
      · simp [World.cell?, Array.getElem?_eq_none h'] at hc
    · rw [hg]
      have hm : zs.getD j 0 ∈ zs := by
        rw [List.getD_eq_getElem?_getD, List.getElem?_eq_getElem (by omega)]
        exact List.getElem_mem _
      have := hwz _ hm
      simp only [List.getD_eq_getElem?_getD] at this ⊢
      simp [Lit.wf, IntKind.min, IntKind.max, IntKind.signed, IntKind.bits] at this
      omega


end Go.Proofs.Ytlndaflhlkbedaa

/- More draws of the model: a new cursor, a number, a text. -/
namespace Go.Proofs.Ytlndaflhlkbedaa
open Go.RowKit
set_option linter.unusedVariables false

theorem Kit.i64_and30 (n : Int) : bits .and .i64 n 1073741823 = n % 1073741824 := by
  have h255 : (BitVec.ofInt 64 1073741823).toNat = 2 ^ 30 - 1 := by decide
  have key : (BitVec.ofInt 64 n &&& BitVec.ofInt 64 1073741823).toNat = (n % ((2 ^ 64 : Nat) : Int)).toNat % 2 ^ 30 := by
    rw [BitVec.toNat_and, BitVec.toNat_ofInt, h255, Nat.and_two_pow_sub_one_eq_mod]
  show IntKind.i64.wrap ((BitVec.ofInt 64 n &&& BitVec.ofInt 64 1073741823).toNat : Nat) = n % 1073741824
  rw [key, IntKind.wrap_i64]
  omega

def Draw.newStep (h x : Int) : Int := (h * 131 + x + 7) % 1073741824
/-- the mixed number with which a cursor begins -/
def Draw.newH (cs : List Int) (m : Nat) : Int := (cs.take m).foldl Draw.newStep (10101 + cs.length)
theorem Draw.newH_succ (cs : List Int) (m : Nat) (h : m < cs.length) : Draw.newH cs (m + 1) = Draw.newStep (Draw.newH cs m) (cs.getD m 0) := by
  unfold Draw.newH
  rw [List.take_succ_eq_append_getElem h, List.foldl_append]
  simp [List.getD, h]
theorem Draw.newH_bd (cs : List Int) (m : Nat) (h : cs.length ≤ 1048576) : 0 ≤ Draw.newH cs m ∧ Draw.newH cs m < 1073741824 := by
  unfold Draw.newH
  have key : ∀ (l : List Int) (a : Int), 0 ≤ a ∧ a < 1073741824 → 0 ≤ l.foldl Draw.newStep a ∧ l.foldl Draw.newStep a < 1073741824 := by
    intro l
    induction l with
    | nil => intro a h; exact h
    | cons x l ih => intro a h; exact ih _ (by unfold Draw.newStep; omega)
  exact key _ _ (by omega)
theorem Draw.newH_min (cs : List Int) (m : Nat) (hm : m ≤ 4000) (h : m = 4000 ∨ cs.length ≤ m) : Draw.newH cs m = Draw.newH cs 4000 := by
  rcases h with rfl | h
  · rfl
  · unfold Draw.newH; rw [List.take_of_length_le h, List.take_of_length_le (by omega)]
def Draw.start (cs : List Int) : Nat × Int := (0, Draw.newH cs 4000)

set_option maxHeartbeats 400000 in
set_option maxRecDepth 100000 in
theorem l1New_any (w : World) (k : Code) (hcode : CodeIn w w.heap.size k.a k.cs) (hlen : k.cs.length ≤ 1048576) :
    Calls Try.prog 69 #[.slice k.a k.cs.length k.cap] w fun e w' => e = .returned (.pointer (some ⟨w.heap.size, 0, none⟩)) ∧ CurAt w' w.heap.size k (Draw.start k.cs) ∧ w.grownBy w' none := by
  obtain ⟨a, cs, cap⟩ := k
  simp only at hcode hlen ⊢
  have Hcode := Lib.hid hcode
  clear hcode
  go_enter Try.func69, Try.ntmps69
  go_wp2
  go_loop [3, 4] (fun hv iv => ∃ m : Nat, (m : Int) ≤ 4000 ∧ m ≤ cs.length ∧ iv = .int .i64 m ∧ hv = .int .i64 (Draw.newH cs m)) (fun _ i => 4000 - (intOf i).toNat)
  case atStart => exact ⟨0, by omega, by omega, rfl, rfl⟩
  case round =>
    obtain ⟨m, hm1, hm2, rfl, rfl⟩ := hrel
    obtain ⟨b0, b1⟩ := Draw.newH_bd cs m hlen
    by_cases hlt : m < cs.length
    · by_cases hlt4 : (m : Int) < 4000
      · obtain ⟨b, off, rfl, hbB, hcell, hx0, hx1⟩ := Hcode.out m hlt
        have Hs := Lib.hid (Draw.newH_succ cs m hlt)
        obtain ⟨x, hx⟩ : ∃ x, x = cs.getD m 0 := ⟨_, rfl⟩
        rw [← hx] at hcell hx0 hx1 Hs
        clear hx
        have hand := Kit.i64_and30 (Draw.newH cs m * 131 + x + 7)
        go_wp2
        go_round
        case rel => exact ⟨m + 1, by omega, by omega, by go_num, by rw [Hs.out]; rfl⟩
        case measure => simp [intOf]; omega
      · have Hm := Lib.hid (Draw.newH_min cs m (by omega) (Or.inl (by omega)))
        go_wp2
        go_ret
        refine ⟨rfl, ⟨?_, ?_, hlen⟩, ?_⟩
        · unfold Cur Draw.start
          rw [← Hm.out]
          exact heap_alloc_new w _
        · intro j hj
          obtain ⟨b, off, h1, h2, h3, h4⟩ := Hcode.out j hj
          exact ⟨b, off, h1, h2, by rw [World.cell?_of_block (w := w) (Below.heap_alloc _ _ _ h2)]; exact h3, h4⟩
        · exact ⟨rfl, rfl, rfl, by simp, fun k hk _ => Below.heap_alloc _ _ _ hk⟩
    · have Hm := Lib.hid (Draw.newH_min cs m (by omega) (Or.inr (by omega)))
      go_wp2
      go_ret
      refine ⟨rfl, ⟨?_, ?_, hlen⟩, ?_⟩
      · unfold Cur Draw.start
        rw [← Hm.out]
        exact heap_alloc_new w _
      · intro j hj
        obtain ⟨b, off, h1, h2, h3, h4⟩ := Hcode.out j hj
        exact ⟨b, off, h1, h2, by rw [World.cell?_of_block (w := w) (Below.heap_alloc _ _ _ h2)]; exact h3, h4⟩
      · exact ⟨rfl, rfl, rfl, by simp, fun k hk _ => Below.heap_alloc _ _ _ hk⟩

set_option maxHeartbeats 400000 in
theorem l1PickInt_any (w : World) (B g : Nat) (k : Code) (s : Nat × Int) (c : CurAt w B k s) (xs : List Int) (n : Nat) (hn : n = xs.length) (hpos : 0 < (n : Int)) (hn2 : (n : Int) ≤ 1000) (hg : B < g) (hg2 : g < w.heap.size)
    (hcells : ∀ j, j < xs.length → w.cell? ⟨g, j, none⟩ = some (.int .i64 (xs.getD j 0))) :
    Calls Try.prog 89 #[.pointer (some ⟨B, 0, none⟩), .slice (some ⟨g, 0, none⟩) n n] w fun e w' => e = .returned (.int .i64 (xs.getD (Draw.below k.cs n s).1.toNat 0)) ∧ CurAt w' B k (Draw.below k.cs n s).2 ∧ w.grownBy w' (some B) := by
  have Hcells := Lib.hid hcells
  have Hn := Lib.hid hn
  clear hcells hn
  obtain ⟨d0, d1⟩ := Draw.below_bd k.cs n s hpos
  go_enter Try.func89, Try.ntmps89
  go_wp2_with fail
  refine (l1Below_any _ B k n s c).mono ?_
  rintro e w1 ⟨rfl, c1, g1⟩
  have C1 := Lib.hid c1
  obtain ⟨D, hD⟩ : ∃ D : Nat, (D : Int) = (Draw.below k.cs n s).1 := ⟨_, Int.toNat_of_nonneg d0⟩
  rw [← hD] at d1 ⊢
  have hcell : w1.cell? ⟨g, D, none⟩ = some (.int .i64 (xs.getD D 0)) := by
    rw [World.cell?_of_block (w := w) (g1.block g hg2 (by intro e; injection e with e; omega))]
    exact Hcells.out D (by have := Hn.out; omega)
  have HD := Lib.hid hD
  clear hD c1 c
  go_wp2
  go_ret
  exact ⟨by rw [← HD.out]; simp, C1.out, g1⟩

end Go.Proofs.Ytlndaflhlkbedaa

/- Contracts (DrawX). -/
namespace Go.Proofs.Ytlndaflhlkbedaa
open Go.RowKit
set_option linter.unusedVariables false

/-- the cursor stands somewhere -/
def CurX (w : World) (B : Nat) (k : Code) : Prop := ∃ s, CurAt w B k s
theorem CurX.lt {w : World} {B : Nat} {k : Code} (h : CurX w B k) : B < w.heap.size := by obtain ⟨s, h⟩ := h; exact h.lt
theorem CurX.alloc {w : World} {B : Nat} {k : Code} (h : CurX w B k) (o : Obj) : CurX (w.alloc o) B k := by obtain ⟨s, h⟩ := h; exact ⟨s, h.alloc o⟩
theorem CurX.drewN {w : World} {B : Nat} {k : Code} (h : CurX w B k) (n : Nat) : CurX (w.drewN n) B k := h
theorem CurX.kept {w w' : World} {B : Nat} {k : Code} {r : Option Nat} (h : CurX w B k) (hg : w.grownBy w' r) (hr : ∀ g, r = some g → B < g) : CurX w' B k := by obtain ⟨s, h⟩ := h; exact ⟨s, h.kept hg hr⟩
theorem l1New_ex (w : World) (k : Code) (hcode : CodeIn w w.heap.size k.a k.cs) (hlen : k.cs.length ≤ 1048576) :
    Calls Try.prog 69 #[.slice k.a k.cs.length k.cap] w fun e w' => e = .returned (.pointer (some ⟨w.heap.size, 0, none⟩)) ∧ CurX w' w.heap.size k ∧ w.grownBy w' none :=
  (l1New_any w k hcode hlen).mono fun e w' ⟨h1, h2, h3⟩ => ⟨h1, ⟨_, h2⟩, h3⟩
theorem l1Below_ex (w : World) (B : Nat) (k : Code) (n : Int) (c : CurX w B k) :
    Calls Try.prog 87 #[.pointer (some ⟨B, 0, none⟩), .int .i64 n] w fun e w' => ∃ v : Nat, e = .returned (.int .i64 v) ∧ ((v : Int) < n ∨ v = 0) ∧ CurX w' B k ∧ w.grownBy w' (some B) := by
  obtain ⟨s, c⟩ := c
  refine (l1Below_any w B k n s c).mono fun e w' ⟨h1, h2, h3⟩ => ?_
  by_cases hn : n ≤ 0
  · exact ⟨0, by rw [h1, Draw.below_zero _ _ _ hn]; rfl, .inr rfl, ⟨_, h2⟩, h3⟩
  · have hb := Draw.below_bd k.cs n s (by omega)
    obtain ⟨v, hv⟩ := Int.eq_ofNat_of_zero_le hb.1
    exact ⟨v, by rw [h1, hv], .inl (by omega), ⟨_, h2⟩, h3⟩
theorem l1PickInt_ex (w : World) (B g : Nat) (k : Code) (c : CurX w B k) (xs : List Int) (n : Nat) (hn : n = xs.length) (hpos : 0 < (n : Int)) (hn2 : (n : Int) ≤ 1000) (hg : B < g) (hg2 : g < w.heap.size)
    (hcells : ∀ j, j < xs.length → w.cell? ⟨g, j, none⟩ = some (.int .i64 (xs.getD j 0))) :
    Calls Try.prog 89 #[.pointer (some ⟨B, 0, none⟩), .slice (some ⟨g, 0, none⟩) n n] w fun e w' => ∃ v : Int, e = .returned (.int .i64 v) ∧ CurX w' B k ∧ w.grownBy w' (some B) := by
  obtain ⟨s, c⟩ := c
  exact (l1PickInt_any w B g k s c xs n hn hpos hn2 hg hg2 hcells).mono fun e w' ⟨h1, h2, h3⟩ => ⟨_, h1, ⟨_, h2⟩, h3⟩

end Go.Proofs.Ytlndaflhlkbedaa

/- A draw of one in n. -/
namespace Go.Proofs.Ytlndaflhlkbedaa
open Go.RowKit
set_option linter.unusedVariables false

set_option maxHeartbeats 400000 in
theorem l1Once_any (w : World) (B : Nat) (k : Code) (n : Int) (s : Nat × Int) (c : CurAt w B k s) :
    Calls Try.prog 88 #[.pointer (some ⟨B, 0, none⟩), .int .i64 n] w fun e w' => e = .returned (.bool ((Draw.below k.cs n s).1 == 0)) ∧ CurAt w' B k (Draw.below k.cs n s).2 ∧ w.grownBy w' (some B) := by
  go_enter Try.func88, Try.ntmps88
  go_wp2_with fail
  refine (l1Below_any _ B k n s c).mono ?_
  rintro e w1 ⟨rfl, c1, g1⟩
  have C1 := Lib.hid c1
  clear c1 c
  go_wp2
  go_ret
  exact ⟨rfl, C1.out, g1⟩

end Go.Proofs.Ytlndaflhlkbedaa

/- A draw of one in n, wherever the cursor stands. -/
namespace Go.Proofs.Ytlndaflhlkbedaa
open Go.RowKit
set_option linter.unusedVariables false

theorem l1Once_ex (w : World) (B : Nat) (k : Code) (n : Int) (c : CurX w B k) :
    Calls Try.prog 88 #[.pointer (some ⟨B, 0, none⟩), .int .i64 n] w fun e w' => ∃ b : Bool, e = .returned (.bool b) ∧ CurX w' B k ∧ w.grownBy w' (some B) := by
  obtain ⟨s, c⟩ := c
  exact (l1Once_any w B k n s c).mono fun e w' ⟨h1, h2, h3⟩ => ⟨_, h1, ⟨_, h2⟩, h3⟩

end Go.Proofs.Ytlndaflhlkbedaa

/- A draw of a label. -/
namespace Go.Proofs.Ytlndaflhlkbedaa
open Go.RowKit
set_option linter.unusedVariables false

set_option maxHeartbeats 400000 in
theorem l2Label_ex (w : World) (B : Nat) (k : Code) (c : CurX w B k) :
    Calls Try.prog 137 #[.pointer (some ⟨B, 0, none⟩)] w fun e w' => ∃ v : Nat, e = .returned (.int .i64 v) ∧ CurX w' B k ∧ w.grownBy w' (some B) := by
  have Hc := Lib.hid c
  clear c
  go_enter Try.func137, Try.ntmps137
  go_wp2_with fail
  refine (l1Below_ex _ B k 4 Hc.out).mono ?_
  rintro e w1 ⟨v, rfl, _, c1, g1⟩
  go_wp2
  go_ret
  exact ⟨v, rfl, c1, g1⟩

end Go.Proofs.Ytlndaflhlkbedaa

/- Draws: what a call that moves the cursor leaves of rows of the caller's own. -/
namespace Go.Proofs.Ytlndaflhlkbedaa
open Go.RowKit
set_option linter.unusedVariables false

theorem Kit.grown_alloc (w : World) (o : Obj) (r : Option Nat) : w.grownBy (w.alloc o) r := ⟨rfl, rfl, rfl, by simp, fun k hk _ => Below.heap_alloc _ _ _ hk⟩
theorem Kit.keptRow {w w' : World} {base e n size B : Nat} {v : Value} {xs : List Value} (h : w.ownsRow base e size v n xs) (hB : B < base) (hg : w.grownBy w' (some B)) : w'.ownsRow base e size v n xs := by
  refine h.kept hg (Or.inr ?_)
  intro he
  have := h.lt B (by rw [he])
  omega
/-- what an append of the call's own leaves, seen from the call's beginning -/
theorem Kit.grown_own {w0 wr w1 : World} {B base e n size : Nat} {o : Obj} {v : Value} {xs : List Value} (hg : w0.grownBy wr (some B)) (hb : w0.heap.size ≤ base) (hown : wr.ownsRow base e size v n xs)
    (h : (wr.alloc o).grownBy w1 v.ownBlock) : w0.grownBy w1 (some B) := by
  have h1 : w0.grownBy (wr.alloc o) (some B) := Kit.grown_trans hg ⟨rfl, rfl, rfl, by simp, fun k hk _ => Below.heap_alloc _ _ _ hk⟩
  exact h1.andThen h (fun j hj => Or.inl (by have := (hown.lt j hj).1; omega))

end Go.Proofs.Ytlndaflhlkbedaa

/- Contracts (Mem2). -/
namespace Go.Proofs.Ytlndaflhlkbedaa
open Go.RowKit
set_option linter.unusedVariables false

theorem append_node {P : Program} (w : World) {ops : Array Oper} {rest : List Oper} {o : Oper} {a : Act} {Q : Exit → Act → World → Prop} (hgd : o.guard = none) (s x : Operand) (t : TypeId)
    (ho : o.op = .call { callee := .builtin .append, args := #[s, x], argTypes := #[t, t] })
    (base : Nat) (e : TypeId) (i : TypeInfo) (ht : P.underlying t = some (.slice e)) (hi : P.info? e = some i) (hz : i.zero = some (.agg #[.int .i64 0, .int .i64 0]))
    (hsize : i.size = 2) (hby : i.bytes = 16) (v : Value) (n : Nat) (l : Tr) (hs : a.eval s = v) (hown : w.ownsRow base e 2 v n (Tr.cells l)) (hn : n = l.length)
    (b1 b2 : Int) (hx : a.eval x = .slice (some ⟨w.heap.size, 0, none⟩) 1 1)
    (h63 : l.length + 1 ≤ 1073741824) (hbase : base ≤ w.heap.size)
    (h : ∀ v' w', w'.ownsRow base e 2 v' (l ++ [(b1, b2)]).length (Tr.cells (l ++ [(b1, b2)])) → (w.alloc (.cells #[.int .i64 b1, .int .i64 b2] e)).grownBy w' v.ownBlock → wpList P ops Q rest (a.put o.dst v') w') :
    wpList P ops Q (o :: rest) a (w.alloc (.cells #[.int .i64 b1, .int .i64 b2] e)) := by
  subst hn
  refine wpList_append_own _ hgd s x t ho base e i (.agg #[.int .i64 0, .int .i64 0]) 2 16 ht hi hz hsize hby rfl (by decide) v l.length (Tr.cells l) hs (hown.alloc _) ⟨w.heap.size, 0, none⟩ 1 1 (Tr.cells [(b1, b2)]) hx (by simp [Tr.cells]) ?_ (Tr.cells_cell _) (by unfold maxLen; omega) (by omega) (by simp; omega) ?_
  · intro j u hj
    have hj2 : j < 2 := by
      have := (List.getElem?_eq_some_iff.1 hj).1
      simpa [Tr.cells] using this
    have : j = 0 ∨ j = 1 := by omega
    rcases this with rfl | rfl <;> (simp [Tr.cells] at hj; subst hj; simp [Addr.add])
  · intro v' w' h2 h3 _
    refine h v' w' ?_ h3
    rw [Tr.cells_append, List.length_append]
    exact h2

end Go.Proofs.Ytlndaflhlkbedaa

/- Contracts (TreeD). -/
namespace Go.Proofs.Ytlndaflhlkbedaa
open Go.RowKit
set_option linter.unusedVariables false

theorem info_ndD : (Try.prog.info? 42).map (fun i => (i.zero, i.size, i.bytes)) = some (some (.agg #[.int .i64 0, .int .i64 0]), 2, 16) := by kernel_rfl
theorem Tr.dsnoc {xs : Tr} {x : Int × Int} (h : ∀ j, j < xs.length → 0 ≤ Tr.d xs j ∧ Tr.d xs j ≤ 12) (h2 : 0 ≤ x.2 ∧ x.2 ≤ 12) : ∀ j, j < (xs ++ [x]).length → 0 ≤ Tr.d (xs ++ [x]) j ∧ Tr.d (xs ++ [x]) j ≤ 12 := by
  intro j hj
  rw [List.length_append, List.length_singleton] at hj
  by_cases e : j < xs.length
  · have := h j e
    unfold Tr.d at this ⊢
    rw [List.getD_eq_getElem?_getD, List.getElem?_append_left e, ← List.getD_eq_getElem?_getD]
    exact this
  · obtain rfl : j = xs.length := by omega
    unfold Tr.d
    simpa [List.getD_eq_getElem?_getD] using h2
set_option maxHeartbeats 1600000 in
set_option maxRecDepth 100000 in
theorem l3Tree_ex (w : World) (B : Nat) (k : Code) (most : Int) (hm : most ≤ 30) (c : CurX w B k) :
    Calls Try.prog 111 #[.pointer (some ⟨B, 0, none⟩), .int .i64 most] w fun e w' => ∃ (xs : Tr) (A : Option Addr) (cp : Nat), e = .returned (.slice A xs.length cp) ∧ w'.ownsRow w.heap.size 42 2 (.slice A xs.length cp) xs.length (Tr.cells xs) ∧
      (1 ≤ xs.length ∧ ((xs.length : Int) ≤ most ∨ xs.length = 1)) ∧ (∀ j, j < xs.length → 0 ≤ Tr.d xs j ∧ Tr.d xs j ≤ 12) ∧ CurX w' B k ∧ w.grownBy w' (some B) := by
  have HC := Lib.hid c
  have hBB := c.lt
  have HG := Lib.hid (Kit.grown_refl w (some B))
  clear c
  obtain ⟨i0, hi, hz0, hz1, hz2⟩ := info_parts info_ndD
  have Hi := Lib.hid hi
  clear hi
  go_enter Try.func111, Try.ntmps111
  go_wp2_with fail
  refine (l2Label_ex _ B k HC.out).mono ?_
  rintro e w1 ⟨v, rfl, c, g⟩
  have HC := Lib.hid c
  have HG := Lib.hid (Kit.grown_trans HG.out g)
  have hsx := HG.out.size
  have Ho := Lib.hid (World.ownsRow_lit (base := w.heap.size) (e := 42) (size := 2) w1 #[.int .i64 v, .int .i64 0] 1 hsx (by decide) rfl)
  have HC := Lib.hid (HC.out.alloc (.cells #[.int .i64 v, .int .i64 0] 42))
  have HG := Lib.hid (Kit.grown_trans HG.out (Kit.grown_alloc w1 (.cells #[.int .i64 v, .int .i64 0] 42) (some B)))
  clear c g
  go_wp2_with fail
  refine (l1Below_ex _ B k most HC.out).mono ?_
  rintro e w2 ⟨n, rfl, hn, c, g⟩
  have HC := Lib.hid c
  have HG := Lib.hid (Kit.grown_trans HG.out g)
  have Ho := Lib.hid (Kit.keptRow Ho.out hBB g)
  clear c g
  go_wp2
  go_loopw [6, 5] (fun nv lv wr => ∃ (r : Nat) (xs : Tr), nv = .int .i64 r ∧ ((r + xs.length : Nat) : Int) ≤ max 1 most ∧ wr.ownsRow w.heap.size 42 2 lv xs.length (Tr.cells xs) ∧ 1 ≤ xs.length ∧ (∀ j, j < xs.length → 0 ≤ Tr.d xs j ∧ Tr.d xs j ≤ 12) ∧ CurX wr B k ∧ w.grownBy wr (some B)) (fun n _ _ => (intOf n).toNat)
  case atStart =>
    refine ⟨n, [((v : Nat), 0)], rfl, by simp; omega, Ho.out, by simp, fun j hj => ?_, HC.out, HG.out⟩
    obtain rfl : j = 0 := by simpa using hj
    simp [Tr.d]
  case round =>
    clear Ho HC HG hn hsx
    obtain ⟨r, xs, rfl, hr, hown, hlen, hbd, hc, hg⟩ := hrel
    have Ho := Lib.hid hown
    have HC := Lib.hid hc
    have HG := Lib.hid hg
    have Hbd := Lib.hid hbd
    clear hown hc hg hbd
    obtain ⟨A', c', rfl⟩ := own_slice Ho.out
    have hl31 : xs.length ≤ 31 := by omega
    by_cases h0 : r = 0
    · subst h0
      go_wp2
      go_ret
      exact ⟨xs, A', c', rfl, Ho.out, ⟨hlen, by omega⟩, Hbd.out, HC.out, HG.out⟩
    · have e0 : decide (0 < r) = true := by simp; omega
      obtain ⟨gk, rfl, _, _⟩ := own_form Ho.out (by omega)
      have hl := own_odd Ho.out (k := xs.length - 1) (by omega)
      have hdb := Hbd.out (xs.length - 1) (by omega)
      obtain ⟨d, hd⟩ : ∃ d, d = Tr.d xs (xs.length - 1) := ⟨_, rfl⟩
      rw [← hd] at hl hdb
      clear hd
      have a1 : IntKind.i64.wrap ((xs.length : Int) - 1) = (xs.length : Int) - 1 := Kit.w64 (by omega) (by omega)
      have a2 : ((xs.length : Int) - 1).toNat = xs.length - 1 := by omega
      have a3 : (1 : Int) ≤ (xs.length : Int) := by omega
      have a4 : (xs.length : Int) - 1 < (xs.length : Int) := by omega
      have a5 : IntKind.i64.wrap (d + 1) = d + 1 := Kit.w64 (by omega) (by omega)
      go_wp2_with fail
      refine (l1Below_ex _ B k (d + 1) HC.out).mono ?_
      rintro e w3 ⟨t, rfl, ht, c, g⟩
      have HC := Lib.hid c
      have HG := Lib.hid (Kit.grown_trans HG.out g)
      have Ho := Lib.hid (Kit.keptRow Ho.out hBB g)
      clear c g
      have a6 : IntKind.i64.wrap (1 + (t : Int)) = 1 + (t : Int) := Kit.w64 (by omega) (by omega)
      go_wp2_with fail
      refine (l1Once_ex _ B k 2 HC.out).mono ?_
      rintro e w4 ⟨b, rfl, c, g⟩
      have HC := Lib.hid c
      have HG := Lib.hid (Kit.grown_trans HG.out g)
      have Ho := Lib.hid (Kit.keptRow Ho.out hBB g)
      clear c g
      cases b with
      | true =>
        by_cases h12 : 12 < d + 1
        · have e12 : decide (12 < d + 1) = true := by simpa using h12
          go_wp2_with fail
          refine (l2Label_ex _ B k HC.out).mono ?_
          rintro e w5 ⟨q, rfl, c, g⟩
          have HC := Lib.hid c
          have HG := Lib.hid (Kit.grown_trans HG.out g)
          have Ho := Lib.hid (Kit.keptRow Ho.out hBB g)
          clear c g
          have hsx := HG.out.size
          go_wp2_with (at_builtin; go_loud (refine append_node w5 rfl _ _ 24 rfl w.heap.size 42 i0 Try.underlying24 Hi.out hz0 hz1 hz2 (.slice (some ⟨gk, 0, none⟩) xs.length c') xs.length xs rfl Ho.out rfl (q : Int) (1) rfl (by omega) hsx ?_); intro v' w6 hown hgrow)
          have hg6 := Kit.grown_own HG.out (Nat.le_refl _) Ho.out hgrow
          have hc6 := (HC.out.alloc (.cells #[.int .i64 (q : Int), .int .i64 (1)] 42)).kept hgrow (fun j hj => by have := (Ho.out.lt j hj).1; omega)
          go_roundw
          case rel => exact ⟨r - 1, xs ++ [((q : Int), 1)], by go_num, by simp; omega, hown, by simp, Tr.dsnoc Hbd.out (by constructor <;> simp <;> omega), hc6, hg6⟩
          case measure => simp [intOf]; omega
        · have e12 : decide (12 < d + 1) = false := by simpa using h12
          go_wp2_with fail
          refine (l2Label_ex _ B k HC.out).mono ?_
          rintro e w5 ⟨q, rfl, c, g⟩
          have HC := Lib.hid c
          have HG := Lib.hid (Kit.grown_trans HG.out g)
          have Ho := Lib.hid (Kit.keptRow Ho.out hBB g)
          clear c g
          have hsx := HG.out.size
          go_wp2_with (at_builtin; go_loud (refine append_node w5 rfl _ _ 24 rfl w.heap.size 42 i0 Try.underlying24 Hi.out hz0 hz1 hz2 (.slice (some ⟨gk, 0, none⟩) xs.length c') xs.length xs rfl Ho.out rfl (q : Int) ((d + 1)) rfl (by omega) hsx ?_); intro v' w6 hown hgrow)
          have hg6 := Kit.grown_own HG.out (Nat.le_refl _) Ho.out hgrow
          have hc6 := (HC.out.alloc (.cells #[.int .i64 (q : Int), .int .i64 ((d + 1))] 42)).kept hgrow (fun j hj => by have := (Ho.out.lt j hj).1; omega)
          go_roundw
          case rel => exact ⟨r - 1, xs ++ [((q : Int), (d + 1))], by go_num, by simp; omega, hown, by simp, Tr.dsnoc Hbd.out (by constructor <;> simp <;> omega), hc6, hg6⟩
          case measure => simp [intOf]; omega
      | false =>
        by_cases h12 : 12 < 1 + (t : Int)
        · have e12 : decide (12 < 1 + (t : Int)) = true := by simpa using h12
          go_wp2_with fail
          refine (l2Label_ex _ B k HC.out).mono ?_
          rintro e w5 ⟨q, rfl, c, g⟩
          have HC := Lib.hid c
          have HG := Lib.hid (Kit.grown_trans HG.out g)
          have Ho := Lib.hid (Kit.keptRow Ho.out hBB g)
          clear c g
          have hsx := HG.out.size
          go_wp2_with (at_builtin; go_loud (refine append_node w5 rfl _ _ 24 rfl w.heap.size 42 i0 Try.underlying24 Hi.out hz0 hz1 hz2 (.slice (some ⟨gk, 0, none⟩) xs.length c') xs.length xs rfl Ho.out rfl (q : Int) (1) rfl (by omega) hsx ?_); intro v' w6 hown hgrow)
          have hg6 := Kit.grown_own HG.out (Nat.le_refl _) Ho.out hgrow
          have hc6 := (HC.out.alloc (.cells #[.int .i64 (q : Int), .int .i64 (1)] 42)).kept hgrow (fun j hj => by have := (Ho.out.lt j hj).1; omega)
          go_roundw
          case rel => exact ⟨r - 1, xs ++ [((q : Int), 1)], by go_num, by simp; omega, hown, by simp, Tr.dsnoc Hbd.out (by constructor <;> simp <;> omega), hc6, hg6⟩
          case measure => simp [intOf]; omega
        · have e12 : decide (12 < 1 + (t : Int)) = false := by simpa using h12
          go_wp2_with fail
          refine (l2Label_ex _ B k HC.out).mono ?_
          rintro e w5 ⟨q, rfl, c, g⟩
          have HC := Lib.hid c
          have HG := Lib.hid (Kit.grown_trans HG.out g)
          have Ho := Lib.hid (Kit.keptRow Ho.out hBB g)
          clear c g
          have hsx := HG.out.size
          go_wp2_with (at_builtin; go_loud (refine append_node w5 rfl _ _ 24 rfl w.heap.size 42 i0 Try.underlying24 Hi.out hz0 hz1 hz2 (.slice (some ⟨gk, 0, none⟩) xs.length c') xs.length xs rfl Ho.out rfl (q : Int) ((1 + (t : Int))) rfl (by omega) hsx ?_); intro v' w6 hown hgrow)
          have hg6 := Kit.grown_own HG.out (Nat.le_refl _) Ho.out hgrow
          have hc6 := (HC.out.alloc (.cells #[.int .i64 (q : Int), .int .i64 ((1 + (t : Int)))] 42)).kept hgrow (fun j hj => by have := (Ho.out.lt j hj).1; omega)
          go_roundw
          case rel => exact ⟨r - 1, xs ++ [((q : Int), (1 + (t : Int)))], by go_num, by simp; omega, hown, by simp, Tr.dsnoc Hbd.out (by constructor <;> simp <;> omega), hc6, hg6⟩
          case measure => simp [intOf]; omega

end Go.Proofs.Ytlndaflhlkbedaa

/- A draw of any label. -/
namespace Go.Proofs.Ytlndaflhlkbedaa
open Go.RowKit
set_option linter.unusedVariables false

theorem l1PickInt_lit (w : World) (B : Nat) (k : Code) (c : CurX w B k) (C : Array Value) (t : TypeId) (xs : List Int) (n : Nat) (hC : C = (xs.map (Value.int .i64)).toArray) (hn : n = xs.length) (hpos : 0 < (n : Int)) (hn2 : (n : Int) ≤ 1000) :
    Calls Try.prog 89 #[.pointer (some ⟨B, 0, none⟩), .slice (some ⟨w.heap.size, 0, none⟩) n n] (w.alloc (.cells C t)) fun e w' => ∃ v : Int, e = .returned (.int .i64 v) ∧ CurX w' B k ∧ w.grownBy w' (some B) := by
  refine (l1PickInt_ex _ B w.heap.size k (c.alloc _) xs n hn hpos hn2 c.lt (by simp) (fun j hj => ?_)).mono fun e w' ⟨v, h1, h2, h3⟩ => ⟨v, h1, h2, Kit.grown_trans (Kit.grown_alloc w _ (some B)) h3⟩
  rw [World.cell?_alloc_at (hn := rfl), hC]
  simp [List.getD_eq_getElem?_getD, hj]
set_option maxHeartbeats 800000 in
theorem l2Any_ex (w : World) (B : Nat) (k : Code) (c : CurX w B k) :
    Calls Try.prog 140 #[.pointer (some ⟨B, 0, none⟩)] w fun e w' => ∃ v : Int, e = .returned (.int .i64 v) ∧ CurX w' B k ∧ w.grownBy w' (some B) := by
  have HC := Lib.hid c
  clear c
  go_enter Try.func140, Try.ntmps140
  go_wp2_with fail
  refine (l1PickInt_lit w B k HC.out _ _ [0, 1, 2, 3, 5, 6, -1] 7 rfl rfl (by decide) (by decide)).mono ?_
  rintro e w4 ⟨x, rfl, c, g⟩
  go_wp2
  go_ret
  exact ⟨x, rfl, c, g⟩

end Go.Proofs.Ytlndaflhlkbedaa

/- Contracts (AnyD). -/
namespace Go.Proofs.Ytlndaflhlkbedaa
open Go.RowKit
set_option linter.unusedVariables false

theorem Tr.cells_set_even (xs : Tr) (k : Nat) (a : Int) : (Tr.cells xs).set (k * 2) (.int .i64 a) = Tr.cells (xs.set k (a, Tr.d xs k)) := by
  induction xs generalizing k with
  | nil => simp [Tr.cells]
  | cons x l ih =>
    cases k with
    | zero => simp [Tr.cells, Tr.d]
    | succ k =>
      have := ih k
      simp only [Tr.cells, Tr.d] at this ⊢
      simpa [show (k + 1) * 2 = k * 2 + 1 + 1 by omega] using this
theorem Tr.cells_set_odd' (xs : Tr) (k : Nat) (b : Int) : (Tr.cells xs).set (k * 2 + 1) (.int .i64 b) = Tr.cells (xs.set k (Tr.l xs k, b)) := by
  induction xs generalizing k with
  | nil => simp [Tr.cells]
  | cons x l ih =>
    cases k with
    | zero => simp [Tr.cells, Tr.l]
    | succ k =>
      have := ih k
      simp only [Tr.cells, Tr.l] at this ⊢
      simpa [show (k + 1) * 2 = k * 2 + 1 + 1 by omega] using this
theorem NdIn.tail {w : World} {B n g : Nat} {xs : Tr} (h : NdIn w B (some ⟨g, 0, none⟩) n xs) : NdIn w B (some ⟨g, 2, none⟩) (n - 1) (xs.drop 1) := by
  refine ⟨by have := h.1; simp; omega, fun hm => ⟨_, rfl, ?_⟩, fun ad' e k hk => ?_⟩
  · obtain ⟨ad', e, hb⟩ := h.2.1 (by omega)
    obtain rfl : (⟨g, 0, none⟩ : Addr) = ad' := by injection e
    exact hb
  · obtain rfl : (⟨g, 2, none⟩ : Addr) = ad' := by injection e
    have hc := h.2.2 _ rfl (k + 1) (by omega)
    have hg : (xs.drop 1).getD k (0, 0) = xs.getD (k + 1) (0, 0) := by
      simp [List.getD_eq_getElem?_getD]
    have e1 : (⟨g, 2, none⟩ : Addr) = (⟨g, 0, none⟩ : Addr).add 2 := by simp [Addr.add]
    rw [e1, add_of_add, add_of_add, show 2 + k * 2 = (k + 1) * 2 by omega, show 2 + (k * 2 + 1) = (k + 1) * 2 + 1 by omega]
    simp only [Tr.l, Tr.d] at hc ⊢
    rw [hg]
    exact hc
/-- a slice of nodes, readable, in a block of the call's own (from B0 on) -/
def NdAt (w : World) (B0 : Nat) (A : Option Addr) (n : Nat) (xs : Tr) : Prop := NdIn w w.heap.size A n xs ∧ ∀ ad, A = some ad → B0 ≤ ad.block
theorem NdAt.of_own {w : World} {base n : Nat} {e : TypeId} {A : Option Addr} {c : Nat} {xs : Tr} (h : w.ownsRow base e 2 (.slice A n c) n (Tr.cells xs)) : NdAt w base A n xs := by
  refine ⟨NdIn.of_own h, fun ad he => ?_⟩
  rcases h.2 with ⟨h1, h2⟩ | ⟨g, cap, cur, hv, hb, _⟩
  · injection h1 with h1
    rw [h1] at he
    cases he
  · injection hv with hv
    rw [hv] at he
    injection he with he
    rw [← he]
    exact hb
def vlen : Value → Nat
  | .slice _ n _ => n
  | _ => 0
theorem NdAt.cur {w w' : World} {B B0 n : Nat} {A : Option Addr} {xs : Tr} (h : NdAt w B0 A n xs) (hB : B < B0) (hg : w.grownBy w' (some B)) : NdAt w' B0 A n xs := by
  refine ⟨⟨h.1.1, fun hn => ?_, fun ad e k hk => ?_⟩, h.2⟩
  · obtain ⟨ad, e, hb⟩ := h.1.2.1 hn
    exact ⟨ad, e, Nat.lt_of_lt_of_le hb hg.size⟩
  · obtain ⟨ad', e', hb⟩ := h.1.2.1 (by omega)
    obtain rfl : ad' = ad := by rw [e'] at e; injection e
    have hne := h.2 _ e'
    have := h.1.2.2 _ e k hk
    have q : ∀ p : Addr, p.block = ad'.block → w'.cell? p = w.cell? p := fun p hp => World.cell?_of_block (hg.block p.block (by omega) (by intro e; injection e with e; omega))
    rw [q _ (block_of_add _ _), q _ (block_of_add _ _)]
    exact this
def AnyD (w : World) (B : Nat) (k : Code) (e : Ending) (w' : World) : Prop :=
  ∃ (xs : Tr) (A : Option Addr) (n cp : Nat), e = .returned (.slice A n cp) ∧ NdAt w' w.heap.size A n xs ∧ n ≤ cp ∧ n ≤ 31 ∧ CurX w' B k ∧ w.grownBy w' (some B)
set_option maxHeartbeats 3200000 in
set_option maxRecDepth 100000 in
theorem l3Any_ex (w : World) (B : Nat) (k : Code) (most : Int) (hm : most ≤ 30) (c : CurX w B k) :
    Calls Try.prog 114 #[.pointer (some ⟨B, 0, none⟩), .int .i64 most] w (AnyD w B k) := by
  have HC := Lib.hid c
  have hBB := c.lt
  have HG := Lib.hid (Kit.grown_refl w (some B))
  clear c
  obtain ⟨i0, hi, hz0, hz1, hz2⟩ := info_parts info_ndD
  have Hi := Lib.hid hi
  clear hi
  go_enter Try.func114, Try.ntmps114
  go_wp2_with fail
  refine (l3Tree_ex w B k most hm HC.out).mono ?_
  rintro e w1 ⟨xs, A, cp, rfl, ho, ⟨hl1, hl2⟩, hbd, c, g⟩
  have HC := Lib.hid c
  have HG := Lib.hid (Kit.grown_trans HG.out g)
  have Ho := Lib.hid ho
  have Hbd := Lib.hid hbd
  obtain ⟨gk, rfl, hgk, _⟩ := own_form ho (by omega)
  clear ho c g hbd
  go_wp2_with fail
  refine (l1Below_ex _ B k (xs.length : Int) HC.out).mono ?_
  rintro e w2 ⟨q, rfl, hq, c, g⟩
  have HC := Lib.hid c
  have HG := Lib.hid (Kit.grown_trans HG.out g)
  have Ho := Lib.hid (Kit.keptRow Ho.out hBB g)
  clear c g
  have hq' : q < xs.length := by omega
  go_wp2_with fail
  refine (l1Below_ex _ B k 18 HC.out).mono ?_
  rintro e w3 ⟨v, rfl, hv, c, g⟩
  have HC := Lib.hid c
  have HG := Lib.hid (Kit.grown_trans HG.out g)
  have Ho := Lib.hid (Kit.keptRow Ho.out hBB g)
  clear c g
  have q0 : (0 : Int) ≤ (q : Int) := by omega
  have q1 : (q : Int) < (xs.length : Int) := by omega
  by_cases h0 : v = 0
  · have e0 : ((v : Int) == 0) = true := by simp [h0]
    go_wp2_with fail
    refine (l2Any_ex _ B k HC.out).mono ?_
    rintro e w4 ⟨x, rfl, c, g⟩
    have HC := Lib.hid c
    have HG := Lib.hid (Kit.grown_trans HG.out g)
    have Ho := Lib.hid (Kit.keptRow Ho.out hBB g)
    clear c g
    have c0 := own_even Ho.out (k := q) hq'
    have f0 := Ho.out.frozenAt (q * 2)
    go_wp2
    go_ret
    have ho := (Ho.out.stored (q * 2) (.int .i64 x)).1
    rw [Tr.cells_set_even] at ho
    exact ⟨_, _, _, _, rfl, NdAt.of_own ho, own_cap Ho.out, by omega, HC.out.kept (Ho.out.stored (q * 2) (.int .i64 x)).2 (fun j hj => by have := (Ho.out.lt j hj).1; omega), HG.out.andThen (Ho.out.stored (q * 2) (.int .i64 x)).2 (fun j hj => .inl (by have := (Ho.out.lt j hj).1; omega))⟩
  · have e0 : ((v : Int) == 0) = false := beq_eq_false_iff_ne.2 (by omega)
    by_cases h1 : v = 1
    · have e1 : ((v : Int) == 1) = true := by simp [h1]
      have c0 := own_odd Ho.out (k := q) hq'
      have hdb := Hbd.out q hq'
      obtain ⟨d, hd⟩ : ∃ d, d = Tr.d xs q := ⟨_, rfl⟩
      rw [← hd] at c0 hdb
      clear hd
      have a5 : IntKind.i64.wrap (d + 1) = d + 1 := Kit.w64 (by omega) (by omega)
      go_wp2_with fail
      refine (l1PickInt_lit w3 B k HC.out _ _ [-1, 0, 1, 13, d + 1] 5 rfl rfl (by decide) (by decide)).mono ?_
      rintro e w4 ⟨x, rfl, c, g⟩
      have HC := Lib.hid c
      have HG := Lib.hid (Kit.grown_trans HG.out g)
      have Ho := Lib.hid (Kit.keptRow Ho.out hBB g)
      clear c g c0
      have c0 := own_odd Ho.out (k := q) hq'
      have f0 := Ho.out.frozenAt (q * 2 + 1)
      go_wp2
      go_ret
      have ho := (Ho.out.stored (q * 2 + 1) (.int .i64 x)).1
      rw [Tr.cells_set_odd'] at ho
      exact ⟨_, _, _, _, rfl, NdAt.of_own ho, own_cap Ho.out, by omega, HC.out.kept (Ho.out.stored (q * 2 + 1) (.int .i64 x)).2 (fun j hj => by have := (Ho.out.lt j hj).1; omega), HG.out.andThen (Ho.out.stored (q * 2 + 1) (.int .i64 x)).2 (fun j hj => .inl (by have := (Ho.out.lt j hj).1; omega))⟩
    · have e1 : ((v : Int) == 1) = false := beq_eq_false_iff_ne.2 (by omega)
      by_cases h2 : v = 2
      · have e2 : ((v : Int) == 2) = true := by simp [h2]
        have hcap := own_cap Ho.out
        have b1 : (1 : Int) ≤ (xs.length : Int) := by omega
        have b2 : (xs.length : Int) ≤ (cp : Int) := by omega
        by_cases hcp : cp = 1
        · subst hcp
          go_wp2
          go_ret
          exact ⟨[], _, _, _, rfl, ⟨⟨by first | rfl | (simp; omega), fun h => absurd h (by omega), fun ad e k hk => absurd hk (by omega)⟩, fun ad e => by injection e with e; rw [← e]; exact hgk⟩, by omega, by omega, HC.out, HG.out⟩
        · go_wp2
          go_ret
          exact ⟨_, _, _, _, rfl, ⟨NdIn.tail (NdIn.of_own Ho.out), fun ad e => by injection e with e; rw [← e]; exact hgk⟩, by omega, by omega, HC.out, HG.out⟩
      · have e2 : ((v : Int) == 2) = false := beq_eq_false_iff_ne.2 (by omega)
        by_cases h3 : v = 3
        · have e3 : ((v : Int) == 3) = true := by simp [h3]
          go_wp2
          go_loopw [5] (fun lv wr => ∃ ys : Tr, wr.ownsRow w.heap.size 42 2 lv ys.length (Tr.cells ys) ∧ ys.length ≤ 31 ∧ CurX wr B k ∧ w.grownBy wr (some B)) (fun lv _ => 40 - vlen lv)
          case atStart => exact ⟨xs, Ho.out, by first | omega | decide, HC.out, HG.out⟩
          case round =>
            clear Ho HC HG
            obtain ⟨ys, hown, hyl, hc, hg⟩ := hrel
            have Ho := Lib.hid hown
            have HC := Lib.hid hc
            have HG := Lib.hid hg
            clear hown hc hg
            obtain ⟨A2, c2, rfl⟩ := own_slice Ho.out
            go_wp2_with fail
            refine (l1Below_ex _ B k 2 HC.out).mono ?_
            rintro e w4 ⟨t, rfl, ht, c, g⟩
            have HC := Lib.hid c
            have HG := Lib.hid (Kit.grown_trans HG.out g)
            have Ho := Lib.hid (Kit.keptRow Ho.out hBB g)
            clear c g
            have a6 : IntKind.i64.wrap (24 + (t : Int)) = 24 + (t : Int) := Kit.w64 (by omega) (by omega)
            by_cases hlt : (ys.length : Int) < 24 + (t : Int)
            · have elt : decide ((ys.length : Int) < 24 + (t : Int)) = true := by simpa using hlt
              have hsx := HG.out.size
              go_wp2_with (at_builtin; go_loud (refine append_node w4 rfl _ _ 24 rfl w.heap.size 42 i0 Try.underlying24 Hi.out hz0 hz1 hz2 (.slice A2 ys.length c2) ys.length ys rfl Ho.out rfl 1 (1) rfl (by omega) hsx ?_); intro v' w6 hown hgrow)
              have hg6 := Kit.grown_own HG.out (Nat.le_refl _) Ho.out hgrow
              have hc6 := (HC.out.alloc (.cells #[.int .i64 1, .int .i64 (1)] 42)).kept hgrow (fun j hj => by have := (Ho.out.lt j hj).1; omega)
              obtain ⟨A6, c6, rfl⟩ := own_slice hown
              go_roundw
              case rel => exact ⟨ys ++ [(1, 1)], hown, by simp; omega, hc6, hg6⟩
              case measure => simp [vlen]; omega
            · have elt : decide ((ys.length : Int) < 24 + (t : Int)) = false := by simpa using hlt
              go_wp2
              go_ret
              exact ⟨_, _, _, _, rfl, NdAt.of_own Ho.out, own_cap Ho.out, by omega, HC.out, HG.out⟩
        · have e3 : ((v : Int) == 3) = false := beq_eq_false_iff_ne.2 (by omega)
          by_cases h4 : v = 4
          · have e4 : ((v : Int) == 4) = true := by simp [h4]
            have hsx := HG.out.size
            have Ho := Lib.hid (World.ownsRow_lit (base := w.heap.size) (e := 42) (size := 2) w3 #[.int .i64 0, .int .i64 0] 1 hsx (by decide) rfl)
            have HC := Lib.hid (HC.out.alloc (.cells #[.int .i64 0, .int .i64 0] 42))
            have HG := Lib.hid (Kit.grown_trans HG.out (Kit.grown_alloc w3 (.cells #[.int .i64 0, .int .i64 0] 42) (some B)))
            go_wp2
            go_loopw [5] (fun lv wr => ∃ ys : Tr, wr.ownsRow w.heap.size 42 2 lv ys.length (Tr.cells ys) ∧ ys.length ≤ 31 ∧ CurX wr B k ∧ w.grownBy wr (some B)) (fun lv _ => 40 - vlen lv)
            case atStart => exact ⟨[(0, 0)], Ho.out, by first | omega | decide, HC.out, HG.out⟩
            case round =>
              clear Ho HC HG
              obtain ⟨ys, hown, hyl, hc, hg⟩ := hrel
              have Ho := Lib.hid hown
              have HC := Lib.hid hc
              have HG := Lib.hid hg
              clear hown hc hg
              obtain ⟨A2, c2, rfl⟩ := own_slice Ho.out
              go_wp2_with fail
              refine (l1Below_ex _ B k 2 HC.out).mono ?_
              rintro e w4 ⟨t, rfl, ht, c, g⟩
              have HC := Lib.hid c
              have HG := Lib.hid (Kit.grown_trans HG.out g)
              have Ho := Lib.hid (Kit.keptRow Ho.out hBB g)
              clear c g
              have a6 : IntKind.i64.wrap (13 + (t : Int)) = 13 + (t : Int) := Kit.w64 (by omega) (by omega)
              by_cases hlt : (ys.length : Int) < 13 + (t : Int)
              · have elt : decide ((ys.length : Int) < 13 + (t : Int)) = true := by simpa using hlt
                have hsx := HG.out.size
                go_wp2_with (at_builtin; go_loud (refine append_node w4 rfl _ _ 24 rfl w.heap.size 42 i0 Try.underlying24 Hi.out hz0 hz1 hz2 (.slice A2 ys.length c2) ys.length ys rfl Ho.out rfl 0 ((ys.length : Int)) rfl (by omega) hsx ?_); intro v' w6 hown hgrow)
                have hg6 := Kit.grown_own HG.out (Nat.le_refl _) Ho.out hgrow
                have hc6 := (HC.out.alloc (.cells #[.int .i64 0, .int .i64 ((ys.length : Int))] 42)).kept hgrow (fun j hj => by have := (Ho.out.lt j hj).1; omega)
                obtain ⟨A6, c6, rfl⟩ := own_slice hown
                go_roundw
                case rel => exact ⟨ys ++ [(0, (ys.length : Int))], hown, by simp; omega, hc6, hg6⟩
                case measure => simp [vlen]; omega
              · have elt : decide ((ys.length : Int) < 13 + (t : Int)) = false := by simpa using hlt
                go_wp2
                go_ret
                exact ⟨_, _, _, _, rfl, NdAt.of_own Ho.out, own_cap Ho.out, by omega, HC.out, HG.out⟩
          · have e4 : ((v : Int) == 4) = false := beq_eq_false_iff_ne.2 (by omega)
            go_wp2
            go_ret
            exact ⟨_, _, _, _, rfl, NdAt.of_own Ho.out, own_cap Ho.out, by omega, HC.out, HG.out⟩

end Go.Proofs.Ytlndaflhlkbedaa

/- Contracts (NearD). -/
namespace Go.Proofs.Ytlndaflhlkbedaa
open Go.RowKit
set_option linter.unusedVariables false

theorem grown_drewN {w w' : World} {r : Option Nat} (h : w.grownBy w' r) (n : Nat) : w.grownBy (w'.drewN n) r := ⟨h.os, h.tape, h.output, h.size, h.block⟩
theorem grown_drawn {w w1 w2 : World} {r : Option Nat} (h : w.grownBy w1 r) (hd : Drawn w1 w2) : w.grownBy w2 r := by obtain ⟨m, rfl⟩ := hd; exact grown_drewN h m
theorem CurX.drawn {w1 w2 : World} {B : Nat} {k : Code} (h : CurX w1 B k) (hd : Drawn w1 w2) : CurX w2 B k := by obtain ⟨m, rfl⟩ := hd; exact h.drewN m
set_option maxHeartbeats 800000 in
set_option maxRecDepth 100000 in
theorem l3Copy_ex (ad : Addr) (n c : Nat) (xs : Tr) (w : World) (h : NdIn w w.heap.size (some ad) n xs) (hn : n ≤ 1048576) :
    Calls Try.prog 138 #[.slice (some ad) n c] w fun e w' => ∃ A' c', e = .returned (.slice A' n c') ∧ w'.ownsRow w.heap.size 42 2 (.slice A' n c') n (Tr.cells xs) ∧ w.grownBy w' none := by
  have H := Lib.hid h
  clear h
  have HL := Lib.hid H.out.1
  obtain ⟨i0, hi, hz0, hz1, hz2⟩ := info_parts info_ndD
  go_enter Try.func138, Try.ntmps138
  go_wp2_with (at_builtin; refine wpList_append_own (World.alloc w (.cells #[] 42)) rfl _ _ 24 rfl w.heap.size 42 i0 (.agg #[.int .i64 0, .int .i64 0]) 2 16 Try.underlying24 hi hz0 hz1 hz2 rfl (by omega) (.slice (some ⟨w.heap.size, 0, none⟩) 0 0) 0 [] rfl (World.ownsRow_lit w #[] 0 (Nat.le_refl _) (Nat.zero_le _) rfl) ad n c (Tr.cells xs) rfl (by rw [Tr.cells_length, HL.out]) (NdIn.cells_at (H.out.to_below ((Below.refl _ _).alloc (Nat.le_refl _) _))) (Tr.cells_cell xs) (by unfold maxLen; omega) (by omega) (by simp) ?_; intro v' w1 hown1 hgrow1 hnil1)
  clear hnil1
  have hown2 : w1.ownsRow w.heap.size 42 2 v' n (Tr.cells xs) := by simpa using hown1
  obtain ⟨A', c', rfl⟩ := own_slice hown2
  have hg : w.grownBy w1 none := (Kit.grown_alloc w (.cells #[] 42) none).andThen hgrow1 (fun j hj => .inl (by simp [Value.ownBlock] at hj; omega))
  go_ret
  exact ⟨A', c', rfl, hown2, hg⟩
/-- the cursor and the slice under way -/
def NearG (B : Nat) (k : Code) (b0 : Nat) (A : Option Addr) (m cp : Nat) (ys : Tr) (w0 wq : World) : Prop := wq.ownsRow b0 42 2 (.slice A m cp) m (Tr.cells ys) ∧ CurX wq B k ∧ w0.grownBy wq (some B)
section
variable {B b0 m cp g2 : Nat} {k : Code} {ys : Tr} {w0 wx wq : World}
theorem near_own (h : NearG B k b0 (some ⟨g2, 0, none⟩) m cp ys w0 wx) : wx.ownsRow b0 42 2 (.slice (some ⟨g2, 0, none⟩) m cp) m (Tr.cells ys) := h.1
theorem near_cur (h : NearG B k b0 (some ⟨g2, 0, none⟩) m cp ys w0 wx) : CurX wx B k := h.2.1
theorem near_grow (h : NearG B k b0 (some ⟨g2, 0, none⟩) m cp ys w0 wx) : w0.grownBy wx (some B) := h.2.2
theorem near_keep0 (h : NearG B k b0 (some ⟨g2, 0, none⟩) m cp ys w0 wx) (g : wx.grownBy wq none) : NearG B k b0 (some ⟨g2, 0, none⟩) m cp ys w0 wq :=
  ⟨h.1.kept g (.inr fun e => by cases e), h.2.1.kept g (fun _ e => by cases e), h.2.2.andThen g (fun _ e => by cases e)⟩
theorem near_keepB (h : NearG B k b0 (some ⟨g2, 0, none⟩) m cp ys w0 wx) (hB : B < b0) (c : CurX wq B k) (g : wx.grownBy wq (some B)) : NearG B k b0 (some ⟨g2, 0, none⟩) m cp ys w0 wq := ⟨Kit.keptRow h.1 hB g, c, Kit.grown_trans h.2.2 g⟩
theorem near_grown (h : NearG B k b0 (some ⟨g2, 0, none⟩) m cp ys w0 wx) {r : Option Nat} (g : wx.grownBy wq r) (hr : ∀ b, r = some b → w0.heap.size ≤ b ∧ (Value.slice (some ⟨g2, 0, none⟩) m cp).ownBlock ≠ some b ∧ B < b) : NearG B k b0 (some ⟨g2, 0, none⟩) m cp ys w0 wq :=
  ⟨h.1.kept g (by cases r with | none => exact .inr (fun e => by cases e) | some b => exact .inr (fun e => (hr b rfl).2.1 e)), h.2.1.kept g (fun b e => (hr b e).2.2), h.2.2.andThen g (fun b e => .inl (hr b e).1)⟩
end
section
variable {B b0 m cp g2 o : Nat} {k : Code} {ys : Tr} {w0 wx wq : World} {u : Option Value}
theorem nearC_of (h : wx.cell? ⟨g2, o, none⟩ = u ∧ NearG B k b0 (some ⟨g2, 0, none⟩) m cp ys w0 wx) : NearG B k b0 (some ⟨g2, 0, none⟩) m cp ys w0 wx := h.2
theorem nearC_keep0 (h : wx.cell? ⟨g2, o, none⟩ = u ∧ NearG B k b0 (some ⟨g2, 0, none⟩) m cp ys w0 wx) (hB : B < g2) (g : wx.grownBy wq none) : wq.cell? ⟨g2, o, none⟩ = u ∧ NearG B k b0 (some ⟨g2, 0, none⟩) m cp ys w0 wq :=
  ⟨(World.cell?_of_block (g.block g2 (h.2.1.lt g2 rfl).2 (fun e => by cases e))).trans h.1, near_keep0 h.2 g⟩
theorem nearC_keepB (h : wx.cell? ⟨g2, o, none⟩ = u ∧ NearG B k b0 (some ⟨g2, 0, none⟩) m cp ys w0 wx) (hB : B < g2) (hB0 : B < b0) (c : CurX wq B k) (g : wx.grownBy wq (some B)) : wq.cell? ⟨g2, o, none⟩ = u ∧ NearG B k b0 (some ⟨g2, 0, none⟩) m cp ys w0 wq :=
  ⟨(World.cell?_of_block (g.block g2 (h.2.1.lt g2 rfl).2 (fun e => by injection e with e; omega))).trans h.1, near_keepB h.2 hB0 c g⟩
theorem nearC_grown (h : wx.cell? ⟨g2, o, none⟩ = u ∧ NearG B k b0 (some ⟨g2, 0, none⟩) m cp ys w0 wx) {r : Option Nat} (g : wx.grownBy wq r) (hr : ∀ b, r = some b → w0.heap.size ≤ b ∧ (Value.slice (some ⟨g2, 0, none⟩) m cp).ownBlock ≠ some b ∧ B < b) : wq.cell? ⟨g2, o, none⟩ = u ∧ NearG B k b0 (some ⟨g2, 0, none⟩) m cp ys w0 wq :=
  ⟨(World.cell?_of_block (g.block g2 (h.2.1.lt g2 rfl).2 (fun e => (hr g2 e.symm).2.1 rfl))).trans h.1, near_grown h.2 g hr⟩
end
theorem step_append_nodes {P : Program} {ops : Array Oper} {o : Oper} {a : Act} (w : World) {K : Act → World → Prop} {Q : Exit → Act → World → Prop} {E : Prop} (hgd : o.guard = none) (s x : Operand) (t : TypeId)
    (ho : o.op = .call { callee := .builtin .append, args := #[s, x], argTypes := #[t, t] })
    (base : Nat) (e : TypeId) (i : TypeInfo) (ht : P.underlying t = some (.slice e)) (hi : P.info? e = some i) (hz : i.zero = some (.agg #[.int .i64 0, .int .i64 0]))
    (hsize : i.size = 2) (hby : i.bytes = 16) (v : Value) (n m N : Nat) (l zs : Tr) (hs : a.eval s = v) (hown : w.ownsRow base e 2 v n (Tr.cells l))
    {B : Nat} (ad : Addr) (c : Nat) (hx : a.eval x = .slice (some ad) m c) (hin : NdIn w B (some ad) m zs) (hN : n + m = N)
    (h63 : N ≤ 1073741824) (hbase : base ≤ w.heap.size)
    (h : ∀ v' w', w'.ownsRow base e 2 v' N (Tr.cells (l ++ zs)) → w.grownBy w' v.ownBlock → K (a.put o.dst v') w') :
    if Region.wanted o (yielded ops a.tmps) = true then Oper.wp P o a w K Q else E := by
  have hw : Region.wanted o (yielded ops a.tmps) = true := by simp [Region.wanted, hgd]
  rw [if_pos hw]
  subst hN
  refine wp_append_own _ s x t ho base e i (.agg #[.int .i64 0, .int .i64 0]) 2 16 ht hi hz hsize hby rfl (by decide) v n (Tr.cells l) hs hown ad m c (Tr.cells zs) hx (by rw [Tr.cells_length, hin.1]) hin.cells_at (Tr.cells_cell _) (by unfold maxLen; omega) (by omega) hbase ?_
  intro v' w' h2 h3 _
  refine h v' w' ?_ h3
  rw [Tr.cells_append]
  exact h2
theorem NdIn.takeN {w : World} {B n r : Nat} {A : Option Addr} {xs : Tr} (h : NdIn w B A n xs) (hr : r ≤ n) : NdIn w B A r (xs.take r) := by
  refine ⟨by rw [List.length_take, h.1]; omega, fun hp => h.2.1 (by omega), fun ad e j hj => ?_⟩
  have := h.2.2 ad e j (by omega)
  have g : (xs.take r).getD j (0, 0) = xs.getD j (0, 0) := by rw [List.getD_eq_getElem?_getD, List.getD_eq_getElem?_getD, List.getElem?_take_of_lt hj]
  simp only [Tr.l, Tr.d] at this ⊢
  rw [g]
  exact this
theorem NdIn.dropN {w : World} {B n g r : Nat} {xs : Tr} (h : NdIn w B (some ⟨g, 0, none⟩) n xs) (hr : r ≤ n) : NdIn w B (some ⟨g, r * 2, none⟩) (n - r) (xs.drop r) := by
  refine ⟨by rw [List.length_drop, h.1], fun hp => ⟨_, rfl, ?_⟩, fun ad' e j hj => ?_⟩
  · obtain ⟨ad', e, hb⟩ := h.2.1 (by omega)
    obtain rfl : (⟨g, 0, none⟩ : Addr) = ad' := by injection e
    exact hb
  · obtain rfl : (⟨g, r * 2, none⟩ : Addr) = ad' := by injection e
    have hc := h.2.2 _ rfl (r + j) (by omega)
    have hg : (xs.drop r).getD j (0, 0) = xs.getD (r + j) (0, 0) := by simp [List.getD_eq_getElem?_getD]
    have e1 : (⟨g, r * 2, none⟩ : Addr) = (⟨g, 0, none⟩ : Addr).add (r * 2) := by unfold Addr.add; split <;> simp_all
    rw [e1, add_of_add, add_of_add, show r * 2 + j * 2 = (r + j) * 2 by omega, show r * 2 + (j * 2 + 1) = (r + j) * 2 + 1 by omega]
    simp only [Tr.l, Tr.d] at hc ⊢
    rw [hg]
    exact hc
set_option maxHeartbeats 3200000 in
set_option maxRecDepth 100000 in
theorem l3Near_ex (w : World) (B : Nat) (k : Code) (A : Option Addr) (n cp : Nat) (xs : Tr) (h : NdIn w w.heap.size A n xs) (hn0 : 0 < n) (hn : n ≤ 28) (c : CurX w B k) :
    Calls Try.prog 112 #[.pointer (some ⟨B, 0, none⟩), .slice A n cp] w (AnyD w B k) := by
  obtain ⟨ad, rfl, had⟩ := h.2.1 hn0
  have H := Lib.hid h
  have HC := Lib.hid c
  have hBB := c.lt
  have HG := Lib.hid (Kit.grown_refl w (some B))
  clear c h
  obtain ⟨i0, hi, hz0, hz1, hz2⟩ := info_parts info_ndD
  have Hi := Lib.hid hi
  clear hi
  go_enter Try.func112, Try.ntmps112
  go_wp2_with fail
  refine (l3Copy_ex ad n cp xs w H.out (by omega)).mono ?_
  rintro e w1 ⟨A1, c1, rfl, ho, g⟩
  have HC := Lib.hid (HC.out.kept g (fun _ h => by cases h))
  have HG := Lib.hid (HG.out.andThen g (fun _ h => by cases h))
  have Ho := Lib.hid ho
  have HX := Lib.hid H.out.1
  clear ho g
  go_wp2_with fail
  refine (l1Below_ex _ B k 3 HC.out).mono ?_
  rintro e w2 ⟨q, rfl, hq, c, g⟩
  have HC := Lib.hid c
  have HG := Lib.hid (Kit.grown_trans HG.out g)
  have Ho := Lib.hid (Kit.keptRow Ho.out hBB g)
  clear c g
  have hq' : q < 3 := by omega
  go_wp2
  go_loopw [5, 6] (fun lv jv wr => ∃ (ys : Tr) (m j : Nat), ys.length = m ∧ wr.ownsRow w.heap.size 42 2 lv m (Tr.cells ys) ∧ jv = .int .i64 j ∧ m + j ≤ 31 ∧ j ≤ 3 ∧ CurX wr B k ∧ w.grownBy wr (some B)) (fun _ jv _ => (intOf jv).toNat)
  case atStart => exact ⟨xs, n, q + 1, HX.out, Ho.out, by go_num, by omega, by omega, HC.out, HG.out⟩
  case round =>
    clear Ho HC HG
    obtain ⟨ys, m, j, hym, hown, rfl, hmj, hj3, hc, hg⟩ := hrel
    have Ho := Lib.hid hown
    have HC := Lib.hid hc
    have HG := Lib.hid hg
    have HM := Lib.hid hym
    clear hown hc hg hym
    obtain ⟨A2, c2, rfl⟩ := own_slice Ho.out
    by_cases hj0 : j = 0
    · subst hj0
      go_wp2_with fail
      refine (specTreeOk_any _ _ _ ys _ (NdIn.of_own Ho.out) (by omega)).mono ?_
      rintro e w5 ⟨rfl, hd⟩
      have HC := Lib.hid (HC.out.drawn hd)
      have HG := Lib.hid (grown_drawn HG.out hd)
      have Ho := Lib.hid (own_drawn Ho.out hd)
      clear hd
      cases hok : Tr.ok ys with
      | true =>
        have HOK := Lib.hid hok
        clear hok
        go_wp2
        go_ret
        exact ⟨ys, _, _, _, rfl, NdAt.of_own Ho.out, own_cap Ho.out, by omega, HC.out, HG.out⟩
      | false =>
        have HOK := Lib.hid hok
        clear hok
        go_wp2_with fail
        refine (l3Tree_ex _ B k 8 (by decide) HC.out).mono ?_
        rintro e w6 ⟨zs, A6, c6, rfl, ho, ⟨hl1, hl2⟩, _, c, g⟩
        go_wp2
        go_ret
        exact ⟨zs, _, _, _, rfl, NdAt.of_own (own_base ho HG.out.size), own_cap ho, by omega, c, Kit.grown_trans HG.out g⟩
    · have ej : decide (0 < j) = true := by simp; omega
      by_cases hm0 : m = 0
      · subst hm0
        go_wp2_with fail
        refine (specTreeOk_any _ _ _ ys _ (NdIn.of_own Ho.out) (by omega)).mono ?_
        rintro e w5 ⟨rfl, hd⟩
        have HC := Lib.hid (HC.out.drawn hd)
        have HG := Lib.hid (grown_drawn HG.out hd)
        have Ho := Lib.hid (own_drawn Ho.out hd)
        clear hd
        cases hok : Tr.ok ys with
        | true =>
          have HOK := Lib.hid hok
          clear hok
          go_wp2
          go_ret
          exact ⟨ys, _, _, _, rfl, NdAt.of_own Ho.out, own_cap Ho.out, by omega, HC.out, HG.out⟩
        | false =>
          have HOK := Lib.hid hok
          clear hok
          go_wp2_with fail
          refine (l3Tree_ex _ B k 8 (by decide) HC.out).mono ?_
          rintro e w6 ⟨zs, A6, c6, rfl, ho, ⟨hl1, hl2⟩, _, c, g⟩
          go_wp2
          go_ret
          exact ⟨zs, _, _, _, rfl, NdAt.of_own (own_base ho HG.out.size), own_cap ho, by omega, c, Kit.grown_trans HG.out g⟩
      · have em : decide (0 < m) = true := by simp; omega
        obtain ⟨g2, hg2, f2, f2'⟩ := own_form Ho.out (by omega)
        subst hg2
        have hcap := own_cap Ho.out
        go_wp2_with fail
        refine (l1Below_ex _ B k (m : Int) HC.out).mono ?_
        rintro e w3 ⟨r, rfl, hr, c, g⟩
        have HC := Lib.hid c
        have HG := Lib.hid (Kit.grown_trans HG.out g)
        have Ho := Lib.hid (Kit.keptRow Ho.out hBB g)
        clear c g
        have hr' : r < m := by omega
        have r0 : (0 : Int) ≤ (r : Int) := by omega
        have r1 : (r : Int) < (m : Int) := by omega
        go_wp2_with fail
        refine (l1Below_ex _ B k 3 HC.out).mono ?_
        rintro e w4 ⟨v, rfl, hv, c, g⟩
        have HC := Lib.hid c
        have HG := Lib.hid (Kit.grown_trans HG.out g)
        have Ho := Lib.hid (Kit.keptRow Ho.out hBB g)
        clear c g
        by_cases h0 : v = 0
        · as_aux_lemma =>
            have e0 : ((v : Int) == 0) = true := by simp [h0]
            go_wp2_with fail
            refine (l2Label_ex _ B k HC.out).mono ?_
            rintro e w5 ⟨x, rfl, c, g⟩
            have HC := Lib.hid c
            have HG := Lib.hid (Kit.grown_trans HG.out g)
            have Ho := Lib.hid (Kit.keptRow Ho.out hBB g)
            clear c g
            have c0 := own_even Ho.out (k := r) (by rw [HM.out]; exact hr')
            have f0 := Ho.out.frozenAt (r * 2)
            go_wp2
            have ho := (Ho.out.stored (r * 2) (.int .i64 x)).1
            have hst := (Ho.out.stored (r * 2) (.int .i64 x)).2
            rw [Tr.cells_set_even] at ho
            go_roundw
            case rel => exact ⟨_, m, j - 1, by rw [List.length_set]; exact HM.out, ho, by go_num, by omega, by omega, HC.out.kept hst (fun i hi => by have := (Ho.out.lt i hi).1; omega), HG.out.andThen hst (fun i hi => .inl (by have := (Ho.out.lt i hi).1; omega))⟩
            case measure => simp [intOf]; omega
        · have e0 : ((v : Int) == 0) = false := beq_eq_false_iff_ne.2 (by omega)
          by_cases h1 : v = 1
          · have e1 : ((v : Int) == 1) = true := by simp [h1]
            by_cases hr0 : 0 < r ∧ 1 < m
            · as_aux_lemma =>
                have er : decide (0 < r) = true := by simp; omega
                have e2 : decide (1 < m) = true := by simp; omega
                have e2x : decide ((1 : Int) < (m : Int)) = true := by simp; omega
                have hr1 : 0 < r := hr0.1
                have hm1 : 1 < m := hr0.2
                have hsx := HG.out.size
                have lg := (Ho.out.lt g2 rfl).2
                have zd : w4.drew.heap.size = w4.heap.size := rfl
                clear hq hv hr hr0
                have S0 := Lib.hid (show NearG B k w.heap.size (some ⟨g2, 0, none⟩) m c2 ys w w4.drew from ⟨own_drawn Ho.out (Drawn.refl _).drew, HC.out.drawn (Drawn.refl _).drew, grown_drawn HG.out (Drawn.refl _).drew⟩)
                have q1 : (r : Int) + 1 ≤ (m : Int) := by omega
                have q2 : IntKind.i64.wrap ((r : Int) + 1) = (r : Int) + 1 := Kit.w64 (by omega) (by omega)
                have q3 : (0 : Int) ≤ (r : Int) + 1 := by omega
                have q4 : (m : Int) ≤ (c2 : Int) := by omega
                have q5 : (r : Int) ≤ (c2 : Int) := by omega
                by_cases hcx : c2 = r + 1
                · subst hcx
                  obtain rfl : m = r + 1 := by omega
                  have q7 : (r : Int) ≤ (r : Int) + 1 := by omega
                  have q8 : (r : Int) ≤ ((r + 1 : Nat) : Int) := by omega
                  have q9 : r ≤ r + 1 := by omega
                  go_wp2_with fail
                  go_region_held3 (fun wq => NearG B k w.heap.size (some ⟨g2, 0, none⟩) (r + 1) (r + 1) ys w wq) (first | (with_reducible exact SY) | (with_reducible exact S0.out) | (with_reducible exact near_keep0 (by assumption) g5)) (first | (go_at_call 138; refine (l3Copy_ex ⟨g2, 0, none⟩ r (r + 1) (ys.take r) _ (NdIn.takeN (NdIn.of_own (near_own (by assumption))) (by omega)) (by omega)).mono ?_; rintro e w5 ⟨A5, c5, rfl, ho5, g5⟩; have SX := near_keep0 (by assumption) g5; obtain ⟨g5x, hg5x, f5, f5'⟩ := own_form ho5 (by omega); subst hg5x) | (refine step_append_nodes _ rfl _ _ 24 rfl w4.drew.heap.size 42 i0 Try.underlying24 Hi.out hz0 hz1 hz2 (.slice (some ⟨g5x, 0, none⟩) r c5) r (0) (r) (ys.take r) ([]) rfl ho5 ⟨g2, 0, none⟩ _ rfl (B := 0) ⟨rfl, fun h => absurd h (by omega), fun _ _ i hi => absurd hi (by omega)⟩ (by omega) (by omega) (by have := g5.size; omega) ?_; intro v6 w6 hown6 hgrow6; have HR6 : ∀ b, (Value.slice (some ⟨g5x, 0, none⟩) r c5).ownBlock = some b → w.heap.size ≤ b ∧ (Value.slice (some ⟨g2, 0, none⟩) (r + 1) (r + 1)).ownBlock ≠ some b ∧ B < b := (fun b e => by have hbx : g5x = b := (by injection e); subst hbx; exact ⟨by omega, fun e2 => absurd (show g2 = g5x by injection e2) (by omega), by omega⟩); have SY := near_grown SX hgrow6 HR6))
                  go_wp2
                  go_roundw
                  case rel => exact ⟨_, r, j - 1, by rw [List.append_nil, List.length_take, HM.out]; omega, own_base hown6 (by omega), by go_num, by omega, by omega, near_cur SY, near_grow SY⟩
                  case measure => simp [intOf]; omega
                · have hcx' : ¬ (c2 : Int) = (r : Int) + 1 := by omega
                  go_wp2_with fail
                  go_region_held3 (fun wq => NearG B k w.heap.size (some ⟨g2, 0, none⟩) (m) (c2) ys w wq) (first | (with_reducible exact SY) | (with_reducible exact S0.out) | (with_reducible exact near_keep0 (by assumption) g5)) (first | (go_at_call 138; refine (l3Copy_ex ⟨g2, 0, none⟩ r (c2) (ys.take r) _ (NdIn.takeN (NdIn.of_own (near_own (by assumption))) (by omega)) (by omega)).mono ?_; rintro e w5 ⟨A5, c5, rfl, ho5, g5⟩; have SX := near_keep0 (by assumption) g5; obtain ⟨g5x, hg5x, f5, f5'⟩ := own_form ho5 (by omega); subst hg5x) | (refine step_append_nodes _ rfl _ _ 24 rfl w4.drew.heap.size 42 i0 Try.underlying24 Hi.out hz0 hz1 hz2 (.slice (some ⟨g5x, 0, none⟩) r c5) r (m - (r + 1)) (m - 1) (ys.take r) (ys.drop (r + 1)) rfl ho5 ⟨g2, (r + 1) * 2, none⟩ _ rfl (NdIn.dropN (NdIn.of_own (near_own SX)) (by omega)) (by omega) (by omega) (by have := g5.size; omega) ?_; intro v6 w6 hown6 hgrow6; have HR6 : ∀ b, (Value.slice (some ⟨g5x, 0, none⟩) r c5).ownBlock = some b → w.heap.size ≤ b ∧ (Value.slice (some ⟨g2, 0, none⟩) (m) (c2)).ownBlock ≠ some b ∧ B < b := (fun b e => by have hbx : g5x = b := (by injection e); subst hbx; exact ⟨by omega, fun e2 => absurd (show g2 = g5x by injection e2) (by omega), by omega⟩); have SY := near_grown SX hgrow6 HR6))
                  go_wp2
                  go_roundw
                  case rel => exact ⟨_, m - 1, j - 1, by rw [List.length_append, List.length_take, List.length_drop, HM.out]; omega, own_base hown6 (by omega), by go_num, by omega, by omega, near_cur SY, near_grow SY⟩
                  case measure => simp [intOf]; omega
            · as_aux_lemma =>
                have er : decide (0 < r) = false := by simp; omega
                go_wp2
                go_roundw
                case rel => exact ⟨ys, m, j - 1, HM.out, Ho.out, by go_num, by omega, by omega, HC.out, HG.out⟩
                case measure => simp [intOf]; omega
          · as_aux_lemma =>
              have e1 : ((v : Int) == 1) = false := beq_eq_false_iff_ne.2 (by omega)
              have hsx := HG.out.size
              have hgB : B < g2 := by omega
              have lg := (Ho.out.lt g2 rfl).2
              have zd : w4.drew.heap.size = w4.heap.size := rfl
              obtain ⟨m1, hm1⟩ : ∃ m1, m1 = m - 1 := ⟨_, rfl⟩
              obtain ⟨d, hd⟩ : ∃ d, d = Tr.d ys m1 := ⟨_, rfl⟩
              have cd := own_odd Ho.out (k := m1) (by rw [HM.out]; omega)
              rw [← hd] at cd
              have e6 : (m : Int) - 1 = (m1 : Int) := by omega
              have a6 : IntKind.i64.wrap ((m : Int) - 1) = (m1 : Int) := by rw [Kit.w64 (by omega) (by omega)]; exact e6
              have k1 : (0 : Int) ≤ (m1 : Int) := by omega
              have k2 : (m1 : Int) < (m : Int) := by omega
              have hm5 : 0 < m := by omega
              have k3 : m1 < m := by omega
              have a7 : IntKind.i64.wrap (m1 : Int) = (m1 : Int) := Kit.w64 (by omega) (by omega)
              have HM1 := Lib.hid hm1
              clear hq hv hr hd hm1
              have S0 := Lib.hid (show w4.drew.cell? ⟨g2, m1 * 2 + 1, none⟩ = some (.int .i64 d) ∧ NearG B k w.heap.size (some ⟨g2, 0, none⟩) m c2 ys w w4.drew from ⟨cd, own_drawn Ho.out (Drawn.refl _).drew, HC.out.drawn (Drawn.refl _).drew, grown_drawn HG.out (Drawn.refl _).drew⟩)
              clear cd
              go_wp2_with fail
              go_region_held3 (fun wq => wq.cell? ⟨g2, m1 * 2 + 1, none⟩ = some (.int .i64 d) ∧ NearG B k w.heap.size (some ⟨g2, 0, none⟩) m c2 ys w wq) (first | (with_reducible exact SY) | (with_reducible exact S0.out) | (with_reducible exact SC) | (with_reducible exact nearC_keep0 SC hgB (Kit.grown_alloc _ _ none))) (first | (go_at_call 138; refine (l3Copy_ex ⟨g2, 0, none⟩ m c2 ys _ (NdIn.of_own (near_own (nearC_of (by assumption)))) (by omega)).mono ?_; rintro e w5 ⟨A5, c5, rfl, ho5, g5⟩; have SC := nearC_keep0 (by assumption) hgB g5; obtain ⟨g5x, hg5x, f5, f5'⟩ := own_form ho5 (by omega); subst hg5x) | (go_at_call 137; refine (l2Label_ex _ B k (near_cur (nearC_of (by assumption)))).mono ?_; rintro e w6 ⟨x6, rfl, cu6, g6⟩; have SC := nearC_keepB (by assumption) hgB hBB cu6 g6; have ho6 := Kit.keptRow ho5 (by omega) g6) | (go_at_call 87; refine (l1Below_ex _ B k _ (near_cur (nearC_of (by assumption)))).mono ?_; rintro e w7 ⟨x7, rfl, _, cu7, g7⟩; have SC := nearC_keepB (by assumption) hgB hBB cu7 g7; have ho7 := Kit.keptRow ho6 (by omega) g7) | (refine step_append_node w7 rfl _ _ 24 rfl w4.drew.heap.size 42 i0 Try.underlying24 Hi.out hz0 hz1 hz2 (.slice (some ⟨g5x, 0, none⟩) m c5) m ys rfl ho7 (by rw [HM.out]) _ _ rfl (by rw [HM.out]; omega) (by have := g5.size; have := g6.size; have := g7.size; omega) ?_; intro v6 w8 hown6 hgrow6; have HR6 : ∀ b, (Value.slice (some ⟨g5x, 0, none⟩) m c5).ownBlock = some b → w.heap.size ≤ b ∧ (Value.slice (some ⟨g2, 0, none⟩) m c2).ownBlock ≠ some b ∧ B < b := (fun b e => by have hbx : g5x = b := (by injection e); subst hbx; exact ⟨by omega, fun e2 => absurd (show g2 = g5x by injection e2) (by omega), by omega⟩); have SY := nearC_grown (nearC_keep0 SC hgB (Kit.grown_alloc _ _ none)) hgrow6 HR6))
              go_wp2
              rw [List.length_append, List.length_singleton, HM.out] at hown6
              go_roundw
              case rel => exact ⟨_, m + 1, j - 1, by rw [List.length_append, List.length_singleton, HM.out], own_base hown6 (by omega), by go_num, by omega, by omega, near_cur SY.2, near_grow SY.2⟩
              case measure => simp [intOf]; omega
end Go.Proofs.Ytlndaflhlkbedaa
