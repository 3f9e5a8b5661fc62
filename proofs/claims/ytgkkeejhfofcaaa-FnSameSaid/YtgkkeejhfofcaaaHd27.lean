/- Texts of one claim laid into one file, in build order: AddP, AddF, CmpD. -/
import Derived.Test.YtgkkeejhfofcaaaHd26
import Derived.Outline
/- Contracts (AddP). -/
namespace Go.Proofs.Ytgkkeejhfofcaaa
open Go.RowKit
set_option linter.unusedVariables false

set_option maxHeartbeats 1600000 in
set_option maxRecDepth 100000 in
theorem distAdd_right (B : Nat) (D : DtD) (xs ys : Tr) (k : Co) (F : Nat → Nat → Int) (T : List Int) (w : World) (h : DT B D xs ys k F T w) (hx : Tr.ok xs = true) (hy : Tr.ok ys = true) (hk : Co.ok k = true)
    (p q x y : Nat) (hxl : x < xs.length) (hyl : y < ys.length) (l r : Nat) (hp : Tr.la xs x = l) (hq : Tr.la ys y = r) (hle : l = p) (hne : r ≠ q) (v : Int)
    (hv : v = min (min (F x (y + 1) + Co.del k (Tr.xa xs x)) (F (x + 1) y + Co.ins k (Tr.xa ys y))) (F l r + Zs.at T (x * ys.length + y)))
    (f0 : 0 ≤ Zs.at T (x * ys.length + y) ∧ Zs.at T (x * ys.length + y) ≤ 1000000) (f1 : 0 ≤ F x (y + 1) ∧ F x (y + 1) ≤ 1000000) (f2 : 0 ≤ F (x + 1) y ∧ F (x + 1) y ≤ 1000000) (f3 : 0 ≤ F l r ∧ F l r ≤ 1000000) :
    Calls Try.prog 154 #[.pointer (some ⟨D.g, 0, none⟩), .int .i64 p, .int .i64 q, .int .i64 x, .int .i64 y] w fun e w' => e = .returned (.tuple #[]) ∧ DT B D xs ys k (updF F (x + 1) (y + 1) v) T w' ∧ Below B w w' := by
  subst hle
  obtain ⟨lx, lx'⟩ := Tr.len24 hx
  obtain ⟨ly, ly'⟩ := Tr.len24 hy
  have g1 := h.fr x (y + 1) (by omega) (by omega)
  have g2 := h.fr (x + 1) y (by omega) (by omega)
  have hlx : l ≤ x := by rw [← hp]; exact (Tr.la_nest hx x hxl).1
  have hry : r ≤ y := by rw [← hq]; exact (Tr.la_nest hy y hyl).1
  have g3 := h.fr l r (by omega) (by omega)
  have H := Lib.hid h
  have HX := Lib.hid hx
  have HY := Lib.hid hy
  have HK := Lib.hid hk
  have n1 := (Co.nonneg' k).1 (Tr.xa xs x)
  have n2 := (Co.nonneg' k).2.1 (Tr.xa ys y)
  obtain ⟨u0, hu0⟩ : ∃ u0, u0 = x * ys.length := ⟨_, rfl⟩
  have hu1 : u0 ≤ 576 := by rw [hu0]; exact Nat.mul_le_mul (show x ≤ 24 by omega) ly'
  have hu2 := idx_lt hxl hyl
  rw [← hu0] at hu2 f0 hv
  obtain ⟨t0, ht0⟩ : ∃ t0, t0 = u0 + y := ⟨_, rfl⟩
  rw [← ht0] at hu2 f0 hv
  have hadd : (u0 : Int) + (y : Int) = (t0 : Int) := by omega
  obtain ⟨nm, hnm⟩ : ∃ nm, nm = xs.length * ys.length := ⟨_, rfl⟩
  have hmul : (x : Int) * (ys.length : Int) = (u0 : Int) := by rw [hu0, Int.natCast_mul]
  have a3 : IntKind.i64.wrap ((x : Int) * (ys.length : Int)) = (u0 : Int) := by rw [hmul, Kit.w64 (by omega) (by omega)]
  have c9 := h.h9
  have f9 := h.row.frozenAt t0
  have t9 := own_int h.row (k := t0) (by rw [h.tlen]; exact hu2)
  rw [← hnm] at c9 hu2
  have c1 := h.h1
  have c3 := h.h3
  have c4 := h.h4
  have l1 := (h.ra1.at_ x hxl).trans (by rw [Tr.la_up hx hxl, hp])
  have l2 := (h.rb1.at_ y hyl).trans (by rw [Tr.la_up hy hyl, hq])
  have e1 : ((l : Int) == (l : Int)) = true := by simp
  have e2 : ((r : Int) == (q : Int)) = false := by simp; omega
  have a1 : IntKind.i64.wrap ((x : Int) + 1) = ((x + 1 : Nat) : Int) := by rw [Kit.w64 (by omega) (by omega)]; omega
  have a2 : IntKind.i64.wrap ((y : Int) + 1) = ((y + 1 : Nat) : Int) := by rw [Kit.w64 (by omega) (by omega)]; omega
  have b1 : (0 : Int) ≤ (x : Int) := by omega
  have b2 : (x : Int) < 25 := by omega
  have b3 : (0 : Int) ≤ (y : Int) := by omega
  have b4 : (y : Int) < 25 := by omega
  have b5 : (0 : Int) ≤ ((x + 1 : Nat) : Int) := by omega
  have b6 : ((x + 1 : Nat) : Int) < 25 := by omega
  have b7 : (0 : Int) ≤ ((y + 1 : Nat) : Int) := by omega
  have d1 : (0 : Int) ≤ (t0 : Int) := by omega
  have d2 : (t0 : Int) < (nm : Int) := by omega
  have k1 : (0 : Int) ≤ (l : Int) := by omega
  have k2 : (l : Int) < 25 := by omega
  have k3 : (0 : Int) ≤ (r : Int) := by omega
  have k4 : (r : Int) < 25 := by omega
  have d3 : (x : Int) < (xs.length : Int) := by omega
  have d4 : (y : Int) < (ys.length : Int) := by omega
  have b8 : ((y + 1 : Nat) : Int) < 25 := by omega
  have Hv := Lib.hid hv
  have HU0 := Lib.hid hu0
  have HT0 := Lib.hid ht0
  have HADD := Lib.hid hadd
  have HNM := Lib.hid hnm
  clear h hx hy hk hv ht0 hadd hu0 hnm hmul hp hq
  go_enter Try.func154, Try.ntmps154
  go_wp2_with fail
  go_quiet (first | (go_at_call 152; exact quiet_drawn (distDel_any _ _ _ _ _ _ _ _ (H.out.drawn ((Drawn.refl _).drewN _)) HX.out HY.out HK.out x hxl)) | (go_at_call 153; exact quiet_drawn (distIns_any _ _ _ _ _ _ _ _ (H.out.drawn ((Drawn.refl _).drewN _)) HX.out HY.out HK.out y hyl)))
  rw [min_if]
  obtain ⟨m0, hm0⟩ : ∃ m0, m0 = min (F x (y + 1) + Co.del k (Tr.xa xs x)) (F (x + 1) y + Co.ins k (Tr.xa ys y)) := ⟨_, rfl⟩
  rw [← hm0]
  rw [← hm0] at Hv
  have HM0 := Lib.hid hm0
  clear hm0
  go_wp2_with fail
  rw [HADD.out]
  go_quiet (fail)
  go_wp2_with fail
  generalize hw1 : World.drewN w _ = w1
  have hd1 : Drawn w w1 := ⟨_, hw1.symm⟩
  have H1 := Lib.hid (H.out.drawn hd1)
  have HD1 := Lib.hid hd1
  have g3' := (hd1.cell _).trans g3
  have c9' := (hd1.cell _).trans c9
  have t9' := (hd1.cell _).trans t9
  have f9' := H1.out.fr (x + 1) (y + 1) (by omega) (by omega)
  have z9 := H1.out.fz (10 + (x + 1) * 25 + (y + 1))
  clear g1 g2 g3 c9 f9 t9 c1 c3 c4 l1 l2 hw1 hd1
  have s1 : (0 : Int) ≤ (x : Int) + 1 := by omega
  have s2 : (x : Int) + 1 < 25 := by omega
  have s3 : (0 : Int) ≤ (y : Int) + 1 := by omega
  have s4 : (y : Int) + 1 < 25 := by omega
  go_still_tail 27, (by kernel_rfl)
  change wpList _ _ _ _ _ w1.drew
  go_wp2
  all_goals
    (try simp only [Exit.inBlock, Exit.then])
    refine bodyPost_end (results_none rfl _ _ _) rfl ?_
    have hv2 := Hv.out
    first | rw [show F l r + Zs.at T t0 = v by omega] | rw [show m0 = v by omega]
    exact ⟨rfl, (H1.out.drawn (Drawn.refl _).drew).setF (by omega) (by omega) v, ((HD1.out.trans (Drawn.refl _).drew).toBelow).setCell H1.out.gB _⟩

end Go.Proofs.Ytgkkeejhfofcaaa

/- Contracts (AddF). -/
namespace Go.Proofs.Ytgkkeejhfofcaaa
open Go.RowKit
set_option linter.unusedVariables false

/-- one cell of the table is filled -/
theorem distAdd_any (B : Nat) (D : DtD) (xs ys : Tr) (k : Co) (F : Nat → Nat → Int) (T0 T : List Int) (w : World) (h : DT B D xs ys k F T w) (hx : Tr.ok xs = true) (hy : Tr.ok ys = true) (hk : Co.ok k = true)
    (i j x y : Nat) (hi : i < xs.length) (hj : j < ys.length) (hA : Ahead xs ys k i j T0) (hf : Fill xs ys k i j x y F T0 T) (px : Tr.la xs i ≤ x) (xi : x ≤ i) (qy : Tr.la ys j ≤ y) (yj : y ≤ j) :
    Calls Try.prog 154 #[.pointer (some ⟨D.g, 0, none⟩), .int .i64 (Tr.la xs i : Nat), .int .i64 (Tr.la ys j : Nat), .int .i64 x, .int .i64 y] w fun e w' =>
      e = .returned (.tuple #[]) ∧ (∃ F' T', Fill xs ys k i j x (y + 1) F' T0 T' ∧ DT B D xs ys k F' T' w') ∧ Below B w w' := by
  obtain ⟨g1, g2, g3, g4⟩ := Fill.geo hx hy hi hj px xi qy yj
  obtain ⟨r1, r2, r3, r4⟩ := Fill.reads hx hy hi hj hf px xi qy yj
  have b1 := RR_bound (k := k) hx hy (p := Tr.la xs i) (a := x) (q := Tr.la ys j) (b := y + 1) (by omega) (by omega) (by omega) (by omega)
  have b2 := RR_bound (k := k) hx hy (p := Tr.la xs i) (a := x + 1) (q := Tr.la ys j) (b := y) (by omega) (by omega) (by omega) (by omega)
  have b3 := RR_bound (k := k) hx hy (p := Tr.la xs i) (a := x) (q := Tr.la ys j) (b := y) (by omega) (by omega) (by omega) (by omega)
  have b4 := RR_bound (k := k) hx hy (p := Tr.la xs i) (a := Tr.la xs x) (q := Tr.la ys j) (b := Tr.la ys y) (by omega) (by omega) (by omega) (by omega)
  rw [← r1] at b1
  rw [← r2] at b2
  rw [← r3] at b3
  rw [← r4] at b4
  by_cases e : Tr.la xs x = Tr.la xs i ∧ Tr.la ys y = Tr.la ys j
  · have st := Fill.first hx hy hi hj hA hf px xi qy yj e rfl (F' := updF F (x + 1) (y + 1) _) (fun a b _ _ _ _ => rfl)
    refine (distAdd_first B D xs ys k F T w h hx hy hk _ _ x y (by omega) (by omega) e.1 e.2 _ rfl (by omega) (by omega) (by omega)).mono ?_
    rintro e' w' ⟨h1, h2, h3⟩
    exact ⟨h1, ⟨_, _, st.2, h2⟩, h3⟩
  · have st := Fill.other hx hy hi hj hA hf px xi qy yj e rfl (F' := updF F (x + 1) (y + 1) _) (fun a b _ _ _ _ => rfl)
    have ht := Fill.tree hi hj hA hf px xi qy yj e
    have b5 := TT_bound (k := k) hx hy (a := x) (b := y) (by omega) (by omega)
    rw [← ht] at b5
    by_cases e1 : Tr.la xs x = Tr.la xs i
    · refine (distAdd_right B D xs ys k F T w h hx hy hk _ _ x y (by omega) (by omega) _ _ rfl rfl e1 (fun e2 => e ⟨e1, e2⟩) _ rfl (by omega) (by omega) (by omega) (by omega)).mono ?_
      rintro e' w' ⟨h1, h2, h3⟩
      exact ⟨h1, ⟨_, _, st, h2⟩, h3⟩
    · refine (distAdd_left B D xs ys k F T w h hx hy hk _ _ x y (by omega) (by omega) _ _ rfl rfl e1 _ rfl (by omega) (by omega) (by omega) (by omega)).mono ?_
      rintro e' w' ⟨h1, h2, h3⟩
      exact ⟨h1, ⟨_, _, st, h2⟩, h3⟩

end Go.Proofs.Ytgkkeejhfofcaaa

/- Contracts (CmpD). -/
namespace Go.Proofs.Ytgkkeejhfofcaaa
open Go.RowKit
set_option linter.unusedVariables false

/-- the table in a region that ends with a store into the forests -/
def DFo (B : Nat) (D : DtD) (xs ys : Tr) (k : Co) (F : Nat → Nat → Int) (T : List Int) (a b : Nat) (v : Int) (w0 wq : World) : Prop :=
  (DT B D xs ys k F T wq ∨ DT B D xs ys k (updF F a b v) T wq) ∧ Below B w0 wq
section
variable {B : Nat} {D : DtD} {xs ys : Tr} {k : Co} {F : Nat → Nat → Int} {T : List Int} {a b : Nat} {v : Int} {w0 wx wq : World} {c : Option Value} {q : Addr}
theorem dfo_keep (hS : wx.cell? q = c ∧ DFo B D xs ys k F T a b v w0 wx) (hd : Drawn wx wq) : wq.cell? q = c ∧ DFo B D xs ys k F T a b v w0 wq := by
  obtain ⟨h2, h3, h4⟩ := hS
  exact ⟨by rw [hd.cell]; exact h2, h3.imp (fun h => h.drawn hd) (fun h => h.drawn hd), hd.below h4⟩
theorem dfo_del (hS : wx.cell? q = c ∧ DFo B D xs ys k F T a b v w0 wx) (hx : Tr.ok xs = true) (hy : Tr.ok ys = true) (hk : Co.ok k = true) (x : Nat) (hxl : x < xs.length) :
    Calls Try.prog 152 #[.pointer (some ⟨D.g, 0, none⟩), .int .i64 x] wx fun e w' => e = .returned (.int .i64 (Co.del k (Tr.xa xs x))) ∧ Drawn wx w' := by
  obtain ⟨_, h3, _⟩ := hS
  rcases h3 with h | h
  · exact distDel_any _ _ _ _ _ _ _ _ h hx hy hk x hxl
  · exact distDel_any _ _ _ _ _ _ _ _ h hx hy hk x hxl
theorem dfo_ins (hS : wx.cell? q = c ∧ DFo B D xs ys k F T a b v w0 wx) (hx : Tr.ok xs = true) (hy : Tr.ok ys = true) (hk : Co.ok k = true) (y : Nat) (hyl : y < ys.length) :
    Calls Try.prog 153 #[.pointer (some ⟨D.g, 0, none⟩), .int .i64 y] wx fun e w' => e = .returned (.int .i64 (Co.ins k (Tr.xa ys y))) ∧ Drawn wx w' := by
  obtain ⟨_, h3, _⟩ := hS
  rcases h3 with h | h
  · exact distIns_any _ _ _ _ _ _ _ _ h hx hy hk y hyl
  · exact distIns_any _ _ _ _ _ _ _ _ h hx hy hk y hyl
theorem dfo_cell (hS : wx.cell? q = c ∧ DFo B D xs ys k F T a b v w0 wx) (ha : a < 25) (hb : b < 25) : ∃ z, wx.cell? ⟨D.g, 10 + a * 25 + b, none⟩ = some (.int .i64 z) ∧ wx.frozen? ⟨D.g, 10 + a * 25 + b, none⟩ = false := by
  obtain ⟨_, h3, _⟩ := hS
  rcases h3 with h | h
  · exact ⟨_, h.fr a b ha hb, h.fz _⟩
  · exact ⟨_, h.fr a b ha hb, h.fz _⟩
theorem updF_twice (F : Nat → Nat → Int) (a b : Nat) (v : Int) : updF (updF F a b v) a b v = updF F a b v := by
  funext x y
  unfold updF
  split <;> rfl
theorem dfo_store (hS : wx.cell? q = c ∧ DFo B D xs ys k F T a b v w0 wx) (ha : a < 25) (hb : b < 25) (hq : q ≠ ⟨D.g, 10 + a * 25 + b, none⟩) :
    (wx.setCell ⟨D.g, 10 + a * 25 + b, none⟩ (.int .i64 v)).cell? q = c ∧ DFo B D xs ys k F T a b v w0 (wx.setCell ⟨D.g, 10 + a * 25 + b, none⟩ (.int .i64 v)) := by
  obtain ⟨h2, h3, h4⟩ := hS
  have hB : B ≤ D.g := by rcases h3 with h | h <;> exact h.gB
  refine ⟨?_, .inr ?_, h4.setCell hB _⟩
  · rw [World.cell?_setCell_other _ _ _ _ (fun e => hq e.symm)]; exact h2
  · rcases h3 with h | h
    · exact h.setF ha hb v
    · have := h.setF ha hb v
      rw [updF_twice] at this
      exact this
end

set_option maxHeartbeats 1600000 in
set_option maxRecDepth 100000 in
theorem distCmp_any (B : Nat) (D : DtD) (xs ys : Tr) (k : Co) (F : Nat → Nat → Int) (T : List Int) (w : World) (h : DT B D xs ys k F T w) (hx : Tr.ok xs = true) (hy : Tr.ok ys = true) (hk : Co.ok k = true)
    (i j : Nat) (hi : i < xs.length) (hj : j < ys.length) (hA : Ahead xs ys k i j T) :
    Calls Try.prog 116 #[.pointer (some ⟨D.g, 0, none⟩), .int .i64 i, .int .i64 j] w fun e w' =>
      e = .returned (.tuple #[]) ∧ (∃ F' T', Fill xs ys k i j (i + 1) (Tr.la ys j) F' T T' ∧ DT B D xs ys k F' T' w') ∧ Below B w w' := by
  obtain ⟨lx, lx'⟩ := Tr.len24 hx
  obtain ⟨ly, ly'⟩ := Tr.len24 hy
  have hpi := (Tr.la_nest hx i hi).1
  have hqj := (Tr.la_nest hy j hj).1
  have l1 := (h.ra1.at_ i hi).trans (by rw [Tr.la_up hx hi])
  have l2 := (h.rb1.at_ j hj).trans (by rw [Tr.la_up hy hj])
  obtain ⟨p, hp⟩ : ∃ p, p = Tr.la xs i := ⟨_, rfl⟩
  obtain ⟨q, hq⟩ : ∃ q, q = Tr.la ys j := ⟨_, rfl⟩
  rw [← hp] at hpi l1
  rw [← hq] at hqj l2
  have c1 := h.h1
  have c4 := h.h4
  have H := Lib.hid h
  have HX := Lib.hid hx
  have HY := Lib.hid hy
  have HK := Lib.hid hk
  have HP := Lib.hid hp
  have HQ := Lib.hid hq
  have HA := Lib.hid hA
  have b1 : (0 : Int) ≤ (i : Int) := by omega
  have b2 : (i : Int) < (xs.length : Int) := by omega
  have b3 : (0 : Int) ≤ (j : Int) := by omega
  have b4 : (j : Int) < (ys.length : Int) := by omega
  have b5 : (0 : Int) ≤ (p : Int) := by omega
  have b6 : (p : Int) < 25 := by omega
  have b7 : (0 : Int) ≤ (q : Int) := by omega
  have b8 : (q : Int) < 25 := by omega
  have ZZ := Lib.hid (RR_zero (xs := xs) (ys := ys) (k := k) (i := i) (j := j))
  have ZL := Lib.hid (fun x a b => RR_left (xs := xs) (ys := ys) (k := k) (i := i) (j := j) (x := x) hx hi a b)
  have ZR := Lib.hid (fun y a b => RR_right (xs := xs) (ys := ys) (k := k) (i := i) (j := j) (y := y) hy hj a b)
  have BL := Lib.hid (fun x (a1 : Tr.la xs i ≤ x) (a2 : x ≤ i) => RR_bound (k := k) hx hy (p := Tr.la xs i) (a := x) (q := Tr.la ys j) (b := Tr.la ys j) a1 (by omega) (Nat.le_refl _) (by omega))
  have BR := Lib.hid (fun y (a1 : Tr.la ys j ≤ y) (a2 : y ≤ j) => RR_bound (k := k) hx hy (p := Tr.la xs i) (a := Tr.la xs i) (q := Tr.la ys j) (b := y) (Nat.le_refl _) (by omega) a1 (by omega))
  rw [← hp, ← hq] at ZZ ZL ZR BL BR
  clear h hx hy hk hp hq hA
  go_enter Try.func116, Try.ntmps116
  go_wp2_with fail
  go_quiet (fail)
  generalize hw1 : World.drewN w _ = w1
  have hd1 : Drawn w w1 := ⟨_, hw1.symm⟩
  have H1 := Lib.hid (H.out.drawn hd1)
  have HD1 := Lib.hid hd1
  have f1 := H1.out.fr p q (by omega) (by omega)
  have z1 := H1.out.fz (10 + p * 25 + q)
  clear c1 c4 l1 l2 hw1 hd1
  go_wp2
  have H2 := Lib.hid (H1.out.setF (x := p) (y := q) (by omega) (by omega) 0)
  have HB2 := Lib.hid (HD1.out.toBelow.setCell H1.out.gB (.int .i64 0) (p := ⟨D.g, 10 + p * 25 + q, none⟩))
  obtain ⟨w2, hw2⟩ : ∃ w2, w2 = w1.setCell ⟨D.g, 10 + p * 25 + q, none⟩ (.int .i64 0) := ⟨_, rfl⟩
  rw [← hw2] at H2 HB2 ⊢
  clear f1 z1 hw2
  have hst1 : ∀ a, p ≤ a → a ≤ p → updF F p q 0 a q = RR xs ys k p a q q := fun a a1 a2 => by
    have e : a = p := by omega
    rw [e, ZZ.out]
    simp [updF]
  have ST1 := Lib.hid hst1
  clear hst1
  go_loopw [8] (fun xv wr => ∃ (x : Nat) (F1 : Nat → Nat → Int), p ≤ x ∧ x ≤ i + 1 ∧ xv = .int .i64 x ∧ DT B D xs ys k F1 T wr ∧ Below B w wr ∧ ∀ a, p ≤ a → a ≤ x → F1 a q = RR xs ys k p a q q) (fun x _ => i + 1 - (intOf x).toNat)
  case atStart => exact ⟨p, _, Nat.le_refl _, by omega, rfl, H2.out, HB2.out, ST1.out⟩
  case round =>
    clear H1 HD1 H2 HB2 ST1
    obtain ⟨x, F1, hpx, hxi, rfl, hD, hB, hF⟩ := hrel
    have HD := Lib.hid hD
    have HB := Lib.hid hB
    have HF := Lib.hid hF
    clear hD hB hF
    by_cases hlt : x ≤ i
    · have g1 := HD.out.fr x q (by omega) (by omega)
      have bd := BL.out x hpx hlt
      rw [← HF.out x hpx (Nat.le_refl _)] at bd
      have n1 := (Co.nonneg' k).1 (Tr.xa xs x)
      have c1 : (0 : Int) ≤ (x : Int) := by omega
      have c2 : (x : Int) < 25 := by omega
      have c3 : (0 : Int) ≤ (x : Int) + 1 := by omega
      have c4 : (x : Int) + 1 < 25 := by omega
      have a1 : IntKind.i64.wrap ((x : Int) + 1) = (x : Int) + 1 := Kit.w64 (by omega) (by omega)
      have Hww := Lib.hid (show IntKind.i64.wrap (F1 x q + Co.del k (Tr.xa xs x)) = F1 x q + Co.del k (Tr.xa xs x) from Kit.w64 (by omega) (by omega))
      have S0 := Lib.hid (show wr.drew.cell? ⟨D.g, 10 + x * 25 + q, none⟩ = some (.int .i64 (F1 x q)) ∧ DFo B D xs ys k F1 T (x + 1) q (F1 x q + Co.del k (Tr.xa xs x)) wr wr.drew from ⟨g1, .inl (HD.out.drawn (Drawn.refl _).drew), (Drawn.refl _).drew.toBelow⟩)
      go_wp2_with fail
      go_region_held3 (fun wq => wq.cell? ⟨D.g, 10 + x * 25 + q, none⟩ = some (.int .i64 (F1 x q)) ∧ DFo B D xs ys k F1 T (x + 1) q (F1 x q + Co.del k (Tr.xa xs x)) wr wq) (first | exact S0.out | (refine dfo_keep ?_ hd; assumption) | (rw [Hww.out]; exact dfo_store (dfo_keep (by assumption) hd) (by omega) (by omega) (fun e => by injection e with e1 e2; omega))) (first | (go_at_call 152; refine (dfo_del (by assumption) HX.out HY.out HK.out x (by omega)).mono ?_; rintro e w5 ⟨rfl, hd⟩; obtain ⟨z5, tc5, tf5⟩ := dfo_cell (dfo_keep (by assumption) hd) (by omega) (by omega)))
      rw [Hww.out]
      have h6 := (HD.out.drawn ((Drawn.refl _).drew.trans hd)).setF (x := x + 1) (y := q) (by omega) (by omega) (F1 x q + Co.del k (Tr.xa xs x))
      have hb6 : Below B w (w5.setCell ⟨D.g, 10 + (x + 1) * 25 + q, none⟩ (.int .i64 (F1 x q + Co.del k (Tr.xa xs x)))) := (HB.out.trans ((Drawn.refl _).drew.trans hd).toBelow).setCell HD.out.gB _
      have H6 := Lib.hid h6
      have HB6 := Lib.hid hb6
      clear h6 hb6 S0 a1
      go_wp2
      go_roundw
      case rel =>
        refine ⟨x + 1, _, by omega, by omega, by go_num, H6.out, HB6.out, fun a a1 a2 => ?_⟩
        unfold updF
        by_cases e : a = x + 1
        · rw [if_pos ⟨e, rfl⟩, e, ZL.out x hpx hlt, HF.out x hpx (Nat.le_refl _)]
        · rw [if_neg (fun c => e c.1)]; exact HF.out a a1 (by omega)
      case measure => simp [intOf]; omega
    · have HXE := Lib.hid (show x = i + 1 by omega)
      rw [HXE.out] at HF
      go_wp2
      go_loopw [9] (fun yv wr => ∃ (y : Nat) (F1 : Nat → Nat → Int), q ≤ y ∧ y ≤ j + 1 ∧ yv = .int .i64 y ∧ DT B D xs ys k F1 T wr ∧ Below B w wr ∧ (∀ a, p ≤ a → a ≤ i + 1 → F1 a q = RR xs ys k p a q q) ∧ ∀ b, q ≤ b → b ≤ y → F1 p b = RR xs ys k p p q b) (fun y _ => j + 1 - (intOf y).toNat)
      case atStart => exact ⟨q, F1, Nat.le_refl _, by omega, rfl, HD.out, HB.out, HF.out, fun b b1 b2 => by
        have e : b = q := by omega
        rw [e]; exact HF.out p (Nat.le_refl _) (by omega)⟩
      case round =>
        clear HD HB HF
        clear F1
        obtain ⟨y, F1, hqy, hyj, rfl, hD, hB, hF, hG⟩ := hrel
        have HD := Lib.hid hD
        have HB := Lib.hid hB
        have HF := Lib.hid hF
        have HG := Lib.hid hG
        clear hD hB hF hG
        by_cases hlt : y ≤ j
        · have g1 := HD.out.fr p y (by omega) (by omega)
          have bd := BR.out y hqy hlt
          rw [← HG.out y hqy (Nat.le_refl _)] at bd
          have n1 := (Co.nonneg' k).2.1 (Tr.xa ys y)
          have c1 : (0 : Int) ≤ (y : Int) := by omega
          have c2 : (y : Int) < 25 := by omega
          have c3 : (0 : Int) ≤ (y : Int) + 1 := by omega
          have c4 : (y : Int) + 1 < 25 := by omega
          have a1 : IntKind.i64.wrap ((y : Int) + 1) = (y : Int) + 1 := Kit.w64 (by omega) (by omega)
          have Hww := Lib.hid (show IntKind.i64.wrap (F1 p y + Co.ins k (Tr.xa ys y)) = F1 p y + Co.ins k (Tr.xa ys y) from Kit.w64 (by omega) (by omega))
          have S0 := Lib.hid (show wr.drew.cell? ⟨D.g, 10 + p * 25 + y, none⟩ = some (.int .i64 (F1 p y)) ∧ DFo B D xs ys k F1 T p (y + 1) (F1 p y + Co.ins k (Tr.xa ys y)) wr wr.drew from ⟨g1, .inl (HD.out.drawn (Drawn.refl _).drew), (Drawn.refl _).drew.toBelow⟩)
          go_wp2_with fail
          go_region_held3 (fun wq => wq.cell? ⟨D.g, 10 + p * 25 + y, none⟩ = some (.int .i64 (F1 p y)) ∧ DFo B D xs ys k F1 T p (y + 1) (F1 p y + Co.ins k (Tr.xa ys y)) wr wq) (first | exact S0.out | (refine dfo_keep ?_ hd; assumption) | (rw [Hww.out]; exact dfo_store (dfo_keep (by assumption) hd) (by omega) (by omega) (fun e => by injection e with e1 e2; omega))) (first | (go_at_call 153; refine (dfo_ins (by assumption) HX.out HY.out HK.out y (by omega)).mono ?_; rintro e w5 ⟨rfl, hd⟩; obtain ⟨z5, tc5, tf5⟩ := dfo_cell (dfo_keep (by assumption) hd) (by omega) (by omega)))
          rw [Hww.out]
          have h6 := (HD.out.drawn ((Drawn.refl _).drew.trans hd)).setF (x := p) (y := y + 1) (by omega) (by omega) (F1 p y + Co.ins k (Tr.xa ys y))
          have hb6 : Below B w (w5.setCell ⟨D.g, 10 + p * 25 + (y + 1), none⟩ (.int .i64 (F1 p y + Co.ins k (Tr.xa ys y)))) := (HB.out.trans ((Drawn.refl _).drew.trans hd).toBelow).setCell HD.out.gB _
          have H6 := Lib.hid h6
          have HB6 := Lib.hid hb6
          clear h6 hb6 S0 a1
          go_wp2
          go_roundw
          case rel =>
            refine ⟨y + 1, _, by omega, by omega, by go_num, H6.out, HB6.out, fun a a1 a2 => ?_, fun b b1 b2 => ?_⟩
            · unfold updF
              rw [if_neg (fun c => by omega)]; exact HF.out a a1 a2
            · unfold updF
              by_cases e : b = y + 1
              · rw [if_pos ⟨rfl, e⟩, e, ZR.out y hqy hlt, HG.out y hqy (Nat.le_refl _)]
              · rw [if_neg (fun c => e c.2)]; exact HG.out b b1 (by omega)
          case measure => simp [intOf]; omega
        · have HYE := Lib.hid (show y = j + 1 by omega)
          rw [HYE.out] at HG
          have FS := Lib.hid (Fill.start HX.out HY.out hi hj HD.out.tlen (by rw [← HP.out, ← HQ.out]; exact HF.out) (by rw [← HP.out, ← HQ.out]; exact HG.out))
          rw [← HP.out, ← HQ.out] at FS
          go_wp2
          go_loopw [10] (fun xv wr => ∃ (x : Nat) (F2 : Nat → Nat → Int) (T2 : List Int), p ≤ x ∧ x ≤ i + 1 ∧ xv = .int .i64 x ∧ Fill xs ys k i j x q F2 T T2 ∧ DT B D xs ys k F2 T2 wr ∧ Below B w wr) (fun x _ => i + 1 - (intOf x).toNat)
          case atStart => exact ⟨p, F1, T, Nat.le_refl _, by omega, rfl, FS.out, HD.out, HB.out⟩
          case round =>
            clear HD HB HF HG FS
            clear F1
            obtain ⟨x, F2, T2, hpx, hxi, rfl, hS, hD, hB⟩ := hrel
            have HD := Lib.hid hD
            have HB := Lib.hid hB
            have HS := Lib.hid hS
            clear hD hB hS
            by_cases hlt : x ≤ i
            · go_wp2
              go_loopw [11] (fun yv wr => ∃ (y : Nat) (F3 : Nat → Nat → Int) (T3 : List Int), q ≤ y ∧ y ≤ j + 1 ∧ yv = .int .i64 y ∧ Fill xs ys k i j x y F3 T T3 ∧ DT B D xs ys k F3 T3 wr ∧ Below B w wr) (fun y _ => j + 1 - (intOf y).toNat)
              case atStart => exact ⟨q, F2, T2, Nat.le_refl _, by omega, rfl, HS.out, HD.out, HB.out⟩
              case round =>
                clear HD HB HS
                clear F2 T2
                obtain ⟨y, F3, T3, hqy, hyj, rfl, hS, hD, hB⟩ := hrel
                have HD := Lib.hid hD
                have HB := Lib.hid hB
                have HS := Lib.hid hS
                clear hD hB hS
                by_cases hlt2 : y ≤ j
                · have HC := Lib.hid (distAdd_any B D xs ys k F3 T T3 wr HD.out HX.out HY.out HK.out i j x y hi hj HA.out HS.out (by rw [← HP.out]; exact hpx) hlt (by rw [← HQ.out]; exact hqy) hlt2)
                  rw [← HP.out, ← HQ.out] at HC
                  go_wp2_with fail
                  refine HC.out.mono ?_
                  rintro e w7 ⟨rfl, ⟨F4, T4, hS4, hD4⟩, hb4⟩
                  have HD4 := Lib.hid hD4
                  have HS4 := Lib.hid hS4
                  have HB4 := Lib.hid (HB.out.trans hb4)
                  clear hD4 hS4 hb4 HC
                  go_wp2
                  go_roundw
                  case rel => exact ⟨y + 1, F4, T4, by omega, by omega, by go_num, HS4.out, HD4.out, HB4.out⟩
                  case measure => simp [intOf]; omega
                · have hye : y = j + 1 := by omega
                  rw [hye] at HS
                  clear hye
                  have HN := Lib.hid (Fill.next HY.out hj HS.out)
                  rw [← HQ.out] at HN
                  go_wp2
                  go_roundw
                  case rel => exact ⟨x + 1, F3, T3, by omega, by omega, by go_num, HN.out, HD.out, HB.out⟩
                  case measure => simp [intOf]; omega
            · have hxe : x = i + 1 := by omega
              rw [hxe] at HS
              clear hxe
              go_wp2
              (try simp only [Exit.inBlock, Exit.then])
              refine bodyPost_end (results_none rfl _ _ _) rfl ?_
              exact ⟨rfl, ⟨F2, T2, by rw [← HQ.out]; exact HS.out, HD.out⟩, HB.out⟩

end Go.Proofs.Ytgkkeejhfofcaaa
