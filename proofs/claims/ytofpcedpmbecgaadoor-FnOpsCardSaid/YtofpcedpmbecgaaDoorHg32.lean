/- Texts of one claim laid into one file, in build order: CmpD. -/
import Derived.Test.YtofpcedpmbecgaaDoorHg31
import Derived.Outline
/- Contracts (CmpD). -/
namespace Go.Proofs.YtofpcedpmbecgaaDoor
open Go.RowKit
set_option linter.unusedVariables false

/-- the table in a region that ends with a store into the forests -/
def DFo (B : Nat) (D : DtD) (xs ys : Tr) (k : Co) (F : Nat → Nat → Int) (T : List Int) (a b : Nat) (v : Int) (w0 wq : World) : Prop :=
  (DT B D xs ys k F T wq ∨ DT B D xs ys k (updF F a b v) T wq) ∧ Below B w0 wq
section
variable {B : Nat} {D : DtD} {xs ys : Tr} {k : Co} {F : Nat → Nat → Int} {T : List Int} {a b : Nat} {v : Int} {w0 wx wq : World} {c : Option Value} {q : Addr}
theorem dfo_keep (hS : wx.cell? q = c ∧ DFo B D xs ys k F T a b v w0 wx) (hd : Drawn wx wq) : wq.cell? q = c ∧ DFo B D xs ys k F T a b v w0 wq := by
  obtain ⟨h2, h3, h4⟩ := hS
  exact ⟨by rw [hd.cell]; exact h2, h3.imp (fun h => h.drawn hd) (fun h => h.drawn hd), hd.below h4⟩
theorem dfo_del (hS : wx.cell? q = c ∧ DFo B D xs ys k F T a b v w0 wx) (hx : Tr.ok xs = true) (hy : Tr.ok ys = true) (hk : Co.ok k = true) (x : Nat) (hxl : x < xs.length) :
    Calls Tryd.prog 62 #[.pointer (some ⟨D.g, 0, none⟩), .int .i64 x] wx fun e w' => e = .returned (.int .i64 (Co.del k (Tr.xa xs x))) ∧ Drawn wx w' := by
  obtain ⟨_, h3, _⟩ := hS
  rcases h3 with h | h
  · exact distDel_any _ _ _ _ _ _ _ _ h hx hy hk x hxl
  · exact distDel_any _ _ _ _ _ _ _ _ h hx hy hk x hxl
theorem dfo_ins (hS : wx.cell? q = c ∧ DFo B D xs ys k F T a b v w0 wx) (hx : Tr.ok xs = true) (hy : Tr.ok ys = true) (hk : Co.ok k = true) (y : Nat) (hyl : y < ys.length) :
    Calls Tryd.prog 63 #[.pointer (some ⟨D.g, 0, none⟩), .int .i64 y] wx fun e w' => e = .returned (.int .i64 (Co.ins k (Tr.xa ys y))) ∧ Drawn wx w' := by
  obtain ⟨_, h3, _⟩ := hS
  rcases h3 with h | h
  · exact distIns_any _ _ _ _ _ _ _ _ h hx hy hk y hyl
  · exact distIns_any _ _ _ _ _ _ _ _ h hx hy hk y hyl
theorem dfo_cell (hS : wx.cell? q = c ∧ DFo B D xs ys k F T a b v w0 wx) (ha : a < 25) (hb : b < 25) : ∃ z, wx.cell? ⟨D.g, 10 + a * 25 + b, none⟩ = some (.int .i64 z) ∧ wx.frozen? ⟨D.g, 10 + a * 25 + b, none⟩ = false := by
  obtain ⟨_, h3, _⟩ := hS
  rcases h3 with h | h
  · exact ⟨_, h.fr a b ha hb, h.fz _⟩
  · exact ⟨_, h.fr a b ha hb, h.fz _⟩
theorem updF_twice (F : Nat → Nat → Int) (a b : Nat) (v : Int) : updF (updF F a b v) a b v = updF F a b v := by
  funext x y
  unfold updF
  split <;> rfl
theorem dfo_store (hS : wx.cell? q = c ∧ DFo B D xs ys k F T a b v w0 wx) (ha : a < 25) (hb : b < 25) (hq : q ≠ ⟨D.g, 10 + a * 25 + b, none⟩) :
    (wx.setCell ⟨D.g, 10 + a * 25 + b, none⟩ (.int .i64 v)).cell? q = c ∧ DFo B D xs ys k F T a b v w0 (wx.setCell ⟨D.g, 10 + a * 25 + b, none⟩ (.int .i64 v)) := by
  obtain ⟨h2, h3, h4⟩ := hS
  have hB : B ≤ D.g := by rcases h3 with h | h <;> exact h.gB
  refine ⟨?_, .inr ?_, h4.setCell hB _⟩
  · rw [World.cell?_setCell_other _ _ _ _ (fun e => hq e.symm)]; exact h2
  · rcases h3 with h | h
    · exact h.setF ha hb v
    · have := h.setF ha hb v
      rw [updF_twice] at this
      exact this
end

set_option maxHeartbeats 1600000 in
set_option maxRecDepth 100000 in
theorem distCmp_any (B : Nat) (D : DtD) (xs ys : Tr) (k : Co) (F : Nat → Nat → Int) (T : List Int) (w : World) (h : DT B D xs ys k F T w) (hx : Tr.ok xs = true) (hy : Tr.ok ys = true) (hk : Co.ok k = true)
    (i j : Nat) (hi : i < xs.length) (hj : j < ys.length) (hA : Ahead xs ys k i j T) :
    Calls Tryd.prog 52 #[.pointer (some ⟨D.g, 0, none⟩), .int .i64 i, .int .i64 j] w fun e w' =>
      e = .returned (.tuple #[]) ∧ (∃ F' T', Fill xs ys k i j (i + 1) (Tr.la ys j) F' T T' ∧ DT B D xs ys k F' T' w') ∧ Below B w w' := by
  obtain ⟨lx, lx'⟩ := Tr.len24 hx
  obtain ⟨ly, ly'⟩ := Tr.len24 hy
  have hpi := (Tr.la_nest hx i hi).1
  have hqj := (Tr.la_nest hy j hj).1
  have l1 := (h.ra1.at_ i hi).trans (by rw [Tr.la_up hx hi])
  have l2 := (h.rb1.at_ j hj).trans (by rw [Tr.la_up hy hj])
  obtain ⟨p, hp⟩ : ∃ p, p = Tr.la xs i := ⟨_, rfl⟩
  obtain ⟨q, hq⟩ : ∃ q, q = Tr.la ys j := ⟨_, rfl⟩
  rw [← hp] at hpi l1
  rw [← hq] at hqj l2
  have c1 := h.h1
  have c4 := h.h4
  have H := Lib.hid h
  have HX := Lib.hid hx
  have HY := Lib.hid hy
  have HK := Lib.hid hk
  have HP := Lib.hid hp
  have HQ := Lib.hid hq
  have HA := Lib.hid hA
  have b1 : (0 : Int) ≤ (i : Int) := by omega
  have b2 : (i : Int) < (xs.length : Int) := by omega
  have b3 : (0 : Int) ≤ (j : Int) := by omega
  have b4 : (j : Int) < (ys.length : Int) := by omega
  have b5 : (0 : Int) ≤ (p : Int) := by omega
  have b6 : (p : Int) < 25 := by omega
  have b7 : (0 : Int) ≤ (q : Int) := by omega
  have b8 : (q : Int) < 25 := by omega
  have ZZ := Lib.hid (RR_zero (xs := xs) (ys := ys) (k := k) (i := i) (j := j))
  have ZL := Lib.hid (fun x a b => RR_left (xs := xs) (ys := ys) (k := k) (i := i) (j := j) (x := x) hx hi a b)
  have ZR := Lib.hid (fun y a b => RR_right (xs := xs) (ys := ys) (k := k) (i := i) (j := j) (y := y) hy hj a b)
  have BL := Lib.hid (fun x (a1 : Tr.la xs i ≤ x) (a2 : x ≤ i) => RR_bound (k := k) hx hy (p := Tr.la xs i) (a := x) (q := Tr.la ys j) (b := Tr.la ys j) a1 (by omega) (Nat.le_refl _) (by omega))
  have BR := Lib.hid (fun y (a1 : Tr.la ys j ≤ y) (a2 : y ≤ j) => RR_bound (k := k) hx hy (p := Tr.la xs i) (a := Tr.la xs i) (q := Tr.la ys j) (b := y) (Nat.le_refl _) (by omega) a1 (by omega))
  rw [← hp, ← hq] at ZZ ZL ZR BL BR
  clear h hx hy hk hp hq hA
  go_enter Tryd.func52, Tryd.ntmps52
  go_wp2_with fail
  go_quiet (fail)
  generalize hw1 : World.drewN w _ = w1
  have hd1 : Drawn w w1 := ⟨_, hw1.symm⟩
  have H1 := Lib.hid (H.out.drawn hd1)
  have HD1 := Lib.hid hd1
  have f1 := H1.out.fr p q (by omega) (by omega)
  have z1 := H1.out.fz (10 + p * 25 + q)
  clear c1 c4 l1 l2 hw1 hd1
  go_wp2
  have H2 := Lib.hid (H1.out.setF (x := p) (y := q) (by omega) (by omega) 0)
  have HB2 := Lib.hid (HD1.out.toBelow.setCell H1.out.gB (.int .i64 0) (p := ⟨D.g, 10 + p * 25 + q, none⟩))
  obtain ⟨w2, hw2⟩ : ∃ w2, w2 = w1.setCell ⟨D.g, 10 + p * 25 + q, none⟩ (.int .i64 0) := ⟨_, rfl⟩
  rw [← hw2] at H2 HB2 ⊢
  clear f1 z1 hw2
  have hst1 : ∀ a, p ≤ a → a ≤ p → updF F p q 0 a q = RR xs ys k p a q q := fun a a1 a2 => by
    have e : a = p := by omega
    rw [e, ZZ.out]
    simp [updF]
  have ST1 := Lib.hid hst1
  clear hst1
  go_loopw [8] (fun xv wr => ∃ (x : Nat) (F1 : Nat → Nat → Int), p ≤ x ∧ x ≤ i + 1 ∧ xv = .int .i64 x ∧ DT B D xs ys k F1 T wr ∧ Below B w wr ∧ ∀ a, p ≤ a → a ≤ x → F1 a q = RR xs ys k p a q q) (fun x _ => i + 1 - (intOf x).toNat)
  case atStart => exact ⟨p, _, Nat.le_refl _, by omega, rfl, H2.out, HB2.out, ST1.out⟩
  case round =>
    clear H1 HD1 H2 HB2 ST1
    obtain ⟨x, F1, hpx, hxi, rfl, hD, hB, hF⟩ := hrel
    have HD := Lib.hid hD
    have HB := Lib.hid hB
    have HF := Lib.hid hF
    clear hD hB hF
    by_cases hlt : x ≤ i
    · have g1 := HD.out.fr x q (by omega) (by omega)
      have bd := BL.out x hpx hlt
      rw [← HF.out x hpx (Nat.le_refl _)] at bd
      have n1 := (Co.nonneg' k).1 (Tr.xa xs x)
      have c1 : (0 : Int) ≤ (x : Int) := by omega
      have c2 : (x : Int) < 25 := by omega
      have c3 : (0 : Int) ≤ (x : Int) + 1 := by omega
      have c4 : (x : Int) + 1 < 25 := by omega
      have a1 : IntKind.i64.wrap ((x : Int) + 1) = (x : Int) + 1 := Kit.w64 (by omega) (by omega)
      have Hww := Lib.hid (show IntKind.i64.wrap (F1 x q + Co.del k (Tr.xa xs x)) = F1 x q + Co.del k (Tr.xa xs x) from Kit.w64 (by omega) (by omega))
      have S0 := Lib.hid (show wr.drew.cell? ⟨D.g, 10 + x * 25 + q, none⟩ = some (.int .i64 (F1 x q)) ∧ DFo B D xs ys k F1 T (x + 1) q (F1 x q + Co.del k (Tr.xa xs x)) wr wr.drew from ⟨g1, .inl (HD.out.drawn (Drawn.refl _).drew), (Drawn.refl _).drew.toBelow⟩)
      go_wp2_with fail
      go_region_held3 (fun wq => wq.cell? ⟨D.g, 10 + x * 25 + q, none⟩ = some (.int .i64 (F1 x q)) ∧ DFo B D xs ys k F1 T (x + 1) q (F1 x q + Co.del k (Tr.xa xs x)) wr wq) (first | exact S0.out | (refine dfo_keep ?_ hd; assumption) | (rw [Hww.out]; exact dfo_store (dfo_keep (by assumption) hd) (by omega) (by omega) (fun e => by injection e with e1 e2; omega))) (first | (go_at_call 62; refine (dfo_del (by assumption) HX.out HY.out HK.out x (by omega)).mono ?_; rintro e w5 ⟨rfl, hd⟩; obtain ⟨z5, tc5, tf5⟩ := dfo_cell (dfo_keep (by assumption) hd) (by omega) (by omega)))
      rw [Hww.out]
      have h6 := (HD.out.drawn ((Drawn.refl _).drew.trans hd)).setF (x := x + 1) (y := q) (by omega) (by omega) (F1 x q + Co.del k (Tr.xa xs x))
      have hb6 : Below B w (w5.setCell ⟨D.g, 10 + (x + 1) * 25 + q, none⟩ (.int .i64 (F1 x q + Co.del k (Tr.xa xs x)))) := (HB.out.trans ((Drawn.refl _).drew.trans hd).toBelow).setCell HD.out.gB _
      have H6 := Lib.hid h6
      have HB6 := Lib.hid hb6
      clear h6 hb6 S0 a1
      go_wp2
      go_roundw
      case rel =>
        refine ⟨x + 1, _, by omega, by omega, by go_num, H6.out, HB6.out, fun a a1 a2 => ?_⟩
        unfold updF
        by_cases e : a = x + 1
        · rw [if_pos ⟨e, rfl⟩, e, ZL.out x hpx hlt, HF.out x hpx (Nat.le_refl _)]
        · rw [if_neg (fun c => e c.1)]; exact HF.out a a1 (by omega)
      case measure => simp [intOf]; omega
    · have HXE := Lib.hid (show x = i + 1 by omega)
      rw [HXE.out] at HF
      go_wp2
      go_loopw [9] (fun yv wr => ∃ (y : Nat) (F1 : Nat → Nat → Int), q ≤ y ∧ y ≤ j + 1 ∧ yv = .int .i64 y ∧ DT B D xs ys k F1 T wr ∧ Below B w wr ∧ (∀ a, p ≤ a → a ≤ i + 1 → F1 a q = RR xs ys k p a q q) ∧ ∀ b, q ≤ b → b ≤ y → F1 p b = RR xs ys k p p q b) (fun y _ => j + 1 - (intOf y).toNat)
      case atStart => exact ⟨q, F1, Nat.le_refl _, by omega, rfl, HD.out, HB.out, HF.out, fun b b1 b2 => by
        have e : b = q := by omega
        rw [e]; exact HF.out p (Nat.le_refl _) (by omega)⟩
      case round =>
        clear HD HB HF
        clear F1
        obtain ⟨y, F1, hqy, hyj, rfl, hD, hB, hF, hG⟩ := hrel
        have HD := Lib.hid hD
        have HB := Lib.hid hB
        have HF := Lib.hid hF
        have HG := Lib.hid hG
        clear hD hB hF hG
        by_cases hlt : y ≤ j
        · have g1 := HD.out.fr p y (by omega) (by omega)
          have bd := BR.out y hqy hlt
          rw [← HG.out y hqy (Nat.le_refl _)] at bd
          have n1 := (Co.nonneg' k).2.1 (Tr.xa ys y)
          have c1 : (0 : Int) ≤ (y : Int) := by omega
          have c2 : (y : Int) < 25 := by omega
          have c3 : (0 : Int) ≤ (y : Int) + 1 := by omega
          have c4 : (y : Int) + 1 < 25 := by omega
          have a1 : IntKind.i64.wrap ((y : Int) + 1) = (y : Int) + 1 := Kit.w64 (by omega) (by omega)
          have Hww := Lib.hid (show IntKind.i64.wrap (F1 p y + Co.ins k (Tr.xa ys y)) = F1 p y + Co.ins k (Tr.xa ys y) from Kit.w64 (by omega) (by omega))
          have S0 := Lib.hid (show wr.drew.cell? ⟨D.g, 10 + p * 25 + y, none⟩ = some (.int .i64 (F1 p y)) ∧ DFo B D xs ys k F1 T p (y + 1) (F1 p y + Co.ins k (Tr.xa ys y)) wr wr.drew from ⟨g1, .inl (HD.out.drawn (Drawn.refl _).drew), (Drawn.refl _).drew.toBelow⟩)
          go_wp2_with fail
          go_region_held3 (fun wq => wq.cell? ⟨D.g, 10 + p * 25 + y, none⟩ = some (.int .i64 (F1 p y)) ∧ DFo B D xs ys k F1 T p (y + 1) (F1 p y + Co.ins k (Tr.xa ys y)) wr wq) (first | exact S0.out | (refine dfo_keep ?_ hd; assumption) | (rw [Hww.out]; exact dfo_store (dfo_keep (by assumption) hd) (by omega) (by omega) (fun e => by injection e with e1 e2; omega))) (first | (go_at_call 63; refine (dfo_ins (by assumption) HX.out HY.out HK.out y (by omega)).mono ?_; rintro e w5 ⟨rfl, hd⟩; obtain ⟨z5, tc5, tf5⟩ := dfo_cell (dfo_keep (by assumption) hd) (by omega) (by omega)))
          rw [Hww.out]
          have h6 := (HD.out.drawn ((Drawn.refl _).drew.trans hd)).setF (x := p) (y := y + 1) (by omega) (by omega) (F1 p y + Co.ins k (Tr.xa ys y))
          have hb6 : Below B w (w5.setCell ⟨D.g, 10 + p * 25 + (y + 1), none⟩ (.int .i64 (F1 p y + Co.ins k (Tr.xa ys y)))) := (HB.out.trans ((Drawn.refl _).drew.trans hd).toBelow).setCell HD.out.gB _
          have H6 := Lib.hid h6
          have HB6 := Lib.hid hb6
          clear h6 hb6 S0 a1
          go_wp2
          go_roundw
          case rel =>
            refine ⟨y + 1, _, by omega, by omega, by go_num, H6.out, HB6.out, fun a a1 a2 => ?_, fun b b1 b2 => ?_⟩
            · unfold updF
              rw [if_neg (fun c => by omega)]; exact HF.out a a1 a2
            · unfold updF
              by_cases e : b = y + 1
              · rw [if_pos ⟨rfl, e⟩, e, ZR.out y hqy hlt, HG.out y hqy (Nat.le_refl _)]
              · rw [if_neg (fun c => e c.2)]; exact HG.out b b1 (by omega)
          case measure => simp [intOf]; omega
        · have HYE := Lib.hid (show y = j + 1 by omega)
          rw [HYE.out] at HG
          have FS := Lib.hid (Fill.start HX.out HY.out hi hj HD.out.tlen (by rw [← HP.out, ← HQ.out]; exact HF.out) (by rw [← HP.out, ← HQ.out]; exact HG.out))
          rw [← HP.out, ← HQ.out] at FS
          go_wp2
          go_loopw [10] (fun xv wr => ∃ (x : Nat) (F2 : Nat → Nat → Int) (T2 : List Int), p ≤ x ∧ x ≤ i + 1 ∧ xv = .int .i64 x ∧ Fill xs ys k i j x q F2 T T2 ∧ DT B D xs ys k F2 T2 wr ∧ Below B w wr) (fun x _ => i + 1 - (intOf x).toNat)
          case atStart => exact ⟨p, F1, T, Nat.le_refl _, by omega, rfl, FS.out, HD.out, HB.out⟩
          case round =>
            clear HD HB HF HG FS
            clear F1
            obtain ⟨x, F2, T2, hpx, hxi, rfl, hS, hD, hB⟩ := hrel
            have HD := Lib.hid hD
            have HB := Lib.hid hB
            have HS := Lib.hid hS
            clear hD hB hS
            by_cases hlt : x ≤ i
            · go_wp2
              go_loopw [11] (fun yv wr => ∃ (y : Nat) (F3 : Nat → Nat → Int) (T3 : List Int), q ≤ y ∧ y ≤ j + 1 ∧ yv = .int .i64 y ∧ Fill xs ys k i j x y F3 T T3 ∧ DT B D xs ys k F3 T3 wr ∧ Below B w wr) (fun y _ => j + 1 - (intOf y).toNat)
              case atStart => exact ⟨q, F2, T2, Nat.le_refl _, by omega, rfl, HS.out, HD.out, HB.out⟩
              case round =>
                clear HD HB HS
                clear F2 T2
                obtain ⟨y, F3, T3, hqy, hyj, rfl, hS, hD, hB⟩ := hrel
                have HD := Lib.hid hD
                have HB := Lib.hid hB
                have HS := Lib.hid hS
                clear hD hB hS
                by_cases hlt2 : y ≤ j
                · have HC := Lib.hid (distAdd_any B D xs ys k F3 T T3 wr HD.out HX.out HY.out HK.out i j x y hi hj HA.out HS.out (by rw [← HP.out]; exact hpx) hlt (by rw [← HQ.out]; exact hqy) hlt2)
                  rw [← HP.out, ← HQ.out] at HC
                  go_wp2_with fail
                  refine HC.out.mono ?_
                  rintro e w7 ⟨rfl, ⟨F4, T4, hS4, hD4⟩, hb4⟩
                  have HD4 := Lib.hid hD4
                  have HS4 := Lib.hid hS4
                  have HB4 := Lib.hid (HB.out.trans hb4)
                  clear hD4 hS4 hb4 HC
                  go_wp2
                  go_roundw
                  case rel => exact ⟨y + 1, F4, T4, by omega, by omega, by go_num, HS4.out, HD4.out, HB4.out⟩
                  case measure => simp [intOf]; omega
                · have hye : y = j + 1 := by omega
                  rw [hye] at HS
                  clear hye
                  have HN := Lib.hid (Fill.next HY.out hj HS.out)
                  rw [← HQ.out] at HN
                  go_wp2
                  go_roundw
                  case rel => exact ⟨x + 1, F3, T3, by omega, by omega, by go_num, HN.out, HD.out, HB.out⟩
                  case measure => simp [intOf]; omega
            · have hxe : x = i + 1 := by omega
              rw [hxe] at HS
              clear hxe
              go_wp2
              (try simp only [Exit.inBlock, Exit.then])
              refine bodyPost_end (results_none rfl _ _ _) rfl ?_
              exact ⟨rfl, ⟨F2, T2, by rw [← HQ.out]; exact HS.out, HD.out⟩, HB.out⟩

end Go.Proofs.YtofpcedpmbecgaaDoor
