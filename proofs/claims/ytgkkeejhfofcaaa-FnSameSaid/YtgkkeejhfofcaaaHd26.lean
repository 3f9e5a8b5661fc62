/- Texts of one claim laid into one file, in build order: DelX, Add, AddO. -/
import Derived.Test.YtgkkeejhfofcaaaHd16
import Derived.Test.YtgkkeejhfofcaaaHd18
import Derived.Deep.RegionHeld3
import Derived.Outline
import Derived.StillTailTactics
/- Contracts (DelX). -/
namespace Go.Proofs.Ytgkkeejhfofcaaa
open Go.RowKit
set_option linter.unusedVariables false

/-- two trees and the costs, as nine cells at the head of a block; the rows that they name -/
structure SD (g : Nat) (a0 a1 b0 b1 k0 k1 k2 : Addr) (ca0 ca1 cb0 cb1 ck0 ck1 ck2 : Nat) (xs ys : Tr) (k : Co) (w : World) : Prop where
  h0 : w.cell? ⟨g, 0, none⟩ = some (.slice (some a0) xs.length ca0)
  h1 : w.cell? ⟨g, 1, none⟩ = some (.slice (some a1) xs.length ca1)
  h3 : w.cell? ⟨g, 3, none⟩ = some (.slice (some b0) ys.length cb0)
  h4 : w.cell? ⟨g, 4, none⟩ = some (.slice (some b1) ys.length cb1)
  h6 : w.cell? ⟨g, 6, none⟩ = some (.slice (some k0) 6 ck0)
  h7 : w.cell? ⟨g, 7, none⟩ = some (.slice (some k1) 6 ck1)
  h8 : w.cell? ⟨g, 8, none⟩ = some (.slice (some k2) 36 ck2)
  ra0 : ∀ x, x < xs.length → w.cell? (a0.add x) = some (.int .i64 (Tr.xa xs x))
  ra1 : ∀ x, x < xs.length → w.cell? (a1.add x) = some (.int .i64 (Tr.la xs x))
  rb0 : ∀ y, y < ys.length → w.cell? (b0.add y) = some (.int .i64 (Tr.xa ys y))
  rb1 : ∀ y, y < ys.length → w.cell? (b1.add y) = some (.int .i64 (Tr.la ys y))
  rk0 : ∀ u, u < 6 → w.cell? (k0.add u) = some (.int .i64 (Zs.at k.d u))
  rk1 : ∀ u, u < 6 → w.cell? (k1.add u) = some (.int .i64 (Zs.at k.i u))
  rk2 : ∀ u, u < 36 → w.cell? (k2.add u) = some (.int .i64 (Zs.at k.r u))
section
variable {g : Nat} {a0 a1 b0 b1 k0 k1 k2 : Addr} {ca0 ca1 cb0 cb1 ck0 ck1 ck2 : Nat} {xs ys : Tr} {k : Co} {w w' : World}
/-- the labels, as they are read -/
theorem SD.la0 (h : SD g a0 a1 b0 b1 k0 k1 k2 ca0 ca1 cb0 cb1 ck0 ck1 ck2 xs ys k w) (hx : Tr.ok xs = true) {x : Nat} (hxl : x < xs.length) : ∃ u : Nat, u < 6 ∧ Tr.xa xs x = (u : Int) ∧ w.cell? (a0.add x) = some (.int .i64 (u : Int)) := by
  obtain ⟨u, hu, e⟩ := Tr.xa_lab hx hxl
  exact ⟨u, hu, e, by rw [h.ra0 x hxl, e]⟩
theorem SD.lb0 (h : SD g a0 a1 b0 b1 k0 k1 k2 ca0 ca1 cb0 cb1 ck0 ck1 ck2 xs ys k w) (hy : Tr.ok ys = true) {y : Nat} (hyl : y < ys.length) : ∃ u : Nat, u < 6 ∧ Tr.xa ys y = (u : Int) ∧ w.cell? (b0.add y) = some (.int .i64 (u : Int)) := by
  obtain ⟨u, hu, e⟩ := Tr.xa_lab hy hyl
  exact ⟨u, hu, e, by rw [h.rb0 y hyl, e]⟩
theorem SD.drawn (h : SD g a0 a1 b0 b1 k0 k1 k2 ca0 ca1 cb0 cb1 ck0 ck1 ck2 xs ys k w) (hd : Drawn w w') : SD g a0 a1 b0 b1 k0 k1 k2 ca0 ca1 cb0 cb1 ck0 ck1 ck2 xs ys k w' := by obtain ⟨m, rfl⟩ := hd; exact ⟨h.h0, h.h1, h.h3, h.h4, h.h6, h.h7, h.h8, h.ra0, h.ra1, h.rb0, h.rb1, h.rk0, h.rk1, h.rk2⟩
end
set_option maxHeartbeats 800000 in
set_option maxRecDepth 100000 in
theorem sidesDel_any (g : Nat) (a0 a1 b0 b1 k0 k1 k2 : Addr) (ca0 ca1 cb0 cb1 ck0 ck1 ck2 : Nat) (xs ys : Tr) (k : Co) (w : World) (h : SD g a0 a1 b0 b1 k0 k1 k2 ca0 ca1 cb0 cb1 ck0 ck1 ck2 xs ys k w) (hx : Tr.ok xs = true) (hk : Co.ok k = true) (x : Nat) (hxl : x < xs.length) :
    Calls Try.prog 152 #[.pointer (some ⟨g, 0, none⟩), .int .i64 x] w fun e w' => e = .returned (.int .i64 (Co.del k (Tr.xa xs x))) ∧ Drawn w w' := by
  obtain ⟨u, hu, e, c1⟩ := h.la0 hx hxl
  have c2 := h.rk0 u hu
  have Hv := Lib.hid (show Co.del k (Tr.xa xs x) = Zs.at k.d u by rw [e]; exact Co.del_at hk hu)
  have c3 := h.h0
  have c4 := h.h6
  have b1 : (0 : Int) ≤ (x : Int) := by omega
  have b2 : (x : Int) < (xs.length : Int) := by omega
  have b3 : (0 : Int) ≤ (u : Int) := by omega
  have b4 : (u : Int) < 6 := by omega
  clear h e hx hk
  go_enter Try.func152, Try.ntmps152
  go_wp2_with fail
  go_quiet (fail)
  go_wp2
  go_ret
  exact ⟨Kit.ret_int Hv.out.symm, (Drawn.refl _).drewN _⟩
set_option maxHeartbeats 800000 in
set_option maxRecDepth 100000 in
theorem sidesIns_any (g : Nat) (a0 a1 b0 b1 k0 k1 k2 : Addr) (ca0 ca1 cb0 cb1 ck0 ck1 ck2 : Nat) (xs ys : Tr) (k : Co) (w : World) (h : SD g a0 a1 b0 b1 k0 k1 k2 ca0 ca1 cb0 cb1 ck0 ck1 ck2 xs ys k w) (hy : Tr.ok ys = true) (hk : Co.ok k = true) (y : Nat) (hyl : y < ys.length) :
    Calls Try.prog 153 #[.pointer (some ⟨g, 0, none⟩), .int .i64 y] w fun e w' => e = .returned (.int .i64 (Co.ins k (Tr.xa ys y))) ∧ Drawn w w' := by
  obtain ⟨u, hu, e, c1⟩ := h.lb0 hy hyl
  have c2 := h.rk1 u hu
  have Hv := Lib.hid (show Co.ins k (Tr.xa ys y) = Zs.at k.i u by rw [e]; exact Co.ins_at hk hu)
  have c3 := h.h3
  have c4 := h.h7
  have b1 : (0 : Int) ≤ (y : Int) := by omega
  have b2 : (y : Int) < (ys.length : Int) := by omega
  have b3 : (0 : Int) ≤ (u : Int) := by omega
  have b4 : (u : Int) < 6 := by omega
  clear h e hy hk
  go_enter Try.func153, Try.ntmps153
  go_wp2_with fail
  go_quiet (fail)
  go_wp2
  go_ret
  exact ⟨Kit.ret_int Hv.out.symm, (Drawn.refl _).drewN _⟩
set_option maxHeartbeats 800000 in
set_option maxRecDepth 100000 in
theorem sidesRel_any (g : Nat) (a0 a1 b0 b1 k0 k1 k2 : Addr) (ca0 ca1 cb0 cb1 ck0 ck1 ck2 : Nat) (xs ys : Tr) (k : Co) (w : World) (h : SD g a0 a1 b0 b1 k0 k1 k2 ca0 ca1 cb0 cb1 ck0 ck1 ck2 xs ys k w) (hx : Tr.ok xs = true) (hy : Tr.ok ys = true) (hk : Co.ok k = true) (x y : Nat) (hxl : x < xs.length) (hyl : y < ys.length) :
    Calls Try.prog 61 #[.pointer (some ⟨g, 0, none⟩), .int .i64 x, .int .i64 y] w fun e w' => e = .returned (.int .i64 (Co.rel k (Tr.xa xs x) (Tr.xa ys y))) ∧ Drawn w w' := by
  obtain ⟨u, hu, e, c1⟩ := h.la0 hx hxl
  obtain ⟨v, hv, e', c1'⟩ := h.lb0 hy hyl
  obtain ⟨p, hp⟩ : ∃ p, p = u * 6 + v := ⟨_, rfl⟩
  have c2 := h.rk2 p (by omega)
  have Hv := Lib.hid (show Co.rel k (Tr.xa xs x) (Tr.xa ys y) = Zs.at k.r p by rw [e, e', hp]; exact Co.rel_at hk hu hv)
  have c3 := h.h0
  have c4 := h.h3
  have c5 := h.h8
  have a3 : (u : Int) * 6 + (v : Int) = (p : Int) := by omega
  have b1 : (0 : Int) ≤ (x : Int) := by omega
  have b2 : (x : Int) < (xs.length : Int) := by omega
  have b3 : (0 : Int) ≤ (p : Int) := by omega
  have b4 : (p : Int) < 36 := by omega
  have b5 : (0 : Int) ≤ (y : Int) := by omega
  have b6 : (y : Int) < (ys.length : Int) := by omega
  clear h e e' hx hy hk hp
  go_enter Try.func61, Try.ntmps61
  go_wp2_with fail
  go_quiet (first | (go_at_call 59; exact quiet_same ((relIndex_any _ _ _ (by omega) (by omega) (by omega) (by omega)).mono fun e w' ⟨h1, h2⟩ => ⟨by rw [h1, a3], h2⟩)))
  go_wp2
  go_ret
  exact ⟨Kit.ret_int Hv.out.symm, (Drawn.refl _).drewN _⟩

section
variable {B : Nat} {D : DtD} {xs ys : Tr} {k : Co} {F : Nat → Nat → Int} {T : List Int} {w : World}
theorem DT.sd (h : DT B D xs ys k F T w) (hx : Tr.ok xs = true) (hy : Tr.ok ys = true) : SD D.g D.a0 D.a1 D.b0 D.b1 D.k0 D.k1 D.k2 D.ca0 D.ca1 D.cb0 D.cb1 D.ck0 D.ck1 D.ck2 xs ys k w :=
  ⟨h.h0, h.h1, h.h3, h.h4, h.h6, h.h7, h.h8, h.ra0.at_, fun x hl => (h.ra1.at_ x hl).trans (by rw [Tr.la_up hx hl]), h.rb0.at_, fun y hl => (h.rb1.at_ y hl).trans (by rw [Tr.la_up hy hl]), h.rk0.at_, h.rk1.at_, h.rk2.at_⟩
theorem DT.la0 (h : DT B D xs ys k F T w) (hx : Tr.ok xs = true) {x : Nat} (hxl : x < xs.length) : ∃ u : Nat, u < 6 ∧ Tr.xa xs x = (u : Int) ∧ w.cell? (D.a0.add x) = some (.int .i64 (u : Int)) := by
  obtain ⟨u, hu, e⟩ := Tr.xa_lab hx hxl
  have := h.ra0.at_ x hxl
  exact ⟨u, hu, e, by rw [this, ← e]; rfl⟩
theorem DT.lb0 (h : DT B D xs ys k F T w) (hy : Tr.ok ys = true) {y : Nat} (hyl : y < ys.length) : ∃ u : Nat, u < 6 ∧ Tr.xa ys y = (u : Int) ∧ w.cell? (D.b0.add y) = some (.int .i64 (u : Int)) := by
  obtain ⟨u, hu, e⟩ := Tr.xa_lab hy hyl
  have := h.rb0.at_ y hyl
  exact ⟨u, hu, e, by rw [this, ← e]; rfl⟩
end
theorem distDel_any (B : Nat) (D : DtD) (xs ys : Tr) (k : Co) (F : Nat → Nat → Int) (T : List Int) (w : World) (h : DT B D xs ys k F T w) (hx : Tr.ok xs = true) (hy : Tr.ok ys = true) (hk : Co.ok k = true) (x : Nat) (hxl : x < xs.length) :
    Calls Try.prog 152 #[.pointer (some ⟨D.g, 0, none⟩), .int .i64 x] w fun e w' => e = .returned (.int .i64 (Co.del k (Tr.xa xs x))) ∧ Drawn w w' := sidesDel_any _ _ _ _ _ _ _ _ _ _ _ _ _ _ _ _ _ _ _ (h.sd hx hy) hx hk x hxl
theorem distIns_any (B : Nat) (D : DtD) (xs ys : Tr) (k : Co) (F : Nat → Nat → Int) (T : List Int) (w : World) (h : DT B D xs ys k F T w) (hx : Tr.ok xs = true) (hy : Tr.ok ys = true) (hk : Co.ok k = true) (y : Nat) (hyl : y < ys.length) :
    Calls Try.prog 153 #[.pointer (some ⟨D.g, 0, none⟩), .int .i64 y] w fun e w' => e = .returned (.int .i64 (Co.ins k (Tr.xa ys y))) ∧ Drawn w w' := sidesIns_any _ _ _ _ _ _ _ _ _ _ _ _ _ _ _ _ _ _ _ (h.sd hx hy) hy hk y hyl
theorem distRel_any (B : Nat) (D : DtD) (xs ys : Tr) (k : Co) (F : Nat → Nat → Int) (T : List Int) (w : World) (h : DT B D xs ys k F T w) (hx : Tr.ok xs = true) (hy : Tr.ok ys = true) (hk : Co.ok k = true) (x y : Nat) (hxl : x < xs.length) (hyl : y < ys.length) :
    Calls Try.prog 61 #[.pointer (some ⟨D.g, 0, none⟩), .int .i64 x, .int .i64 y] w fun e w' => e = .returned (.int .i64 (Co.rel k (Tr.xa xs x) (Tr.xa ys y))) ∧ Drawn w w' := sidesRel_any _ _ _ _ _ _ _ _ _ _ _ _ _ _ _ _ _ _ _ (h.sd hx hy) hx hy hk x y hxl hyl

end Go.Proofs.Ytgkkeejhfofcaaa

/- Contracts (Add). -/
namespace Go.Proofs.Ytgkkeejhfofcaaa
open Go.RowKit
set_option linter.unusedVariables false

/-- the table in a region that ends with a store into the trees -/
def DTo (B : Nat) (D : DtD) (xs ys : Tr) (k : Co) (F : Nat → Nat → Int) (T : List Int) (u : Nat) (v : Int) (w0 wq : World) : Prop :=
  (DT B D xs ys k F T wq ∨ DT B D xs ys k F (T.set u v) wq) ∧ Below B w0 wq
section
variable {B : Nat} {D : DtD} {xs ys : Tr} {k : Co} {F : Nat → Nat → Int} {T : List Int} {n : Nat} {v : Int} {w0 wx wq : World} {u c : Option Value} {q : Addr}
theorem dto_keep (hS : wx.cell? ⟨D.g, 9, none⟩ = u ∧ wx.cell? q = c ∧ DTo B D xs ys k F T n v w0 wx) (hd : Drawn wx wq) :
    wq.cell? ⟨D.g, 9, none⟩ = u ∧ wq.cell? q = c ∧ DTo B D xs ys k F T n v w0 wq := by
  obtain ⟨h1, h2, h3, h4⟩ := hS
  exact ⟨by rw [hd.cell]; exact h1, by rw [hd.cell]; exact h2, h3.imp (fun h => h.drawn hd) (fun h => h.drawn hd), hd.below h4⟩
theorem dto_rel (hS : wx.cell? ⟨D.g, 9, none⟩ = u ∧ wx.cell? q = c ∧ DTo B D xs ys k F T n v w0 wx) (hx : Tr.ok xs = true) (hy : Tr.ok ys = true) (hk : Co.ok k = true) (x y : Nat) (hxl : x < xs.length) (hyl : y < ys.length) :
    Calls Try.prog 61 #[.pointer (some ⟨D.g, 0, none⟩), .int .i64 x, .int .i64 y] wx fun e w' => e = .returned (.int .i64 (Co.rel k (Tr.xa xs x) (Tr.xa ys y))) ∧ Drawn wx w' := by
  obtain ⟨_, _, h3, _⟩ := hS
  rcases h3 with h | h
  · exact distRel_any _ _ _ _ _ _ _ _ h hx hy hk x y hxl hyl
  · exact distRel_any _ _ _ _ _ _ _ _ h hx hy hk x y hxl hyl
theorem dto_cell (hS : wx.cell? ⟨D.g, 9, none⟩ = u ∧ wx.cell? q = c ∧ DTo B D xs ys k F T n v w0 wx) (hn : n < T.length) : ∃ z, wx.cell? ⟨D.gt, n, none⟩ = some (.int .i64 z) ∧ wx.frozen? ⟨D.gt, n, none⟩ = false := by
  obtain ⟨_, _, h3, _⟩ := hS
  rcases h3 with h | h
  · exact ⟨_, own_int h.row (k := n) hn, h.row.frozenAt n⟩
  · exact ⟨_, own_int h.row (k := n) (by rw [List.length_set]; exact hn), h.row.frozenAt n⟩
theorem dto_store (hS : wx.cell? ⟨D.g, 9, none⟩ = u ∧ wx.cell? q = c ∧ DTo B D xs ys k F T n v w0 wx) (hq : q.block = D.g) :
    (wx.setCell ⟨D.gt, n, none⟩ (.int .i64 v)).cell? ⟨D.g, 9, none⟩ = u ∧ (wx.setCell ⟨D.gt, n, none⟩ (.int .i64 v)).cell? q = c ∧ DTo B D xs ys k F T n v w0 (wx.setCell ⟨D.gt, n, none⟩ (.int .i64 v)) := by
  obtain ⟨h1, h2, h3, h4⟩ := hS
  have hg : D.gt ≠ D.g := by rcases h3 with h | h <;> exact h.gg
  have hB : B ≤ D.gt := by rcases h3 with h | h <;> exact h.tB.1
  refine ⟨?_, ?_, .inr ?_, h4.setCell hB _⟩
  · rw [World.cell?_setCell_other _ _ _ _ (fun e => by injection e with e1 e2; exact hg e1)]; exact h1
  · rw [World.cell?_setCell_other _ _ _ _ (fun e => by rw [← e] at hq; exact hg hq)]; exact h2
  · rcases h3 with h | h
    · exact h.setT n v
    · have := h.setT n v
      rw [List.set_set] at this
      exact this
end
set_option maxHeartbeats 1600000 in
set_option maxRecDepth 100000 in
theorem distAdd_first (B : Nat) (D : DtD) (xs ys : Tr) (k : Co) (F : Nat → Nat → Int) (T : List Int) (w : World) (h : DT B D xs ys k F T w) (hx : Tr.ok xs = true) (hy : Tr.ok ys = true) (hk : Co.ok k = true)
    (p q x y : Nat) (hxl : x < xs.length) (hyl : y < ys.length) (hp : Tr.la xs x = p) (hq : Tr.la ys y = q) (v : Int)
    (hv : v = min (min (F x (y + 1) + Co.del k (Tr.xa xs x)) (F (x + 1) y + Co.ins k (Tr.xa ys y))) (F x y + Co.rel k (Tr.xa xs x) (Tr.xa ys y)))
    (f1 : 0 ≤ F x (y + 1) ∧ F x (y + 1) ≤ 1000000) (f2 : 0 ≤ F (x + 1) y ∧ F (x + 1) y ≤ 1000000) (f3 : 0 ≤ F x y ∧ F x y ≤ 1000000) :
    Calls Try.prog 154 #[.pointer (some ⟨D.g, 0, none⟩), .int .i64 p, .int .i64 q, .int .i64 x, .int .i64 y] w fun e w' => e = .returned (.tuple #[]) ∧ DT B D xs ys k (updF F (x + 1) (y + 1) v) (T.set (x * ys.length + y) v) w' ∧ Below B w w' := by
  obtain ⟨lx, lx'⟩ := Tr.len24 hx
  obtain ⟨ly, ly'⟩ := Tr.len24 hy
  have g1 := h.fr x (y + 1) (by omega) (by omega)
  have g2 := h.fr (x + 1) y (by omega) (by omega)
  have g3 := h.fr x y (by omega) (by omega)
  have H := Lib.hid h
  have HX := Lib.hid hx
  have HY := Lib.hid hy
  have HK := Lib.hid hk
  have Hv := Lib.hid hv
  have n1 := (Co.nonneg' k).1 (Tr.xa xs x)
  have n2 := (Co.nonneg' k).2.1 (Tr.xa ys y)
  have n3 := (Co.nonneg' k).2.2 (Tr.xa xs x) (Tr.xa ys y)
  obtain ⟨u0, hu0⟩ : ∃ u0, u0 = x * ys.length := ⟨_, rfl⟩
  have hu1 : u0 ≤ 576 := by rw [hu0]; exact Nat.mul_le_mul (show x ≤ 24 by omega) ly'
  have hu2 := idx_lt hxl hyl
  rw [← hu0] at hu2 ⊢
  obtain ⟨t0, ht0⟩ : ∃ t0, t0 = u0 + y := ⟨_, rfl⟩
  rw [← ht0] at hu2 ⊢
  have hadd : (u0 : Int) + (y : Int) = (t0 : Int) := by omega
  obtain ⟨nm, hnm⟩ : ∃ nm, nm = xs.length * ys.length := ⟨_, rfl⟩
  have hmul : (x : Int) * (ys.length : Int) = (u0 : Int) := by rw [hu0, Int.natCast_mul]
  have a3 : IntKind.i64.wrap ((x : Int) * (ys.length : Int)) = (u0 : Int) := by rw [hmul, Kit.w64 (by omega) (by omega)]
  have c9 := h.h9
  have f9 := h.row.frozenAt t0
  have t9 := own_int h.row (k := t0) (by rw [h.tlen]; exact hu2)
  rw [← hnm] at c9 hu2
  have c1 := h.h1
  have c3 := h.h3
  have c4 := h.h4
  have l1 := (h.ra1.at_ x hxl).trans (by rw [Tr.la_up hx hxl, hp])
  have l2 := (h.rb1.at_ y hyl).trans (by rw [Tr.la_up hy hyl, hq])
  have e1 : ((p : Int) == (p : Int)) = true := by simp
  have e2 : ((q : Int) == (q : Int)) = true := by simp
  have a1 : IntKind.i64.wrap ((x : Int) + 1) = ((x + 1 : Nat) : Int) := by rw [Kit.w64 (by omega) (by omega)]; omega
  have a2 : IntKind.i64.wrap ((y : Int) + 1) = ((y + 1 : Nat) : Int) := by rw [Kit.w64 (by omega) (by omega)]; omega
  have b1 : (0 : Int) ≤ (x : Int) := by omega
  have b2 : (x : Int) < 25 := by omega
  have b3 : (0 : Int) ≤ (y : Int) := by omega
  have b4 : (y : Int) < 25 := by omega
  have b5 : (0 : Int) ≤ ((x + 1 : Nat) : Int) := by omega
  have b6 : ((x + 1 : Nat) : Int) < 25 := by omega
  have b7 : (0 : Int) ≤ ((y + 1 : Nat) : Int) := by omega
  have d1 : (0 : Int) ≤ (t0 : Int) := by omega
  have d2 : (t0 : Int) < (nm : Int) := by omega
  have d3 : (x : Int) < (xs.length : Int) := by omega
  have d4 : (y : Int) < (ys.length : Int) := by omega
  have b8 : ((y + 1 : Nat) : Int) < 25 := by omega
  have HU0 := Lib.hid hu0
  have HT0 := Lib.hid ht0
  have HADD := Lib.hid hadd
  have HNM := Lib.hid hnm
  clear h hx hy hk hv ht0 hadd hu0 hnm hmul hp hq
  go_enter Try.func154, Try.ntmps154
  go_wp2_with fail
  go_quiet (first | (go_at_call 152; exact quiet_drawn (distDel_any _ _ _ _ _ _ _ _ (H.out.drawn ((Drawn.refl _).drewN _)) HX.out HY.out HK.out x hxl)) | (go_at_call 153; exact quiet_drawn (distIns_any _ _ _ _ _ _ _ _ (H.out.drawn ((Drawn.refl _).drewN _)) HX.out HY.out HK.out y hyl)))
  rw [min_if]
  obtain ⟨m0, hm0⟩ : ∃ m0, m0 = min (F x (y + 1) + Co.del k (Tr.xa xs x)) (F (x + 1) y + Co.ins k (Tr.xa ys y)) := ⟨_, rfl⟩
  rw [← hm0]
  rw [← hm0] at Hv
  have HM0 := Lib.hid hm0
  clear hm0
  go_wp2_with fail
  rw [HADD.out]
  go_quiet (fail)
  go_wp2_with fail
  generalize hw1 : World.drewN w _ = w1
  have hd1 : Drawn w w1 := ⟨_, hw1.symm⟩
  have H1 := Lib.hid (H.out.drawn hd1)
  have HD1 := Lib.hid hd1
  have g3' := (hd1.cell _).trans g3
  have c9' := (hd1.cell _).trans c9
  clear g1 g2 g3 c9 f9 t9 c1 c3 c4 l1 l2 hw1 hd1
  have HTL := Lib.hid (show t0 < T.length by rw [H.out.tlen, ← HNM.out]; exact hu2)
  have Hvv := Lib.hid (show (if IntKind.i64.wrap (F x y + Co.rel k (Tr.xa xs x) (Tr.xa ys y)) < m0 then IntKind.i64.wrap (F x y + Co.rel k (Tr.xa xs x) (Tr.xa ys y)) else m0) = v by rw [Kit.w64 (by omega) (by omega), min_if, Hv.out])
  have S0 := Lib.hid (show w1.drew.cell? ⟨D.g, 9, none⟩ = some (.slice (some ⟨D.gt, 0, none⟩) nm nm) ∧ w1.drew.cell? ⟨D.g, 10 + x * 25 + y, none⟩ = some (.int .i64 (F x y)) ∧ DTo B D xs ys k F T t0 v w1 w1.drew from ⟨c9', g3', .inl (H1.out.drawn (Drawn.refl _).drew), (Drawn.refl _).drew.toBelow⟩)
  go_region_held3 (fun wq => wq.cell? ⟨D.g, 9, none⟩ = some (.slice (some ⟨D.gt, 0, none⟩) nm nm) ∧ wq.cell? ⟨D.g, 10 + x * 25 + y, none⟩ = some (.int .i64 (F x y)) ∧ DTo B D xs ys k F T t0 v w1 wq) (first | exact S0.out | (refine dto_keep ?_ hd; assumption) | (rw [Hvv.out]; exact dto_store (dto_keep (by assumption) hd) rfl)) (first | (go_at_call 61; refine (dto_rel (by assumption) HX.out HY.out HK.out x y hxl hyl).mono ?_; rintro e w5 ⟨rfl, hd⟩; obtain ⟨z5, tc5, tf5⟩ := dto_cell (dto_keep (by assumption) hd) HTL.out))
  rw [Hvv.out]
  obtain ⟨w6, hw6⟩ : ∃ w6, w6 = w5.setCell ⟨D.gt, t0, none⟩ (.int .i64 v) := ⟨_, rfl⟩
  have h6 : DT B D xs ys k F (T.set t0 v) w6 := by rw [hw6]; exact (H1.out.drawn ((Drawn.refl _).drew.trans hd)).setT t0 v
  have hb6 : Below B w w6 := by rw [hw6]; exact ((HD1.out.trans ((Drawn.refl _).drew.trans hd)).toBelow).setCell h6.tB.1 _
  rw [← hw6]
  have c9 := h6.h9
  have t9 := own_int h6.row (k := t0) (by rw [List.length_set]; exact HTL.out)
  have f9 := h6.fr (x + 1) (y + 1) (by omega) (by omega)
  have z9 := h6.fz (10 + (x + 1) * 25 + (y + 1))
  rw [Zs.at_set HTL.out, if_pos rfl] at t9
  rw [← HNM.out] at c9
  have H6 := Lib.hid h6
  have HB6 := Lib.hid hb6
  clear h6 hb6 hw6 g3' c9' tc5 tf5 hd
  go_wp2_with fail
  have s1 : (0 : Int) ≤ (x : Int) + 1 := by omega
  have s2 : (x : Int) + 1 < 25 := by omega
  have s3 : (0 : Int) ≤ (y : Int) + 1 := by omega
  have s4 : (y : Int) + 1 < 25 := by omega
  go_still_tail 16, (by kernel_rfl)
  change wpList _ _ _ _ _ w6.drew
  go_wp2
  (try simp only [Exit.inBlock, Exit.then])
  refine bodyPost_ret (results_none rfl _ _ _) rfl ?_
  exact ⟨rfl, (H6.out.drawn (Drawn.refl _).drew).setF (by omega) (by omega) v, (Drawn.below HB6.out (Drawn.refl _).drew).setCell H6.out.gB _⟩

end Go.Proofs.Ytgkkeejhfofcaaa

/- Contracts (AddO). -/
namespace Go.Proofs.Ytgkkeejhfofcaaa
open Go.RowKit
set_option linter.unusedVariables false

set_option maxHeartbeats 1600000 in
set_option maxRecDepth 100000 in
theorem distAdd_left (B : Nat) (D : DtD) (xs ys : Tr) (k : Co) (F : Nat → Nat → Int) (T : List Int) (w : World) (h : DT B D xs ys k F T w) (hx : Tr.ok xs = true) (hy : Tr.ok ys = true) (hk : Co.ok k = true)
    (p q x y : Nat) (hxl : x < xs.length) (hyl : y < ys.length) (l r : Nat) (hp : Tr.la xs x = l) (hq : Tr.la ys y = r) (hne : l ≠ p) (v : Int)
    (hv : v = min (min (F x (y + 1) + Co.del k (Tr.xa xs x)) (F (x + 1) y + Co.ins k (Tr.xa ys y))) (F l r + Zs.at T (x * ys.length + y)))
    (f0 : 0 ≤ Zs.at T (x * ys.length + y) ∧ Zs.at T (x * ys.length + y) ≤ 1000000) (f1 : 0 ≤ F x (y + 1) ∧ F x (y + 1) ≤ 1000000) (f2 : 0 ≤ F (x + 1) y ∧ F (x + 1) y ≤ 1000000) (f3 : 0 ≤ F l r ∧ F l r ≤ 1000000) :
    Calls Try.prog 154 #[.pointer (some ⟨D.g, 0, none⟩), .int .i64 p, .int .i64 q, .int .i64 x, .int .i64 y] w fun e w' => e = .returned (.tuple #[]) ∧ DT B D xs ys k (updF F (x + 1) (y + 1) v) T w' ∧ Below B w w' := by
  obtain ⟨lx, lx'⟩ := Tr.len24 hx
  obtain ⟨ly, ly'⟩ := Tr.len24 hy
  have g1 := h.fr x (y + 1) (by omega) (by omega)
  have g2 := h.fr (x + 1) y (by omega) (by omega)
  have hlx : l ≤ x := by rw [← hp]; exact (Tr.la_nest hx x hxl).1
  have hry : r ≤ y := by rw [← hq]; exact (Tr.la_nest hy y hyl).1
  have g3 := h.fr l r (by omega) (by omega)
  have H := Lib.hid h
  have HX := Lib.hid hx
  have HY := Lib.hid hy
  have HK := Lib.hid hk
  have n1 := (Co.nonneg' k).1 (Tr.xa xs x)
  have n2 := (Co.nonneg' k).2.1 (Tr.xa ys y)
  obtain ⟨u0, hu0⟩ : ∃ u0, u0 = x * ys.length := ⟨_, rfl⟩
  have hu1 : u0 ≤ 576 := by rw [hu0]; exact Nat.mul_le_mul (show x ≤ 24 by omega) ly'
  have hu2 := idx_lt hxl hyl
  rw [← hu0] at hu2 f0 hv
  obtain ⟨t0, ht0⟩ : ∃ t0, t0 = u0 + y := ⟨_, rfl⟩
  rw [← ht0] at hu2 f0 hv
  have hadd : (u0 : Int) + (y : Int) = (t0 : Int) := by omega
  obtain ⟨nm, hnm⟩ : ∃ nm, nm = xs.length * ys.length := ⟨_, rfl⟩
  have hmul : (x : Int) * (ys.length : Int) = (u0 : Int) := by rw [hu0, Int.natCast_mul]
  have a3 : IntKind.i64.wrap ((x : Int) * (ys.length : Int)) = (u0 : Int) := by rw [hmul, Kit.w64 (by omega) (by omega)]
  have c9 := h.h9
  have f9 := h.row.frozenAt t0
  have t9 := own_int h.row (k := t0) (by rw [h.tlen]; exact hu2)
  rw [← hnm] at c9 hu2
  have c1 := h.h1
  have c3 := h.h3
  have c4 := h.h4
  have l1 := (h.ra1.at_ x hxl).trans (by rw [Tr.la_up hx hxl, hp])
  have l2 := (h.rb1.at_ y hyl).trans (by rw [Tr.la_up hy hyl, hq])
  have e1 : ((l : Int) == (p : Int)) = false := by simp; omega
  have a1 : IntKind.i64.wrap ((x : Int) + 1) = ((x + 1 : Nat) : Int) := by rw [Kit.w64 (by omega) (by omega)]; omega
  have a2 : IntKind.i64.wrap ((y : Int) + 1) = ((y + 1 : Nat) : Int) := by rw [Kit.w64 (by omega) (by omega)]; omega
  have b1 : (0 : Int) ≤ (x : Int) := by omega
  have b2 : (x : Int) < 25 := by omega
  have b3 : (0 : Int) ≤ (y : Int) := by omega
  have b4 : (y : Int) < 25 := by omega
  have b5 : (0 : Int) ≤ ((x + 1 : Nat) : Int) := by omega
  have b6 : ((x + 1 : Nat) : Int) < 25 := by omega
  have b7 : (0 : Int) ≤ ((y + 1 : Nat) : Int) := by omega
  have d1 : (0 : Int) ≤ (t0 : Int) := by omega
  have d2 : (t0 : Int) < (nm : Int) := by omega
  have k1 : (0 : Int) ≤ (l : Int) := by omega
  have k2 : (l : Int) < 25 := by omega
  have k3 : (0 : Int) ≤ (r : Int) := by omega
  have k4 : (r : Int) < 25 := by omega
  have d3 : (x : Int) < (xs.length : Int) := by omega
  have d4 : (y : Int) < (ys.length : Int) := by omega
  have b8 : ((y + 1 : Nat) : Int) < 25 := by omega
  have Hv := Lib.hid hv
  have HU0 := Lib.hid hu0
  have HT0 := Lib.hid ht0
  have HADD := Lib.hid hadd
  have HNM := Lib.hid hnm
  clear h hx hy hk hv ht0 hadd hu0 hnm hmul hp hq
  go_enter Try.func154, Try.ntmps154
  go_wp2_with fail
  go_quiet (first | (go_at_call 152; exact quiet_drawn (distDel_any _ _ _ _ _ _ _ _ (H.out.drawn ((Drawn.refl _).drewN _)) HX.out HY.out HK.out x hxl)) | (go_at_call 153; exact quiet_drawn (distIns_any _ _ _ _ _ _ _ _ (H.out.drawn ((Drawn.refl _).drewN _)) HX.out HY.out HK.out y hyl)))
  rw [min_if]
  obtain ⟨m0, hm0⟩ : ∃ m0, m0 = min (F x (y + 1) + Co.del k (Tr.xa xs x)) (F (x + 1) y + Co.ins k (Tr.xa ys y)) := ⟨_, rfl⟩
  rw [← hm0]
  rw [← hm0] at Hv
  have HM0 := Lib.hid hm0
  clear hm0
  go_wp2_with fail
  rw [HADD.out]
  go_quiet (fail)
  go_wp2_with fail
  generalize hw1 : World.drewN w _ = w1
  have hd1 : Drawn w w1 := ⟨_, hw1.symm⟩
  have H1 := Lib.hid (H.out.drawn hd1)
  have HD1 := Lib.hid hd1
  have g3' := (hd1.cell _).trans g3
  have c9' := (hd1.cell _).trans c9
  have t9' := (hd1.cell _).trans t9
  have f9' := H1.out.fr (x + 1) (y + 1) (by omega) (by omega)
  have z9 := H1.out.fz (10 + (x + 1) * 25 + (y + 1))
  clear g1 g2 g3 c9 f9 t9 c1 c3 c4 l1 l2 hw1 hd1
  have s1 : (0 : Int) ≤ (x : Int) + 1 := by omega
  have s2 : (x : Int) + 1 < 25 := by omega
  have s3 : (0 : Int) ≤ (y : Int) + 1 := by omega
  have s4 : (y : Int) + 1 < 25 := by omega
  go_still_tail 27, (by kernel_rfl)
  change wpList _ _ _ _ _ w1.drew
  go_wp2
  all_goals
    (try simp only [Exit.inBlock, Exit.then])
    refine bodyPost_end (results_none rfl _ _ _) rfl ?_
    have hv2 := Hv.out
    first | rw [show F l r + Zs.at T t0 = v by omega] | rw [show m0 = v by omega]
    exact ⟨rfl, (H1.out.drawn (Drawn.refl _).drew).setF (by omega) (by omega) v, ((HD1.out.trans (Drawn.refl _).drew).toBelow).setCell H1.out.gB _⟩

end Go.Proofs.Ytgkkeejhfofcaaa
