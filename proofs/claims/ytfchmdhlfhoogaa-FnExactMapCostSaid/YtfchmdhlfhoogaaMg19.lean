/- Texts of one claim laid into one file, in build order: ExSlow, Nn9, ScaM, ScaG. -/
import Derived.Test.YtfchmdhlfhoogaaMg18
/- Contracts (ExSlow). -/
namespace Go.Proofs.Ytfchmdhlfhoogaa
open Go.RowKit
set_option linter.unusedVariables false

set_option maxHeartbeats 400000 in
theorem fnSlow_walk (a : Option Addr) (n cap : Nat) (zs : List Int) (w : World) (hz : Kit.BytesIn w a n cap zs) :
    Calls Try.prog 3 #[.slice a n cap] w fun e w' => e = .returned (.bool true) ∧ Below w.heap.size w w' := by
  by_cases hb : (1048576 : Int) < n
  · clear hz
    go_enter Try.func3, Try.ntmps3
    go_wp2_with fail
    refine (big_big _ _ _ hb _).mono ?_
    rintro e w0 ⟨rfl, rfl⟩
    go_wp2
    go_ret
    exact ⟨rfl, Below.refl _ _⟩
  · obtain ⟨hl, hcode⟩ := code_of hz
    have h := slow_any ⟨a, zs.take n, cap⟩ w hcode (by simp only; omega)
    simp only [hl] at h
    exact h

end Go.Proofs.Ytfchmdhlfhoogaa

/- Contracts (Nn9). -/
namespace Go.Proofs.Ytfchmdhlfhoogaa
open Go.RowKit
set_option linter.unusedVariables false

section
variable {wa wx wy : World} {b0 b1 b2 : Nat} {v0 v1 v2 v3 v4 v5 v6 v7 v8 : Value}
theorem nn_below (h : ((wx.cell? ⟨b0, 0, none⟩ = some v0 ∧ wx.cell? ⟨b0, 1, none⟩ = some v1 ∧ wx.cell? ⟨b0, 2, none⟩ = some v2) ∧ (wx.cell? ⟨b1, 0, none⟩ = some v3 ∧ wx.cell? ⟨b1, 1, none⟩ = some v4 ∧ wx.cell? ⟨b1, 2, none⟩ = some v5) ∧ wx.cell? ⟨b2, 0, none⟩ = some v6 ∧ wx.cell? ⟨b2, 1, none⟩ = some v7 ∧ wx.cell? ⟨b2, 2, none⟩ = some v8) ∧ BelA wa wx) : Below wa.heap.size wa wx := h.2
theorem nn_keep (h : ((wx.cell? ⟨b0, 0, none⟩ = some v0 ∧ wx.cell? ⟨b0, 1, none⟩ = some v1 ∧ wx.cell? ⟨b0, 2, none⟩ = some v2) ∧ (wx.cell? ⟨b1, 0, none⟩ = some v3 ∧ wx.cell? ⟨b1, 1, none⟩ = some v4 ∧ wx.cell? ⟨b1, 2, none⟩ = some v5) ∧ wx.cell? ⟨b2, 0, none⟩ = some v6 ∧ wx.cell? ⟨b2, 1, none⟩ = some v7 ∧ wx.cell? ⟨b2, 2, none⟩ = some v8) ∧ BelA wa wx) (hb : Below wx.heap.size wx wy) : ((wy.cell? ⟨b0, 0, none⟩ = some v0 ∧ wy.cell? ⟨b0, 1, none⟩ = some v1 ∧ wy.cell? ⟨b0, 2, none⟩ = some v2) ∧ (wy.cell? ⟨b1, 0, none⟩ = some v3 ∧ wy.cell? ⟨b1, 1, none⟩ = some v4 ∧ wy.cell? ⟨b1, 2, none⟩ = some v5) ∧ wy.cell? ⟨b2, 0, none⟩ = some v6 ∧ wy.cell? ⟨b2, 1, none⟩ = some v7 ∧ wy.cell? ⟨b2, 2, none⟩ = some v8) ∧ BelA wa wy :=
  have c : ∀ {p : Addr} {v : Value}, wx.cell? p = some v → wy.cell? p = some v := fun hc => (hb.cell (World.block_lt_of_cell? _ _ hc)).trans hc
  ⟨⟨⟨c h.1.1.1, c h.1.1.2.1, c h.1.1.2.2⟩, ⟨c h.1.2.1.1, c h.1.2.1.2.1, c h.1.2.1.2.2⟩, c h.1.2.2.1, c h.1.2.2.2.1, c h.1.2.2.2.2⟩, h.2.trans (hb.mono h.2.size)⟩
end

end Go.Proofs.Ytfchmdhlfhoogaa

/- Contracts (ScaM). -/
namespace Go.Proofs.Ytfchmdhlfhoogaa
open Go.RowKit
set_option linter.unusedVariables false

def Co.three : Co := ⟨List.replicate 6 3, List.replicate 6 3, Co.unit.r.map (fun z => 3 * z)⟩
def Co.zero : Co := ⟨List.replicate 6 0, List.replicate 6 0, List.replicate 36 0⟩
/-- the first j elements are others -/
def Zs.mix (f : Int → Int) (zs : List Int) (j : Nat) : List Int := (zs.take j).map f ++ zs.drop j
theorem Zs.mix_zero (f : Int → Int) (zs : List Int) : Zs.mix f zs 0 = zs := by simp [Zs.mix]
theorem Zs.mix_all (f : Int → Int) (zs : List Int) : Zs.mix f zs zs.length = zs.map f := by simp [Zs.mix]
theorem Zs.mix_length (f : Int → Int) (zs : List Int) (j : Nat) : (Zs.mix f zs j).length = zs.length := by simp [Zs.mix]; omega
theorem Zs.mix_at (f : Int → Int) (zs : List Int) {j : Nat} (hj : j < zs.length) : Zs.at (Zs.mix f zs j) j = Zs.at zs j := by
  have h1 : (Zs.mix f zs j)[j]? = zs[j]? := by
    unfold Zs.mix
    rw [List.getElem?_append_right (by simp; omega)]
    simp [show j - min j zs.length = 0 by omega]
  unfold Zs.at
  rw [List.getD_eq_getElem?_getD, List.getD_eq_getElem?_getD, h1]
theorem Zs.mix_succ (f : Int → Int) (zs : List Int) {j : Nat} (hj : j < zs.length) : (Zs.mix f zs j).set j (f (Zs.at zs j)) = Zs.mix f zs (j + 1) := by
  unfold Zs.mix
  rw [List.set_append_right _ _ (by simp; omega)]
  rw [List.take_succ_eq_append_getElem hj, List.map_append, List.append_assoc]
  congr 1
  rw [show j - (List.map f (List.take j zs)).length = 0 by simp; omega]
  rw [show List.drop j zs = zs[j] :: List.drop (j + 1) zs from List.drop_eq_getElem_cons hj, show Zs.at zs j = zs[j] by simp [Zs.at, List.getD_eq_getElem?_getD, hj]]
  rfl
theorem Co.three_ok : Co.ok Co.three = true := by decide
theorem Co.zero_ok : Co.ok Co.zero = true := by decide
theorem Co.three_dels : ∀ u : Nat, u < 6 → Co.del Co.three u = 3 ∧ Co.ins Co.three u = 3 := by decide
theorem Co.three_rels : ∀ u : Nat, u < 6 → ∀ v : Nat, v < 6 → Co.rel Co.three u v = 3 * (if u = v then 0 else 1) := by decide
theorem Co.three_rel {a b : Int} (ha : OkL a) (hb : OkL b) : Co.rel Co.three a b = 3 * uc.rel a b := by
  obtain ⟨u, hu, rfl⟩ := ha
  obtain ⟨v, hv, rfl⟩ := hb
  rw [Co.three_rels u hu v hv]
  show _ = 3 * (if (u : Int) = (v : Int) then 0 else 1)
  by_cases e : u = v
  · rw [if_pos e, if_pos (by rw [e])]
  · rw [if_neg e, if_neg (by omega)]
theorem Tr.root_three {xs ys : Tr} (h1 : Tr.ok xs = true) (h2 : Tr.ok ys = true) : Tr.rootDist xs ys Co.three = 3 * Tr.rootDist xs ys Co.unit := by
  rw [Tr.rootDist_unit h1 h2, Tr.rootDist_yes h1 h2 Co.three_ok, Co.three_rel (Tr.root_lab h1) (Tr.root_lab h2)]
  rw [FD_congr (K := Co.cs Co.three) (K' := uc.times 3) (P := OkL) (fun a ha => by obtain ⟨u, hu, rfl⟩ := ha; exact (Co.three_dels u hu).1) (fun a ha => by obtain ⟨u, hu, rfl⟩ := ha; exact (Co.three_dels u hu).2) (fun a b ha hb => Co.three_rel ha hb) _ _ _ rfl (Tr.inner_all h1) (Tr.inner_all h2)]
  rw [FD_times3 uc _ _ _ rfl]
  omega
theorem Zs.at_zeros (n m : Nat) : Zs.at (List.replicate n 0) m = 0 := by
  unfold Zs.at
  rw [List.getD_eq_getElem?_getD, List.getElem?_replicate]
  split <;> rfl
theorem Co.zero_all : (∀ a, Co.del Co.zero a = 0) ∧ (∀ a, Co.ins Co.zero a = 0) ∧ ∀ a b, Co.rel Co.zero a b = 0 := by
  refine ⟨fun a => ?_, fun a => ?_, fun a b => ?_⟩
  · unfold Co.del; split; exact Zs.at_zeros 6 _; rfl
  · unfold Co.ins; split; exact Zs.at_zeros 6 _; rfl
  · unfold Co.rel; split; exact Zs.at_zeros 36 _; rfl
theorem Tr.root_zero {xs ys : Tr} (h1 : Tr.ok xs = true) (h2 : Tr.ok ys = true) : Tr.rootDist xs ys Co.zero = 0 := by
  rw [Tr.rootDist_yes h1 h2 Co.zero_ok, Co.zero_all.2.2, FD_zero (Co.cs_nonneg _) (fun a => Co.zero_all.1 a) (fun a => Co.zero_all.2.1 a)]
  rfl
theorem Co.unit_r_len : Co.unit.r.length = 36 := by decide
theorem Co.unit_r_bd : ∀ i : Nat, i < 36 → 0 ≤ Zs.at Co.unit.r i ∧ Zs.at Co.unit.r i ≤ 1 := by decide
theorem Co.three_is : (⟨(List.replicate 6 1).map (fun _ => 3), (List.replicate 6 1).map (fun _ => 3), Co.unit.r.map (fun z => 3 * z)⟩ : Co) = Co.three := rfl
theorem Co.zero_is : (⟨(List.replicate 6 1).map (fun _ => 0), (List.replicate 6 1).map (fun _ => 0), Co.unit.r.map (fun _ => 0)⟩ : Co) = Co.zero := rfl

end Go.Proofs.Ytfchmdhlfhoogaa

/- Contracts (ScaG). -/
namespace Go.Proofs.Ytfchmdhlfhoogaa
open Go.RowKit
set_option linter.unusedVariables false

/-- where six rows and two boxes lie -/
structure DSc where
  k0 : Nat
  ck0 : Nat
  k1 : Nat
  ck1 : Nat
  k2 : Nat
  ck2 : Nat
  z0 : Nat
  cz0 : Nat
  z1 : Nat
  cz1 : Nat
  z2 : Nat
  cz2 : Nat
  bk : Nat
  bz : Nat
structure ScG (B : Nat) (D : DSc) (Vk0 : List Int) (Vk1 : List Int) (Vk2 : List Int) (Vz0 : List Int) (Vz1 : List Int) (Vz2 : List Int) (w0 wr : World) : Prop where
  k0 : wr.ownsRow B 3 1 (.slice (some ⟨D.k0, 0, none⟩) 6 D.ck0) 6 (ints Vk0)
  k1 : wr.ownsRow B 3 1 (.slice (some ⟨D.k1, 0, none⟩) 6 D.ck1) 6 (ints Vk1)
  k2 : wr.ownsRow B 3 1 (.slice (some ⟨D.k2, 0, none⟩) 36 D.ck2) 36 (ints Vk2)
  z0 : wr.ownsRow B 3 1 (.slice (some ⟨D.z0, 0, none⟩) 6 D.cz0) 6 (ints Vz0)
  z1 : wr.ownsRow B 3 1 (.slice (some ⟨D.z1, 0, none⟩) 6 D.cz1) 6 (ints Vz1)
  z2 : wr.ownsRow B 3 1 (.slice (some ⟨D.z2, 0, none⟩) 36 D.cz2) 36 (ints Vz2)
  ap : D.k0 ≠ D.k1 ∧ D.k0 ≠ D.k2 ∧ D.k0 ≠ D.z0 ∧ D.k0 ≠ D.z1 ∧ D.k0 ≠ D.z2 ∧ D.k1 ≠ D.k2 ∧ D.k1 ≠ D.z0 ∧ D.k1 ≠ D.z1 ∧ D.k1 ≠ D.z2 ∧ D.k2 ≠ D.z0 ∧ D.k2 ≠ D.z1 ∧ D.k2 ≠ D.z2 ∧ D.z0 ≠ D.z1 ∧ D.z0 ≠ D.z2 ∧ D.z1 ≠ D.z2
  nb : D.k0 ≠ D.bk ∧ D.k0 ≠ D.bz ∧ D.k1 ≠ D.bk ∧ D.k1 ≠ D.bz ∧ D.k2 ≠ D.bk ∧ D.k2 ≠ D.bz ∧ D.z0 ≠ D.bk ∧ D.z0 ≠ D.bz ∧ D.z1 ≠ D.bk ∧ D.z1 ≠ D.bz ∧ D.z2 ≠ D.bk ∧ D.z2 ≠ D.bz
  bk : Box3 wr D.bk (.slice (some ⟨D.k0, 0, none⟩) 6 D.ck0) (.slice (some ⟨D.k1, 0, none⟩) 6 D.ck1) (.slice (some ⟨D.k2, 0, none⟩) 36 D.ck2)
  bz : Box3 wr D.bz (.slice (some ⟨D.z0, 0, none⟩) 6 D.cz0) (.slice (some ⟨D.z1, 0, none⟩) 6 D.cz1) (.slice (some ⟨D.z2, 0, none⟩) 36 D.cz2)
  lt : B ≤ D.k0 ∧ B ≤ D.k1 ∧ B ≤ D.k2 ∧ B ≤ D.z0 ∧ B ≤ D.z1 ∧ B ≤ D.z2
  bl : Below B w0 wr
section
variable {B : Nat} {D : DSc} {Vk0 Vk1 Vk2 Vz0 Vz1 Vz2 : List Int} {w0 wr w' : World}
theorem ScG.setk0 (h : ScG B D Vk0 Vk1 Vk2 Vz0 Vz1 Vz2 w0 wr) (i : Nat) (v : Int) : ScG B D (Vk0.set i v) Vk1 Vk2 Vz0 Vz1 Vz2 w0 (wr.setCell ⟨D.k0, i, none⟩ (.int .i64 v)) := by
  have cs : ∀ b o, D.k0 ≠ b → (wr.setCell ⟨D.k0, i, none⟩ (.int .i64 v)).cell? ⟨b, o, none⟩ = wr.cell? ⟨b, o, none⟩ := fun b o hn => World.cell?_setCell_other _ _ _ _ (fun e => hn (by injection e))
  exact ⟨by have := (h.k0.stored i (.int .i64 v)).1; rw [ints_set] at this; exact this, h.k1.kept (Kit.grown_set _ _ _ _) (.inr (fun e => by injection e with e; have e : D.k1 = D.k0 := e; exact h.ap.1 e.symm)), h.k2.kept (Kit.grown_set _ _ _ _) (.inr (fun e => by injection e with e; have e : D.k2 = D.k0 := e; exact h.ap.2.1 e.symm)), h.z0.kept (Kit.grown_set _ _ _ _) (.inr (fun e => by injection e with e; have e : D.z0 = D.k0 := e; exact h.ap.2.2.1 e.symm)), h.z1.kept (Kit.grown_set _ _ _ _) (.inr (fun e => by injection e with e; have e : D.z1 = D.k0 := e; exact h.ap.2.2.2.1 e.symm)), h.z2.kept (Kit.grown_set _ _ _ _) (.inr (fun e => by injection e with e; have e : D.z2 = D.k0 := e; exact h.ap.2.2.2.2.1 e.symm)), h.ap, h.nb, ⟨(cs D.bk 0 (h.nb.1)).trans h.bk.1, (cs D.bk 1 (h.nb.1)).trans h.bk.2.1, (cs D.bk 2 (h.nb.1)).trans h.bk.2.2⟩, ⟨(cs D.bz 0 (h.nb.2.1)).trans h.bz.1, (cs D.bz 1 (h.nb.2.1)).trans h.bz.2.1, (cs D.bz 2 (h.nb.2.1)).trans h.bz.2.2⟩, h.lt, h.bl.setCell (by show B ≤ D.k0; exact h.lt.1) _⟩
theorem ScG.setk1 (h : ScG B D Vk0 Vk1 Vk2 Vz0 Vz1 Vz2 w0 wr) (i : Nat) (v : Int) : ScG B D Vk0 (Vk1.set i v) Vk2 Vz0 Vz1 Vz2 w0 (wr.setCell ⟨D.k1, i, none⟩ (.int .i64 v)) := by
  have cs : ∀ b o, D.k1 ≠ b → (wr.setCell ⟨D.k1, i, none⟩ (.int .i64 v)).cell? ⟨b, o, none⟩ = wr.cell? ⟨b, o, none⟩ := fun b o hn => World.cell?_setCell_other _ _ _ _ (fun e => hn (by injection e))
  exact ⟨h.k0.kept (Kit.grown_set _ _ _ _) (.inr (fun e => by injection e with e; have e : D.k0 = D.k1 := e; exact h.ap.1 e)), by have := (h.k1.stored i (.int .i64 v)).1; rw [ints_set] at this; exact this, h.k2.kept (Kit.grown_set _ _ _ _) (.inr (fun e => by injection e with e; have e : D.k2 = D.k1 := e; exact h.ap.2.2.2.2.2.1 e.symm)), h.z0.kept (Kit.grown_set _ _ _ _) (.inr (fun e => by injection e with e; have e : D.z0 = D.k1 := e; exact h.ap.2.2.2.2.2.2.1 e.symm)), h.z1.kept (Kit.grown_set _ _ _ _) (.inr (fun e => by injection e with e; have e : D.z1 = D.k1 := e; exact h.ap.2.2.2.2.2.2.2.1 e.symm)), h.z2.kept (Kit.grown_set _ _ _ _) (.inr (fun e => by injection e with e; have e : D.z2 = D.k1 := e; exact h.ap.2.2.2.2.2.2.2.2.1 e.symm)), h.ap, h.nb, ⟨(cs D.bk 0 (h.nb.2.2.1)).trans h.bk.1, (cs D.bk 1 (h.nb.2.2.1)).trans h.bk.2.1, (cs D.bk 2 (h.nb.2.2.1)).trans h.bk.2.2⟩, ⟨(cs D.bz 0 (h.nb.2.2.2.1)).trans h.bz.1, (cs D.bz 1 (h.nb.2.2.2.1)).trans h.bz.2.1, (cs D.bz 2 (h.nb.2.2.2.1)).trans h.bz.2.2⟩, h.lt, h.bl.setCell (by show B ≤ D.k1; exact h.lt.2.1) _⟩
theorem ScG.setk2 (h : ScG B D Vk0 Vk1 Vk2 Vz0 Vz1 Vz2 w0 wr) (i : Nat) (v : Int) : ScG B D Vk0 Vk1 (Vk2.set i v) Vz0 Vz1 Vz2 w0 (wr.setCell ⟨D.k2, i, none⟩ (.int .i64 v)) := by
  have cs : ∀ b o, D.k2 ≠ b → (wr.setCell ⟨D.k2, i, none⟩ (.int .i64 v)).cell? ⟨b, o, none⟩ = wr.cell? ⟨b, o, none⟩ := fun b o hn => World.cell?_setCell_other _ _ _ _ (fun e => hn (by injection e))
  exact ⟨h.k0.kept (Kit.grown_set _ _ _ _) (.inr (fun e => by injection e with e; have e : D.k0 = D.k2 := e; exact h.ap.2.1 e)), h.k1.kept (Kit.grown_set _ _ _ _) (.inr (fun e => by injection e with e; have e : D.k1 = D.k2 := e; exact h.ap.2.2.2.2.2.1 e)), by have := (h.k2.stored i (.int .i64 v)).1; rw [ints_set] at this; exact this, h.z0.kept (Kit.grown_set _ _ _ _) (.inr (fun e => by injection e with e; have e : D.z0 = D.k2 := e; exact h.ap.2.2.2.2.2.2.2.2.2.1 e.symm)), h.z1.kept (Kit.grown_set _ _ _ _) (.inr (fun e => by injection e with e; have e : D.z1 = D.k2 := e; exact h.ap.2.2.2.2.2.2.2.2.2.2.1 e.symm)), h.z2.kept (Kit.grown_set _ _ _ _) (.inr (fun e => by injection e with e; have e : D.z2 = D.k2 := e; exact h.ap.2.2.2.2.2.2.2.2.2.2.2.1 e.symm)), h.ap, h.nb, ⟨(cs D.bk 0 (h.nb.2.2.2.2.1)).trans h.bk.1, (cs D.bk 1 (h.nb.2.2.2.2.1)).trans h.bk.2.1, (cs D.bk 2 (h.nb.2.2.2.2.1)).trans h.bk.2.2⟩, ⟨(cs D.bz 0 (h.nb.2.2.2.2.2.1)).trans h.bz.1, (cs D.bz 1 (h.nb.2.2.2.2.2.1)).trans h.bz.2.1, (cs D.bz 2 (h.nb.2.2.2.2.2.1)).trans h.bz.2.2⟩, h.lt, h.bl.setCell (by show B ≤ D.k2; exact h.lt.2.2.1) _⟩
theorem ScG.setz0 (h : ScG B D Vk0 Vk1 Vk2 Vz0 Vz1 Vz2 w0 wr) (i : Nat) (v : Int) : ScG B D Vk0 Vk1 Vk2 (Vz0.set i v) Vz1 Vz2 w0 (wr.setCell ⟨D.z0, i, none⟩ (.int .i64 v)) := by
  have cs : ∀ b o, D.z0 ≠ b → (wr.setCell ⟨D.z0, i, none⟩ (.int .i64 v)).cell? ⟨b, o, none⟩ = wr.cell? ⟨b, o, none⟩ := fun b o hn => World.cell?_setCell_other _ _ _ _ (fun e => hn (by injection e))
  exact ⟨h.k0.kept (Kit.grown_set _ _ _ _) (.inr (fun e => by injection e with e; have e : D.k0 = D.z0 := e; exact h.ap.2.2.1 e)), h.k1.kept (Kit.grown_set _ _ _ _) (.inr (fun e => by injection e with e; have e : D.k1 = D.z0 := e; exact h.ap.2.2.2.2.2.2.1 e)), h.k2.kept (Kit.grown_set _ _ _ _) (.inr (fun e => by injection e with e; have e : D.k2 = D.z0 := e; exact h.ap.2.2.2.2.2.2.2.2.2.1 e)), by have := (h.z0.stored i (.int .i64 v)).1; rw [ints_set] at this; exact this, h.z1.kept (Kit.grown_set _ _ _ _) (.inr (fun e => by injection e with e; have e : D.z1 = D.z0 := e; exact h.ap.2.2.2.2.2.2.2.2.2.2.2.2.1 e.symm)), h.z2.kept (Kit.grown_set _ _ _ _) (.inr (fun e => by injection e with e; have e : D.z2 = D.z0 := e; exact h.ap.2.2.2.2.2.2.2.2.2.2.2.2.2.1 e.symm)), h.ap, h.nb, ⟨(cs D.bk 0 (h.nb.2.2.2.2.2.2.1)).trans h.bk.1, (cs D.bk 1 (h.nb.2.2.2.2.2.2.1)).trans h.bk.2.1, (cs D.bk 2 (h.nb.2.2.2.2.2.2.1)).trans h.bk.2.2⟩, ⟨(cs D.bz 0 (h.nb.2.2.2.2.2.2.2.1)).trans h.bz.1, (cs D.bz 1 (h.nb.2.2.2.2.2.2.2.1)).trans h.bz.2.1, (cs D.bz 2 (h.nb.2.2.2.2.2.2.2.1)).trans h.bz.2.2⟩, h.lt, h.bl.setCell (by show B ≤ D.z0; exact h.lt.2.2.2.1) _⟩
theorem ScG.setz1 (h : ScG B D Vk0 Vk1 Vk2 Vz0 Vz1 Vz2 w0 wr) (i : Nat) (v : Int) : ScG B D Vk0 Vk1 Vk2 Vz0 (Vz1.set i v) Vz2 w0 (wr.setCell ⟨D.z1, i, none⟩ (.int .i64 v)) := by
  have cs : ∀ b o, D.z1 ≠ b → (wr.setCell ⟨D.z1, i, none⟩ (.int .i64 v)).cell? ⟨b, o, none⟩ = wr.cell? ⟨b, o, none⟩ := fun b o hn => World.cell?_setCell_other _ _ _ _ (fun e => hn (by injection e))
  exact ⟨h.k0.kept (Kit.grown_set _ _ _ _) (.inr (fun e => by injection e with e; have e : D.k0 = D.z1 := e; exact h.ap.2.2.2.1 e)), h.k1.kept (Kit.grown_set _ _ _ _) (.inr (fun e => by injection e with e; have e : D.k1 = D.z1 := e; exact h.ap.2.2.2.2.2.2.2.1 e)), h.k2.kept (Kit.grown_set _ _ _ _) (.inr (fun e => by injection e with e; have e : D.k2 = D.z1 := e; exact h.ap.2.2.2.2.2.2.2.2.2.2.1 e)), h.z0.kept (Kit.grown_set _ _ _ _) (.inr (fun e => by injection e with e; have e : D.z0 = D.z1 := e; exact h.ap.2.2.2.2.2.2.2.2.2.2.2.2.1 e)), by have := (h.z1.stored i (.int .i64 v)).1; rw [ints_set] at this; exact this, h.z2.kept (Kit.grown_set _ _ _ _) (.inr (fun e => by injection e with e; have e : D.z2 = D.z1 := e; exact h.ap.2.2.2.2.2.2.2.2.2.2.2.2.2.2 e.symm)), h.ap, h.nb, ⟨(cs D.bk 0 (h.nb.2.2.2.2.2.2.2.2.1)).trans h.bk.1, (cs D.bk 1 (h.nb.2.2.2.2.2.2.2.2.1)).trans h.bk.2.1, (cs D.bk 2 (h.nb.2.2.2.2.2.2.2.2.1)).trans h.bk.2.2⟩, ⟨(cs D.bz 0 (h.nb.2.2.2.2.2.2.2.2.2.1)).trans h.bz.1, (cs D.bz 1 (h.nb.2.2.2.2.2.2.2.2.2.1)).trans h.bz.2.1, (cs D.bz 2 (h.nb.2.2.2.2.2.2.2.2.2.1)).trans h.bz.2.2⟩, h.lt, h.bl.setCell (by show B ≤ D.z1; exact h.lt.2.2.2.2.1) _⟩
theorem ScG.setz2 (h : ScG B D Vk0 Vk1 Vk2 Vz0 Vz1 Vz2 w0 wr) (i : Nat) (v : Int) : ScG B D Vk0 Vk1 Vk2 Vz0 Vz1 (Vz2.set i v) w0 (wr.setCell ⟨D.z2, i, none⟩ (.int .i64 v)) := by
  have cs : ∀ b o, D.z2 ≠ b → (wr.setCell ⟨D.z2, i, none⟩ (.int .i64 v)).cell? ⟨b, o, none⟩ = wr.cell? ⟨b, o, none⟩ := fun b o hn => World.cell?_setCell_other _ _ _ _ (fun e => hn (by injection e))
  exact ⟨h.k0.kept (Kit.grown_set _ _ _ _) (.inr (fun e => by injection e with e; have e : D.k0 = D.z2 := e; exact h.ap.2.2.2.2.1 e)), h.k1.kept (Kit.grown_set _ _ _ _) (.inr (fun e => by injection e with e; have e : D.k1 = D.z2 := e; exact h.ap.2.2.2.2.2.2.2.2.1 e)), h.k2.kept (Kit.grown_set _ _ _ _) (.inr (fun e => by injection e with e; have e : D.k2 = D.z2 := e; exact h.ap.2.2.2.2.2.2.2.2.2.2.2.1 e)), h.z0.kept (Kit.grown_set _ _ _ _) (.inr (fun e => by injection e with e; have e : D.z0 = D.z2 := e; exact h.ap.2.2.2.2.2.2.2.2.2.2.2.2.2.1 e)), h.z1.kept (Kit.grown_set _ _ _ _) (.inr (fun e => by injection e with e; have e : D.z1 = D.z2 := e; exact h.ap.2.2.2.2.2.2.2.2.2.2.2.2.2.2 e)), by have := (h.z2.stored i (.int .i64 v)).1; rw [ints_set] at this; exact this, h.ap, h.nb, ⟨(cs D.bk 0 (h.nb.2.2.2.2.2.2.2.2.2.2.1)).trans h.bk.1, (cs D.bk 1 (h.nb.2.2.2.2.2.2.2.2.2.2.1)).trans h.bk.2.1, (cs D.bk 2 (h.nb.2.2.2.2.2.2.2.2.2.2.1)).trans h.bk.2.2⟩, ⟨(cs D.bz 0 (h.nb.2.2.2.2.2.2.2.2.2.2.2)).trans h.bz.1, (cs D.bz 1 (h.nb.2.2.2.2.2.2.2.2.2.2.2)).trans h.bz.2.1, (cs D.bz 2 (h.nb.2.2.2.2.2.2.2.2.2.2.2)).trans h.bz.2.2⟩, h.lt, h.bl.setCell (by show B ≤ D.z2; exact h.lt.2.2.2.2.2) _⟩
theorem ScG.drawn (h : ScG B D Vk0 Vk1 Vk2 Vz0 Vz1 Vz2 w0 wr) (hd : Drawn wr w') : ScG B D Vk0 Vk1 Vk2 Vz0 Vz1 Vz2 w0 w' :=
  ⟨own_drawn h.k0 hd, own_drawn h.k1 hd, own_drawn h.k2 hd, own_drawn h.z0 hd, own_drawn h.z1 hd, own_drawn h.z2 hd, h.ap, h.nb, ⟨(hd.cell _).trans h.bk.1, (hd.cell _).trans h.bk.2.1, (hd.cell _).trans h.bk.2.2⟩, ⟨(hd.cell _).trans h.bz.1, (hd.cell _).trans h.bz.2.1, (hd.cell _).trans h.bz.2.2⟩, h.lt, Drawn.below h.bl hd⟩
/-- unit costs, as rows of the call's own -/
theorem own6 {w : World} {e : Ending} {w' : World} (h : OwnCo Co.unit w e w') : ∃ g0 g1 g2 c0 c1 c2 : Nat, e = .returned (.agg #[.slice (some ⟨g0, 0, none⟩) 6 c0, .slice (some ⟨g1, 0, none⟩) 6 c1, .slice (some ⟨g2, 0, none⟩) 36 c2]) ∧
    w'.ownsRow w.heap.size 3 1 (.slice (some ⟨g0, 0, none⟩) 6 c0) 6 (ints (List.replicate 6 1)) ∧ w'.ownsRow w.heap.size 3 1 (.slice (some ⟨g1, 0, none⟩) 6 c1) 6 (ints (List.replicate 6 1)) ∧ w'.ownsRow w.heap.size 3 1 (.slice (some ⟨g2, 0, none⟩) 36 c2) 36 (ints Co.unit.r) ∧
    (g0 ≠ g1 ∧ g0 ≠ g2 ∧ g1 ≠ g2) ∧ (w.heap.size ≤ g0 ∧ w.heap.size ≤ g1 ∧ w.heap.size ≤ g2) ∧ (g0 < w'.heap.size ∧ g1 < w'.heap.size ∧ g2 < w'.heap.size) ∧ Below w.heap.size w w' := by
  obtain ⟨A0, A1, A2, c0, c1, c2, rfl, o0, o1, o2, a01, a02, a12, hb⟩ := h
  rw [Co.unit_r_len] at o2 a02 a12 ⊢
  rw [show Co.unit.d.length = 6 from rfl] at o0 a01 a02 ⊢
  rw [show Co.unit.i.length = 6 from rfl] at o1 a01 a12 ⊢
  obtain ⟨g0, rfl, b0, l0⟩ := own_form o0 (by decide)
  obtain ⟨g1, rfl, b1, l1⟩ := own_form o1 (by decide)
  obtain ⟨g2, rfl, b2, l2⟩ := own_form o2 (by decide)
  have ap : ∀ {x y n m c d : Nat}, Apart (.slice (some ⟨x, 0, none⟩) n c) (.slice (some ⟨y, 0, none⟩) m d) → x ≠ y := fun h e => by
    rcases h with h | h
    · cases h
    · exact h (by rw [e]; rfl)
  exact ⟨g0, g1, g2, c0, c1, c2, rfl, o0, o1, o2, ⟨ap a01, ap a02, ap a12⟩, ⟨b0, b1, b2⟩, ⟨l0, l1, l2⟩, hb⟩
end

end Go.Proofs.Ytfchmdhlfhoogaa
