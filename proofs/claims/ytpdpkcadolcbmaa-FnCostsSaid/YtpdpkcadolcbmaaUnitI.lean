/- Contracts (UnitI). -/
import Derived.Test.YtpdpkcadolcbmaaRepI
import Derived.Test.YtpdpkcadolcbmaaTblI
import Derived.Test.YtpdpkcadolcbmaaUnitS
import Derived.Test.YtpdpkcadolcbmaaHarC
import Derived.Outline
import Derived.StillTailTactics
namespace Go.Proofs.Ytpdpkcadolcbmaa
open Go.RowKit
set_option linter.unusedVariables false

def Co.udiag (a : Nat) : List Int := (List.range 36).map fun p => if p / 6 = p % 6 ∧ p / 6 < a then 0 else 1
theorem Co.udiag_zero : Co.udiag 0 = List.replicate 36 1 := by decide
theorem Co.udiag_all : Co.udiag 6 = Co.urel 36 := by decide
theorem Co.udiag_length (a : Nat) : (Co.udiag a).length = 36 := by simp [Co.udiag]
theorem Co.udiag_set : ∀ a, a < 6 → (Co.udiag a).set (a * 6 + a) 0 = Co.udiag (a + 1) := by decide
/-- what a loop that writes into one row finds at its head -/
def UnitG (w0 : World) (s g : Nat) (v0 v1 v2 : Value) (w : World) : Prop :=
  Box3 w s (.slice none 0 0) (.slice none 0 0) (.slice none 0 0) ∧ (∀ off, w.frozen? ⟨s, off, none⟩ = false) ∧ Box3 w g v0 v1 v2 ∧ w.ownsRow w0.heap.size 3 1 v0 6 (ints (List.replicate 6 1)) ∧ w.ownsRow w0.heap.size 3 1 v1 6 (ints (List.replicate 6 1)) ∧
  Apart v0 v1 ∧ Apart v0 v2 ∧ Apart v1 v2 ∧ Below w0.heap.size w0 w ∧ s < w.heap.size ∧ g < w.heap.size ∧ (∀ b, v2.ownBlock = some b → b ≠ s ∧ b ≠ g ∧ w0.heap.size ≤ b) ∧ w0.heap.size ≤ s ∧ ¬ s = g
theorem free_grown {w w' : World} {g : Nat} {r : Option Nat} (hg : w.grownBy w' r) (hl : g < w.heap.size) (hr : ∀ b, r = some b → b ≠ g) (h : ∀ off, w.frozen? ⟨g, off, none⟩ = false) (off : Nat) : w'.frozen? ⟨g, off, none⟩ = false := by
  have e := hg.block g hl (fun e => hr g e.symm rfl)
  have := h off
  unfold World.frozen? at this ⊢
  simp only [e]
  exact this
theorem UnitG.kept {w0 w w' : World} {s g : Nat} {v0 v1 v2 : Value} (h : UnitG w0 s g v0 v1 v2 w) (hg : w.grownBy w' v2.ownBlock) : UnitG w0 s g v0 v1 v2 w' := by
  obtain ⟨hx, hf, hy, o0, o1, a01, a02, a12, hB, hs, hgl, hb, h0, hsg⟩ := h
  refine ⟨hx.grown hg hs (fun b e => (hb b e).1), free_grown hg hs (fun b e => (hb b e).1) hf, hy.grown hg hgl (fun b e => (hb b e).2.1), World.ownsRow.kept o0 hg a02, World.ownsRow.kept o1 hg a12, a01, a02, a12, hB.grown hg hB.size (fun b e => (hb b e).2.2), Nat.lt_of_lt_of_le hs hg.size, Nat.lt_of_lt_of_le hgl hg.size, hb, h0, hsg⟩
theorem UnitG.drewN {w0 w : World} {s g : Nat} {v0 v1 v2 : Value} (h : UnitG w0 s g v0 v1 v2 w) (n : Nat) : UnitG w0 s g v0 v1 v2 (w.drewN n) := h.kept (Kit.grown_drewN w n _)
set_option maxHeartbeats 1600000 in
set_option maxRecDepth 100000 in
theorem implUnitCost_any (w : World) : Calls Try.prog 17 #[] w (OwnCo Co.unit w) := by
  obtain ⟨wz, hwz⟩ : ∃ wz, wz = (w.alloc (.cells #[.slice none 0 0, .slice none 0 0, .slice none 0 0] 26)).alloc (.cells #[.int .i64 1] 3) := ⟨_, rfl⟩
  have hsz : wz.heap.size = w.heap.size + 2 := by rw [hwz]; simp
  have HIN := Lib.hid (show IntIn wz wz.heap.size (some ⟨w.heap.size + 1, 0, none⟩) 1 [1] by
    refine ⟨rfl, fun _ => ⟨_, rfl, by simp only; omega⟩, fun ad e k hk => ?_⟩
    obtain rfl : (⟨w.heap.size + 1, 0, none⟩ : Addr) = ad := by injection e
    obtain rfl : k = 0 := by omega
    rw [hwz]
    simp [Addr.add, Zs.at])
  have HX := Lib.hid (show Box3 wz w.heap.size (.slice none 0 0) (.slice none 0 0) (.slice none 0 0) by rw [hwz]; exact (Box3.made _ _ _ _ _).alloc (by simp) _)
  have HF := Lib.hid (show ∀ off, wz.frozen? ⟨w.heap.size, off, none⟩ = false by rw [hwz]; exact fun off => by simp)
  have HB := Lib.hid (show Below w.heap.size w wz by rw [hwz]; exact ((Below.refl _ _).alloc (Nat.le_refl _) _).alloc (by simp) _)
  have HS := Lib.hid hsz
  clear hsz
  go_enter Try.func17, Try.ntmps17
  go_wp2_with fail
  rw [← hwz]
  have HWZ := Lib.hid hwz
  clear hwz
  refine (repeat_one _ _ 6 1 _ HIN.out (by decide) (by decide) mul_6).mono ?_
  rintro e w1 ⟨rfl, o0, b1⟩
  have HIN := Lib.hid (HIN.out.to_below b1)
  go_wp2_with fail
  refine (repeat_one _ _ 6 1 _ HIN.out (by decide) (by decide) mul_6).mono ?_
  rintro e w2 ⟨rfl, o1, b2⟩
  have HIN := Lib.hid (HIN.out.to_below b2)
  go_wp2_with fail
  refine (repeat_one _ _ 36 1 _ HIN.out (by decide) (by decide) mul_36).mono ?_
  rintro e w3 ⟨rfl, o2, b3⟩
  go_wp2
  obtain ⟨h0, eh0⟩ : ∃ x, x = wz.heap.size := ⟨_, rfl⟩
  obtain ⟨h1, eh1⟩ : ∃ x, x = w1.heap.size := ⟨_, rfl⟩
  obtain ⟨h2, eh2⟩ : ∃ x, x = w2.heap.size := ⟨_, rfl⟩
  obtain ⟨g, eg⟩ : ∃ x, x = w3.heap.size := ⟨_, rfl⟩
  rw [← eh0, ← eh1, ← eh2, ← eg]
  rw [← eh0] at o0
  rw [← eh1] at o1
  rw [← eh2] at o2
  have s1 := HS.out
  have l1 := (o0.lt h0 rfl).2
  have l2 := (o1.lt h1 rfl).2
  have l3 := (o2.lt h2 rfl).2
  have z1 := b1.size
  have z2 := b2.size
  have z3 := b3.size
  obtain ⟨wl, hwl⟩ : ∃ wl, wl = w3.alloc (.cells #[.slice (some ⟨h0, 0, none⟩) 6 6, .slice (some ⟨h1, 0, none⟩) 6 6, .slice (some ⟨h2, 0, none⟩) 36 36] 26) := ⟨_, rfl⟩
  rw [← hwl]
  have b13 : Below wz.heap.size wz w3 := b1.trans ((b2.mono (by omega)).trans (b3.mono (by omega)))
  have hbl : Below w3.heap.size w3 wl := by rw [hwl]; exact (Below.refl _ _).alloc (Nat.le_refl _) _
  have hzl : wl.heap.size = g + 1 := by rw [hwl, eg]; simp
  have hap : ∀ (x y n m c d : Nat), x ≠ y → Apart (.slice (some ⟨x, 0, none⟩) n c) (.slice (some ⟨y, 0, none⟩) m d) := fun x y n m c d hne => .inr (by simp [Value.ownBlock]; exact hne)
  have hU : UnitG w w.heap.size g (.slice (some ⟨h0, 0, none⟩) 6 6) (.slice (some ⟨h1, 0, none⟩) 6 6) (.slice (some ⟨h2, 0, none⟩) 36 36) wl := by
    refine ⟨HX.out.below (b13.trans (hbl.mono (by omega))) (by omega), free_below (b13.trans (hbl.mono (by omega))) (by omega) HF.out, ?_, ?_, ?_, hap _ _ _ _ _ _ (by omega), hap _ _ _ _ _ _ (by omega), hap _ _ _ _ _ _ (by omega), HB.out.trans ((b13.trans (hbl.mono (by omega))).mono (by omega)), by omega, by omega, fun b hb => ?_, Nat.le_refl _, by omega⟩
    · rw [hwl, eg]; exact Box3.made _ _ _ _ _
    · exact own_base (own_below (own_below (own_below o0 b2) b3) hbl) (by omega)
    · exact own_base (own_below (own_below o1 b3) hbl) (by omega)
    · obtain rfl : h2 = b := by simpa [Value.ownBlock] using hb
      exact ⟨by omega, by omega, by omega⟩
  have HU := Lib.hid hU
  have HO := Lib.hid (show wl.ownsRow w.heap.size 3 1 (.slice (some ⟨h2, 0, none⟩) 36 36) 36 (ints (Co.udiag 0)) by rw [Co.udiag_zero]; exact own_base (own_below o2 hbl) (by omega))
  have HNE := Lib.hid (show h0 ≠ w.heap.size ∧ h1 ≠ w.heap.size by omega)
  clear hU hap hzl hbl b13 z1 z2 z3 l1 l2 l3 s1 o0 o1 o2 b1 b2 b3 eh0 eh1 eh2 eg hwl HX HF HB
  go_loopw [12] (fun iv wr => ∃ a : Nat, a ≤ 6 ∧ iv = .int .i64 a ∧ wr.ownsRow w.heap.size 3 1 (.slice (some ⟨h2, 0, none⟩) 36 36) 36 (ints (Co.udiag a)) ∧ UnitG w w.heap.size g (.slice (some ⟨h0, 0, none⟩) 6 6) (.slice (some ⟨h1, 0, none⟩) 6 6) (.slice (some ⟨h2, 0, none⟩) 36 36) wr) (fun i _ => 6 - (intOf i).toNat)
  case atStart => exact ⟨0, Nat.zero_le _, rfl, HO.out, HU.out⟩
  case round =>
    clear HO HU
    obtain ⟨a, ha, rfl, hO, hU⟩ := hrel
    have HO := Lib.hid hO
    have HU := Lib.hid hU
    clear hO hU
    by_cases hlt : a < 6
    · have k0 : decide ((a : Int) < 6) = true := by simp; omega
      obtain ⟨p, hp⟩ : ∃ p, p = a * 6 + a := ⟨_, rfl⟩
      have c0 := own_int HO.out (k := p) (by rw [Co.udiag_length]; omega)
      have f0 := HO.out.frozenAt p
      obtain ⟨x0, x1, x2⟩ := HU.out.2.2.1
      have HA3 := Lib.hid (show (a : Int) * 6 + (a : Int) = (p : Int) by omega)
      have k1 : (0 : Int) ≤ (p : Int) := by omega
      have k2 : (p : Int) < 36 := by omega
      have HP := Lib.hid hp
      clear hp x0 x1
      go_wp2_with fail
      go_still_tail 6, (by kernel_rfl)
      still_call ((relIndex_any _ _ _ (by omega) (by omega) (by omega) (by omega)).mono fun e w' ⟨h1, h2⟩ => ⟨by rw [h1, HA3.out], h2.symm⟩)
      repeat still_step
      refine wpStill_nil ?_
      change wpList _ _ _ _ _ wr.drew
      go_wp2
      go_roundw
      case rel =>
        have hs := (World.ownsRow.drew HO.out).stored p (.int .i64 0)
        refine ⟨a + 1, by omega, by go_num, ?_, (HU.out.drewN 1).kept hs.2⟩
        have := hs.1
        rw [ints_set, HP.out, Co.udiag_set a hlt, ← HP.out] at this
        exact this
      case measure => simp [intOf]; omega
    · obtain rfl : a = 6 := by omega
      obtain ⟨hx, hf, hy, o0, o1, a01, a02, a12, hB, hs, hgl, hb, h0', hsg⟩ := HU.out
      have k1 : decide (((6 : Nat) : Int) < 6) = false := rfl
      obtain ⟨y0, y1, y2⟩ := hy
      obtain ⟨x0, x1, x2⟩ := hx
      have f0 := hf 0
      have f1 := hf 1
      have f2 := hf 2
      have keep : ∀ (v : Value) (n : Nat) (ys : List Value) (u0 u1 u2 : Value), (∀ b, v.ownBlock = some b → b ≠ w.heap.size) → wr.ownsRow w.heap.size 3 1 v n ys → (((wr.setCell ⟨w.heap.size, 0, none⟩ u0).setCell ⟨w.heap.size, 1, none⟩ u1).setCell ⟨w.heap.size, 2, none⟩ u2).ownsRow w.heap.size 3 1 v n ys := fun v n ys u0 u1 u2 hne k => by
        have hap : v.ownBlock = none ∨ v.ownBlock ≠ some w.heap.size := by
          rcases hbv : v.ownBlock with _ | b
          · exact .inl rfl
          · exact .inr (fun e => hne b hbv (by injection e))
        exact World.ownsRow.kept (World.ownsRow.kept (World.ownsRow.kept k (Kit.grown_set _ _ _ _) hap) (Kit.grown_set _ _ _ _) hap) (Kit.grown_set _ _ _ _) hap
      have KP := Lib.hid keep
      have O0 := Lib.hid o0
      have O1 := Lib.hid o1
      have HA := Lib.hid (And.intro a01 (And.intro a02 a12))
      have HBW := Lib.hid hB
      have HN := Lib.hid hb
      clear hf o0 o1 a01 a02 a12 hB keep hgl hb
      go_wp2
      (try simp only [Exit.inBlock, Exit.then])
      refine bodyPost_ret (v := .agg #[.slice (some ⟨h0, 0, none⟩) 6 6, .slice (some ⟨h1, 0, none⟩) 6 6, .slice (some ⟨h2, 0, none⟩) 36 36]) ?_ rfl ?_
      · rw [results_cell1 rfl]
        go_simp
      · have hl : Co.unit.r.length = 36 := Co.urel_length 36
        have o2 := HO.out
        rw [Co.udiag_all] at o2
        refine ⟨some ⟨h0, 0, none⟩, some ⟨h1, 0, none⟩, some ⟨h2, 0, none⟩, 6, 6, 36, by rw [hl]; rfl, KP.out _ _ _ _ _ _ ?_ O0.out, KP.out _ _ _ _ _ _ ?_ O1.out, by rw [hl]; exact KP.out _ _ _ _ _ _ (fun b hb => (HN.out b hb).1) o2, HA.out.1, by rw [hl]; exact HA.out.2.1, by rw [hl]; exact HA.out.2.2, ((HBW.out.setCell (Nat.le_refl _) _).setCell (Nat.le_refl _) _).setCell (Nat.le_refl _) _⟩
        · intro b hb; obtain rfl : h0 = b := by simpa [Value.ownBlock] using hb
          exact HNE.out.1
        · intro b hb; obtain rfl : h1 = b := by simpa [Value.ownBlock] using hb
          exact HNE.out.2

end Go.Proofs.Ytpdpkcadolcbmaa
