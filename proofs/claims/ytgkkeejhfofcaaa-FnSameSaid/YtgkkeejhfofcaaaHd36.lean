/- Texts of one claim laid into one file, in build order: UnitI, Big, Sam. -/
import Derived.Test.YtgkkeejhfofcaaaHd1
import Derived.Test.YtgkkeejhfofcaaaHd12
import Derived.Test.YtgkkeejhfofcaaaHd17
import Derived.Test.YtgkkeejhfofcaaaHd18
import Derived.Test.YtgkkeejhfofcaaaHd25
import Derived.Test.YtgkkeejhfofcaaaHd28
import Derived.Test.YtgkkeejhfofcaaaHd35
import Derived.Test.YtgkkeejhfofcaaaHd4
import Derived.Test.YtgkkeejhfofcaaaHd6
import Derived.Outline
import Derived.StillTailTactics
/- Contracts (UnitI). -/
namespace Go.Proofs.Ytgkkeejhfofcaaa
open Go.RowKit
set_option linter.unusedVariables false

def Co.udiag (a : Nat) : List Int := (List.range 36).map fun p => if p / 6 = p % 6 ∧ p / 6 < a then 0 else 1
theorem Co.udiag_zero : Co.udiag 0 = List.replicate 36 1 := by decide
theorem Co.udiag_all : Co.udiag 6 = Co.urel 36 := by decide
theorem Co.udiag_length (a : Nat) : (Co.udiag a).length = 36 := by simp [Co.udiag]
theorem Co.udiag_set : ∀ a, a < 6 → (Co.udiag a).set (a * 6 + a) 0 = Co.udiag (a + 1) := by decide
/-- what a loop that writes into one row finds at its head -/
def UnitG (w0 : World) (s g : Nat) (v0 v1 v2 : Value) (w : World) : Prop :=
  Box3 w s (.slice none 0 0) (.slice none 0 0) (.slice none 0 0) ∧ (∀ off, w.frozen? ⟨s, off, none⟩ = false) ∧ Box3 w g v0 v1 v2 ∧ w.ownsRow w0.heap.size 3 1 v0 6 (ints (List.replicate 6 1)) ∧ w.ownsRow w0.heap.size 3 1 v1 6 (ints (List.replicate 6 1)) ∧
  Apart v0 v1 ∧ Apart v0 v2 ∧ Apart v1 v2 ∧ Below w0.heap.size w0 w ∧ s < w.heap.size ∧ g < w.heap.size ∧ (∀ b, v2.ownBlock = some b → b ≠ s ∧ b ≠ g ∧ w0.heap.size ≤ b) ∧ w0.heap.size ≤ s ∧ ¬ s = g
theorem free_grown {w w' : World} {g : Nat} {r : Option Nat} (hg : w.grownBy w' r) (hl : g < w.heap.size) (hr : ∀ b, r = some b → b ≠ g) (h : ∀ off, w.frozen? ⟨g, off, none⟩ = false) (off : Nat) : w'.frozen? ⟨g, off, none⟩ = false := by
  have e := hg.block g hl (fun e => hr g e.symm rfl)
  have := h off
  unfold World.frozen? at this ⊢
  simp only [e]
  exact this
theorem UnitG.kept {w0 w w' : World} {s g : Nat} {v0 v1 v2 : Value} (h : UnitG w0 s g v0 v1 v2 w) (hg : w.grownBy w' v2.ownBlock) : UnitG w0 s g v0 v1 v2 w' := by
  obtain ⟨hx, hf, hy, o0, o1, a01, a02, a12, hB, hs, hgl, hb, h0, hsg⟩ := h
  refine ⟨hx.grown hg hs (fun b e => (hb b e).1), free_grown hg hs (fun b e => (hb b e).1) hf, hy.grown hg hgl (fun b e => (hb b e).2.1), World.ownsRow.kept o0 hg a02, World.ownsRow.kept o1 hg a12, a01, a02, a12, hB.grown hg hB.size (fun b e => (hb b e).2.2), Nat.lt_of_lt_of_le hs hg.size, Nat.lt_of_lt_of_le hgl hg.size, hb, h0, hsg⟩
theorem UnitG.drewN {w0 w : World} {s g : Nat} {v0 v1 v2 : Value} (h : UnitG w0 s g v0 v1 v2 w) (n : Nat) : UnitG w0 s g v0 v1 v2 (w.drewN n) := h.kept (Kit.grown_drewN w n _)
set_option maxHeartbeats 1600000 in
set_option maxRecDepth 100000 in
theorem implUnitCost_any (w : World) : Calls Try.prog 14 #[] w (OwnCo Co.unit w) := by
  obtain ⟨wz, hwz⟩ : ∃ wz, wz = (w.alloc (.cells #[.slice none 0 0, .slice none 0 0, .slice none 0 0] 31)).alloc (.cells #[.int .i64 1] 3) := ⟨_, rfl⟩
  have hsz : wz.heap.size = w.heap.size + 2 := by rw [hwz]; simp
  have HIN := Lib.hid (show IntIn wz wz.heap.size (some ⟨w.heap.size + 1, 0, none⟩) 1 [1] by
    refine ⟨rfl, fun _ => ⟨_, rfl, by simp only; omega⟩, fun ad e k hk => ?_⟩
    obtain rfl : (⟨w.heap.size + 1, 0, none⟩ : Addr) = ad := by injection e
    obtain rfl : k = 0 := by omega
    rw [hwz]
    simp [Addr.add, Zs.at])
  have HX := Lib.hid (show Box3 wz w.heap.size (.slice none 0 0) (.slice none 0 0) (.slice none 0 0) by rw [hwz]; exact (Box3.made _ _ _ _ _).alloc (by simp) _)
  have HF := Lib.hid (show ∀ off, wz.frozen? ⟨w.heap.size, off, none⟩ = false by rw [hwz]; exact fun off => by simp)
  have HB := Lib.hid (show Below w.heap.size w wz by rw [hwz]; exact ((Below.refl _ _).alloc (Nat.le_refl _) _).alloc (by simp) _)
  have HS := Lib.hid hsz
  clear hsz
  go_enter Try.func14, Try.ntmps14
  go_wp2_with fail
  rw [← hwz]
  have HWZ := Lib.hid hwz
  clear hwz
  refine (repeat_one _ _ 6 1 _ HIN.out (by decide) (by decide) mul_6).mono ?_
  rintro e w1 ⟨rfl, o0, b1⟩
  have HIN := Lib.hid (HIN.out.to_below b1)
  go_wp2_with fail
  refine (repeat_one _ _ 6 1 _ HIN.out (by decide) (by decide) mul_6).mono ?_
  rintro e w2 ⟨rfl, o1, b2⟩
  have HIN := Lib.hid (HIN.out.to_below b2)
  go_wp2_with fail
  refine (repeat_one _ _ 36 1 _ HIN.out (by decide) (by decide) mul_36).mono ?_
  rintro e w3 ⟨rfl, o2, b3⟩
  go_wp2
  obtain ⟨h0, eh0⟩ : ∃ x, x = wz.heap.size := ⟨_, rfl⟩
  obtain ⟨h1, eh1⟩ : ∃ x, x = w1.heap.size := ⟨_, rfl⟩
  obtain ⟨h2, eh2⟩ : ∃ x, x = w2.heap.size := ⟨_, rfl⟩
  obtain ⟨g, eg⟩ : ∃ x, x = w3.heap.size := ⟨_, rfl⟩
  rw [← eh0, ← eh1, ← eh2, ← eg]
  rw [← eh0] at o0
  rw [← eh1] at o1
  rw [← eh2] at o2
  have s1 := HS.out
  have l1 := (o0.lt h0 rfl).2
  have l2 := (o1.lt h1 rfl).2
  have l3 := (o2.lt h2 rfl).2
  have z1 := b1.size
  have z2 := b2.size
  have z3 := b3.size
  obtain ⟨wl, hwl⟩ : ∃ wl, wl = w3.alloc (.cells #[.slice (some ⟨h0, 0, none⟩) 6 6, .slice (some ⟨h1, 0, none⟩) 6 6, .slice (some ⟨h2, 0, none⟩) 36 36] 31) := ⟨_, rfl⟩
  rw [← hwl]
  have b13 : Below wz.heap.size wz w3 := b1.trans ((b2.mono (by omega)).trans (b3.mono (by omega)))
  have hbl : Below w3.heap.size w3 wl := by rw [hwl]; exact (Below.refl _ _).alloc (Nat.le_refl _) _
  have hzl : wl.heap.size = g + 1 := by rw [hwl, eg]; simp
  have hap : ∀ (x y n m c d : Nat), x ≠ y → Apart (.slice (some ⟨x, 0, none⟩) n c) (.slice (some ⟨y, 0, none⟩) m d) := fun x y n m c d hne => .inr (by simp [Value.ownBlock]; exact hne)
  have hU : UnitG w w.heap.size g (.slice (some ⟨h0, 0, none⟩) 6 6) (.slice (some ⟨h1, 0, none⟩) 6 6) (.slice (some ⟨h2, 0, none⟩) 36 36) wl := by
    refine ⟨HX.out.below (b13.trans (hbl.mono (by omega))) (by omega), free_below (b13.trans (hbl.mono (by omega))) (by omega) HF.out, ?_, ?_, ?_, hap _ _ _ _ _ _ (by omega), hap _ _ _ _ _ _ (by omega), hap _ _ _ _ _ _ (by omega), HB.out.trans ((b13.trans (hbl.mono (by omega))).mono (by omega)), by omega, by omega, fun b hb => ?_, Nat.le_refl _, by omega⟩
    · rw [hwl, eg]; exact Box3.made _ _ _ _ _
    · exact own_base (own_below (own_below (own_below o0 b2) b3) hbl) (by omega)
    · exact own_base (own_below (own_below o1 b3) hbl) (by omega)
    · obtain rfl : h2 = b := by simpa [Value.ownBlock] using hb
      exact ⟨by omega, by omega, by omega⟩
  have HU := Lib.hid hU
  have HO := Lib.hid (show wl.ownsRow w.heap.size 3 1 (.slice (some ⟨h2, 0, none⟩) 36 36) 36 (ints (Co.udiag 0)) by rw [Co.udiag_zero]; exact own_base (own_below o2 hbl) (by omega))
  have HNE := Lib.hid (show h0 ≠ w.heap.size ∧ h1 ≠ w.heap.size by omega)
  clear hU hap hzl hbl b13 z1 z2 z3 l1 l2 l3 s1 o0 o1 o2 b1 b2 b3 eh0 eh1 eh2 eg hwl HX HF HB
  go_loopw [12] (fun iv wr => ∃ a : Nat, a ≤ 6 ∧ iv = .int .i64 a ∧ wr.ownsRow w.heap.size 3 1 (.slice (some ⟨h2, 0, none⟩) 36 36) 36 (ints (Co.udiag a)) ∧ UnitG w w.heap.size g (.slice (some ⟨h0, 0, none⟩) 6 6) (.slice (some ⟨h1, 0, none⟩) 6 6) (.slice (some ⟨h2, 0, none⟩) 36 36) wr) (fun i _ => 6 - (intOf i).toNat)
  case atStart => exact ⟨0, Nat.zero_le _, rfl, HO.out, HU.out⟩
  case round =>
    clear HO HU
    obtain ⟨a, ha, rfl, hO, hU⟩ := hrel
    have HO := Lib.hid hO
    have HU := Lib.hid hU
    clear hO hU
    by_cases hlt : a < 6
    · have k0 : decide ((a : Int) < 6) = true := by simp; omega
      obtain ⟨p, hp⟩ : ∃ p, p = a * 6 + a := ⟨_, rfl⟩
      have c0 := own_int HO.out (k := p) (by rw [Co.udiag_length]; omega)
      have f0 := HO.out.frozenAt p
      obtain ⟨x0, x1, x2⟩ := HU.out.2.2.1
      have HA3 := Lib.hid (show (a : Int) * 6 + (a : Int) = (p : Int) by omega)
      have k1 : (0 : Int) ≤ (p : Int) := by omega
      have k2 : (p : Int) < 36 := by omega
      have HP := Lib.hid hp
      clear hp x0 x1
      go_wp2_with fail
      go_still_tail 6, (by kernel_rfl)
      still_call ((relIndex_any _ _ _ (by omega) (by omega) (by omega) (by omega)).mono fun e w' ⟨h1, h2⟩ => ⟨by rw [h1, HA3.out], h2.symm⟩)
      repeat still_step
      refine wpStill_nil ?_
      change wpList _ _ _ _ _ wr.drew
      go_wp2
      go_roundw
      case rel =>
        have hs := (World.ownsRow.drew HO.out).stored p (.int .i64 0)
        refine ⟨a + 1, by omega, by go_num, ?_, (HU.out.drewN 1).kept hs.2⟩
        have := hs.1
        rw [ints_set, HP.out, Co.udiag_set a hlt, ← HP.out] at this
        exact this
      case measure => simp [intOf]; omega
    · obtain rfl : a = 6 := by omega
      obtain ⟨hx, hf, hy, o0, o1, a01, a02, a12, hB, hs, hgl, hb, h0', hsg⟩ := HU.out
      have k1 : decide (((6 : Nat) : Int) < 6) = false := rfl
      obtain ⟨y0, y1, y2⟩ := hy
      obtain ⟨x0, x1, x2⟩ := hx
      have f0 := hf 0
      have f1 := hf 1
      have f2 := hf 2
      have keep : ∀ (v : Value) (n : Nat) (ys : List Value) (u0 u1 u2 : Value), (∀ b, v.ownBlock = some b → b ≠ w.heap.size) → wr.ownsRow w.heap.size 3 1 v n ys → (((wr.setCell ⟨w.heap.size, 0, none⟩ u0).setCell ⟨w.heap.size, 1, none⟩ u1).setCell ⟨w.heap.size, 2, none⟩ u2).ownsRow w.heap.size 3 1 v n ys := fun v n ys u0 u1 u2 hne k => by
        have hap : v.ownBlock = none ∨ v.ownBlock ≠ some w.heap.size := by
          rcases hbv : v.ownBlock with _ | b
          · exact .inl rfl
          · exact .inr (fun e => hne b hbv (by injection e))
        exact World.ownsRow.kept (World.ownsRow.kept (World.ownsRow.kept k (Kit.grown_set _ _ _ _) hap) (Kit.grown_set _ _ _ _) hap) (Kit.grown_set _ _ _ _) hap
      have KP := Lib.hid keep
      have O0 := Lib.hid o0
      have O1 := Lib.hid o1
      have HA := Lib.hid (And.intro a01 (And.intro a02 a12))
      have HBW := Lib.hid hB
      have HN := Lib.hid hb
      clear hf o0 o1 a01 a02 a12 hB keep hgl hb
      go_wp2
      (try simp only [Exit.inBlock, Exit.then])
      refine bodyPost_ret (v := .agg #[.slice (some ⟨h0, 0, none⟩) 6 6, .slice (some ⟨h1, 0, none⟩) 6 6, .slice (some ⟨h2, 0, none⟩) 36 36]) ?_ rfl ?_
      · rw [results_cell1 rfl]
        go_simp
      · have hl : Co.unit.r.length = 36 := Co.urel_length 36
        have o2 := HO.out
        rw [Co.udiag_all] at o2
        refine ⟨some ⟨h0, 0, none⟩, some ⟨h1, 0, none⟩, some ⟨h2, 0, none⟩, 6, 6, 36, by rw [hl]; rfl, KP.out _ _ _ _ _ _ ?_ O0.out, KP.out _ _ _ _ _ _ ?_ O1.out, by rw [hl]; exact KP.out _ _ _ _ _ _ (fun b hb => (HN.out b hb).1) o2, HA.out.1, by rw [hl]; exact HA.out.2.1, by rw [hl]; exact HA.out.2.2, ((HBW.out.setCell (Nat.le_refl _) _).setCell (Nat.le_refl _) _).setCell (Nat.le_refl _) _⟩
        · intro b hb; obtain rfl : h0 = b := by simpa [Value.ownBlock] using hb
          exact HNE.out.1
        · intro b hb; obtain rfl : h1 = b := by simpa [Value.ownBlock] using hb
          exact HNE.out.2

end Go.Proofs.Ytgkkeejhfofcaaa

/- Laws over a code: codes that are too long; the code as bytes. -/
namespace Go.Proofs.Ytgkkeejhfofcaaa
open Go.RowKit
set_option linter.unusedVariables false

set_option maxHeartbeats 400000 in
theorem big_small (a : Option Addr) (n cap : Nat) (h : (n : Int) ≤ 1048576) (w : World) :
    Calls Try.prog 10 #[.slice a n cap] w fun e w' => e = .returned (.bool false) ∧ w = w' := by
  go_enter Try.func10, Try.ntmps10
  go_wp2
  go_ret
  exact ⟨Kit.ret_bool (by simp; try omega), rfl⟩
set_option maxHeartbeats 400000 in
theorem big_big (a : Option Addr) (n cap : Nat) (h : (1048576 : Int) < n) (w : World) :
    Calls Try.prog 10 #[.slice a n cap] w fun e w' => e = .returned (.bool true) ∧ w = w' := by
  go_enter Try.func10, Try.ntmps10
  go_wp2
  go_ret
  exact ⟨Kit.ret_bool (by simp; try omega), rfl⟩

theorem code_of {w : World} {a : Option Addr} {n cap : Nat} {zs : List Int} (h : Kit.BytesIn w a n cap zs) : (zs.take n).length = n ∧ CodeIn w w.heap.size a (zs.take n) := by
  rcases h with ⟨rfl, rfl, rfl, rfl⟩ | ⟨x, rfl, hl, hm, hz, hcell, hwz⟩
  · exact ⟨rfl, fun j hj => by simp at hj⟩
  · have hlen : (zs.take n).length = n := by simp; omega
    refine ⟨hlen, fun j hj => ?_⟩
    have hj' : j < n := by omega
    have hc := hcell j (by omega)
    obtain ⟨b, off, spot⟩ := x
    have hspot : spot = none := by
      have := World.cell?_spot (hcell 0 (by omega))
      simpa [Addr.add] using this
    subst hspot
    have e : ((⟨b, off, none⟩ : Addr).add j) = ⟨b, off + j, none⟩ := by unfold Addr.add; split <;> simp_all
    rw [e] at hc
    have hg : (zs.take n).getD j 0 = zs.getD j 0 := by simp [List.getD, hj']
    refine ⟨b, off, rfl, ?_, by rw [hg]; exact hc, ?_⟩
    · rcases Nat.lt_or_ge b w.heap.size with h' | h'
      · exact h'
      · simp [World.cell?, Array.getElem?_eq_none h'] at hc
    · rw [hg]
      have hm : zs.getD j 0 ∈ zs := by
        rw [List.getD_eq_getElem?_getD, List.getElem?_eq_getElem (by omega)]
        exact List.getElem_mem _
      have := hwz _ hm
      simp only [List.getD_eq_getElem?_getD] at this ⊢
      simp [Lit.wf, IntKind.min, IntKind.max, IntKind.signed, IntKind.bits] at this
      omega


end Go.Proofs.Ytgkkeejhfofcaaa

/- Contracts (Sam). -/
namespace Go.Proofs.Ytgkkeejhfofcaaa
open Go.RowKit
set_option linter.unusedVariables false

theorem Un.none_self {xs : Tr} (hx : Tr.ok xs = true) : Un.to (Bm.best xs xs Co.unit) xs.length = [] ∧ Un.to (Tr.turn (Bm.best xs xs Co.unit)) xs.length = [] := by
  obtain ⟨_, _, m3, m4⟩ := Bm.best_self hx
  have no : ∀ (M : Tr), M.length = xs.length → (∀ k, k < xs.length → Tr.l M k = k) → ∀ i, i ≤ xs.length → Un.to M i = [] := fun M hl hM i => by
    induction i with
    | zero => intro _; rfl
    | succ i ih =>
      intro hi
      rw [Un.to_yes (Un.has_hit (hM i (by omega)) (by omega)), ih (by omega)]
  refine ⟨no _ m3 (fun k hk => (m4 k hk).1) _ (Nat.le_refl _), no _ (by simp [Tr.turn, m3]) (fun k hk => ?_) _ (Nat.le_refl _)⟩
  have h := (m4 k hk).2
  rw [← h]
  unfold Tr.turn Tr.l Tr.d
  rw [List.getD_eq_getElem?_getD, List.getD_eq_getElem?_getD, List.getElem?_map, List.getElem?_eq_getElem (by omega)]
  rfl
set_option maxHeartbeats 3200000 in
set_option maxRecDepth 100000 in
theorem same_any (k : Code) (w : World) (hcode : CodeIn w w.heap.size k.a k.cs) (hlen : k.cs.length ≤ 1048576) :
    Calls Try.prog 3 #[.slice k.a k.cs.length k.cap] w fun e w' => e = .returned (.bool true) ∧ Below w.heap.size w w' := by
  have HC := Lib.hid hcode
  clear hcode
  obtain ⟨K, hK⟩ : ∃ K, K = Co.unit := ⟨_, rfl⟩
  have HKL := Lib.hid (show K.d.length ≤ 1048576 ∧ K.i.length ≤ 1048576 ∧ K.r.length ≤ 1048576 by rw [hK]; exact ⟨by decide, by decide, by decide⟩)
  have HU := Lib.hid (show ∀ w, Calls Try.prog 14 #[] w (OwnCo K w) by rw [hK]; exact implUnitCost_any)
  have HK := Lib.hid hK
  clear hK
  go_enter Try.func3, Try.ntmps3
  go_wp2_with fail
  refine (big_small _ _ _ (by omega) _).mono ?_
  rintro e w0 ⟨rfl, rfl⟩
  go_wp2_with fail
  refine (drawST_ex w k HC.out hlen).mono ?_
  rintro e w1 ⟨xs, ys, A, A', n, n', cp, cp', rfl, ha, hb, hcp, hcp', hn, hn', hbl⟩
  have HN0 := Lib.hid ha
  have HN1 := Lib.hid hb
  have HW := Lib.hid hbl
  have L0 := Lib.hid ha.1
  have L1 := Lib.hid hb.1
  have hsm : xs = ys → n = n' := fun e => by rw [← ha.1, ← hb.1, e]
  clear ha hb hbl
  obtain ⟨bs, hbs⟩ : ∃ bs, bs = decide (xs = ys) := ⟨_, rfl⟩
  have HBS := Lib.hid hbs
  go_wp2_with fail
  refine (specTreeOk_any A n cp xs w1 HN0.out (by omega)).mono ?_
  rintro e w2 ⟨rfl, hd⟩
  have hb := hd.toBelow (B := w1.heap.size)
  have HN0 := Lib.hid (HN0.out.to_below hb)
  have HN1 := Lib.hid (HN1.out.to_below hb)
  have HW := Lib.hid (HW.out.trans (hb.mono HW.out.size))
  clear hb hd
  obtain ⟨ox, hox⟩ : ∃ ox, ox = Tr.ok xs := ⟨_, rfl⟩
  obtain ⟨oy, hoy⟩ : ∃ oy, oy = Tr.ok ys := ⟨_, rfl⟩
  rw [← hox]
  have HOX := Lib.hid hox
  have HOY := Lib.hid hoy
  have HSM := Lib.hid (show bs = true → n = n' from fun e => hsm (of_decide_eq_true (by rw [← HBS.out]; exact e)))
  clear hox hoy hbs hsm
  cases hgo : (ox && oy) with
  | false =>
    have CS := Lib.hid (fun (wq : World) (hq : Below w2.heap.size w2 wq) => show Calls Try.prog 13 #[.slice A n cp, .slice A' n' cp'] wq (fun e w' => e = .returned (.bool bs) ∧ Drawn wq w') from by rw [HBS.out]; exact implSameTree_any A A' n cp n' cp' xs ys wq (HN0.out.to_below hq) (by omega) (HN1.out.to_below hq) (by omega))
    have fin : ∀ wq, Below w2.heap.size w2 wq → Below w.heap.size w wq := fun wq hq => HW.out.trans (hq.mono HW.out.size)
    have HFin := Lib.hid fin
    clear fin
    cases ox with
    | false =>
      go_wp2_with fail
      refine (CS.out _ (Below.refl _ _)).mono ?_
      rintro e w3 ⟨rfl, hd⟩
      have HB3 := Lib.hid (HFin.out _ hd.toBelow)
      clear hd hgo
      cases bs with
      | false =>
        go_wp2
        go_ret
        exact ⟨rfl, HB3.out⟩
      | true =>
        have hq : ((n : Int) == (n' : Int)) = true := by have := HSM.out rfl; simp [this]
        go_wp2
        go_ret
        exact ⟨rfl, HB3.out⟩
    | true =>
      have hoy : oy = false := by simpa using hgo
      subst hoy
      clear hgo
      go_wp2_with fail
      refine (specTreeOk_any A' n' cp' ys w2 HN1.out (by omega)).mono ?_
      rintro e w3 ⟨rfl, hd⟩
      rw [← HOY.out]
      have HB3 := Lib.hid (hd.toBelow (B := w2.heap.size))
      clear hd
      go_wp2_with fail
      refine (CS.out _ HB3.out).mono ?_
      rintro e w4 ⟨rfl, hd⟩
      have HB4 := Lib.hid (HFin.out _ (HB3.out.trans (hd.toBelow.mono HB3.out.size)))
      clear hd
      cases bs with
      | false =>
        go_wp2
        go_ret
        exact ⟨rfl, HB4.out⟩
      | true =>
        have hq : ((n : Int) == (n' : Int)) = true := by have := HSM.out rfl; simp [this]
        go_wp2
        go_ret
        exact ⟨rfl, HB4.out⟩
  | true =>
    obtain ⟨rfl, rfl⟩ : ox = true ∧ oy = true := by simpa using hgo
    have hx := HOX.out.symm
    have hy := HOY.out.symm
    obtain ⟨m1, m2, m3, m4⟩ := Bm.best_self hx
    have n24 := Tr.len24 hx
    have HM1 := Lib.hid (show Mp.ok xs xs (Bm.best xs xs K) = true ∧ Tr.rooted (Bm.best xs xs K) = true by rw [HK.out]; exact ⟨m1, m2⟩)
    have HML := Lib.hid (show (Bm.best xs xs K).length = n by rw [HK.out, m3]; exact L0.out)
    have HMD := Lib.hid (show ∀ q, q < n → Tr.l (Bm.best xs xs K) q = q ∧ Tr.d (Bm.best xs xs K) q = q by rw [HK.out, ← L0.out]; exact m4)
    have HUN := Lib.hid (show Un.to (Bm.best xs xs K) xs.length = [] ∧ Un.to (Tr.turn (Bm.best xs xs K)) xs.length = [] by rw [HK.out]; exact Un.none_self hx)
    have HZ := Lib.hid (show Tr.rootDist xs xs K = 0 by rw [HK.out]; exact (Tr.dist_zero hx hx).2 rfl)
    have HD := Lib.hid (show (Tr.rootDist xs ys K == 0) = bs by
      rw [HK.out, HBS.out]
      by_cases e : xs = ys
      · rw [decide_eq_true e, (Tr.dist_zero hx hy).2 e]; rfl
      · rw [decide_eq_false e]
        simp only [beq_eq_false_iff_ne]
        exact fun h => e ((Tr.dist_zero hx hy).1 h))
    clear hx hy m1 m2 m3 m4 hgo
    go_wp2_with fail
    refine (specTreeOk_any A' n' cp' ys w2 HN1.out (by omega)).mono ?_
    rintro e w3 ⟨rfl, hd⟩
    rw [← HOY.out]
    have hb := hd.toBelow (B := w2.heap.size)
    have HN0 := Lib.hid (HN0.out.to_below hb)
    have HN1 := Lib.hid (HN1.out.to_below hb)
    have HW := Lib.hid (HW.out.trans (hb.mono HW.out.size))
    clear hb hd
    go_wp2_with fail
    refine (HU.out _).mono ?_
    rintro e w4 ⟨U0, U1, U2, d0, d1, d2, rfl, o0, o1, o2, _, _, _, hb⟩
    have HN0 := Lib.hid (HN0.out.to_below hb)
    have HN1 := Lib.hid (HN1.out.to_below hb)
    have HW := Lib.hid (HW.out.trans (hb.mono HW.out.size))
    have HO := Lib.hid (show CoIn w4 w4.heap.size U0 U1 U2 K.d.length K.i.length K.r.length K from ⟨IntIn.of_own o0, IntIn.of_own o1, IntIn.of_own o2⟩)
    clear hb o0 o1 o2
    obtain ⟨wc, hwc⟩ : ∃ wb, wb = w4.alloc (.cells #[.slice U0 K.d.length d0, .slice U1 K.i.length d1, .slice U2 K.r.length d2] 31) := ⟨_, rfl⟩
    have hb : Below w4.heap.size w4 wc := by rw [hwc]; exact (Below.refl _ _).alloc (Nat.le_refl _) _
    have HN0 := Lib.hid (HN0.out.to_below hb)
    have HN1 := Lib.hid (HN1.out.to_below hb)
    have HO := Lib.hid (HO.out.to_below hb)
    have HW := Lib.hid (HW.out.trans (hb.mono HW.out.size))
    have Hwc := Lib.hid hwc
    have HB9 := Lib.hid (show Box3 wc w4.heap.size (.slice U0 K.d.length d0) (.slice U1 K.i.length d1) (.slice U2 K.r.length d2) by rw [hwc]; exact Box3.made _ _ _ _ _)
    have HG9 := Lib.hid (show w4.heap.size < wc.heap.size by rw [hwc]; simp)
    clear hb hwc
    obtain ⟨X, hX⟩ : ∃ X, X = Tr.rootDist xs ys K := ⟨_, rfl⟩
    rw [← hX] at HD
    have HX := Lib.hid hX
    clear hX
    obtain ⟨r0, r1, r2⟩ := HB9.out
    rw [Hwc.out] at r0 r1 r2
    go_wp2_with fail
    clear r0 r1 r2
    rw [← Hwc.out]
    refine (implRootDist_any (c := _) (c' := _) (c0 := _) (c1 := _) (c2 := _) (ha := HN0.out) (hb := HN1.out) (hk := HO.out) (hn := by omega) (hn' := by omega) (h0 := HKL.out.1) (h1 := HKL.out.2.1) (h2 := HKL.out.2.2) (hc := hcp) (hc' := hcp')).mono ?_
    rintro e w5 ⟨rfl, hb⟩
    have HN0 := Lib.hid (HN0.out.to_below hb)
    have HN1 := Lib.hid (HN1.out.to_below hb)
    have HO := Lib.hid (HO.out.to_below hb)
    have HW := Lib.hid (HW.out.trans (hb.mono HW.out.size))
    have HB9 := Lib.hid (HB9.out.below hb HG9.out)
    have HG9 := Lib.hid (Nat.lt_of_lt_of_le HG9.out hb.size)
    clear hb
    rw [← HX.out]
    obtain ⟨r0, r1, r2⟩ := HB9.out
    go_wp2_with fail
    clear r0 r1 r2
    refine (implBestMap_any A A n n cp cp xs xs U0 U1 U2 _ _ _ d0 d1 d2 K w5 HN0.out HN0.out HO.out (by omega) (by omega) HKL.out.1 HKL.out.2.1 HKL.out.2.2 hcp hcp).mono ?_
    rintro e w6 ⟨A6, c6, rfl, ho6, hb⟩
    have HO6 := Lib.hid ho6
    have HN0 := Lib.hid (HN0.out.to_below hb)
    have HN1 := Lib.hid (HN1.out.to_below hb)
    have HO := Lib.hid (HO.out.to_below hb)
    have HW := Lib.hid (HW.out.trans (hb.mono HW.out.size))
    have HB9 := Lib.hid (HB9.out.below hb HG9.out)
    have HG9 := Lib.hid (Nat.lt_of_lt_of_le HG9.out hb.size)
    clear hb ho6
    go_wp2_with fail
    refine (implLower_none A A A6 n n _ cp cp c6 xs xs (Bm.best xs xs K) w6 HN0.out HN0.out (NdIn.of_own HO6.out) (by omega) (by omega) (by rw [HML.out]; omega) hcp hcp (own_cap HO6.out) HM1.out.1 HM1.out.2 (fun q hq => by rw [HML.out] at hq; obtain ⟨u1, u2⟩ := HMD.out q hq; exact ⟨q, q, u1, u2, hq, hq, rfl⟩) HUN.out.1 HUN.out.2).mono ?_
    rintro e w7 ⟨A7, c7, rfl, hb⟩
    have HN0 := Lib.hid (HN0.out.to_below hb)
    have HN1 := Lib.hid (HN1.out.to_below hb)
    have HO := Lib.hid (HO.out.to_below hb)
    have HW := Lib.hid (HW.out.trans (hb.mono HW.out.size))
    have HB9 := Lib.hid (HB9.out.below hb HG9.out)
    have HG9 := Lib.hid (Nat.lt_of_lt_of_le HG9.out hb.size)
    clear hb
    obtain ⟨r0, r1, r2⟩ := HB9.out
    go_wp2_with fail
    clear r0 r1 r2
    refine (implRootDist_any (c := _) (c' := _) (c0 := _) (c1 := _) (c2 := _) (ha := HN0.out) (hb := HN0.out) (hk := HO.out) (hn := by omega) (hn' := by omega) (h0 := HKL.out.1) (h1 := HKL.out.2.1) (h2 := HKL.out.2.2) (hc := hcp) (hc' := hcp)).mono ?_
    rintro e w8 ⟨rfl, hb⟩
    have HN0 := Lib.hid (HN0.out.to_below hb)
    have HN1 := Lib.hid (HN1.out.to_below hb)
    have HW := Lib.hid (HW.out.trans (hb.mono HW.out.size))
    clear hb
    rw [HZ.out]
    have hX0 := HD.out
    go_wp2_with fail
    refine (specSameTree_any A A' n cp n' cp' xs ys _ HN0.out (by omega) HN1.out (by omega)).mono ?_
    rintro e w9 ⟨rfl, hd⟩
    have hb := hd.toBelow (B := w8.heap.size)
    have HN0 := Lib.hid (HN0.out.to_below hb)
    have HN1 := Lib.hid (HN1.out.to_below hb)
    have HW := Lib.hid (HW.out.trans (hb.mono HW.out.size))
    clear hb hd
    rw [← HBS.out]
    cases bs with
    | false =>
      go_wp2_with fail
      refine (implSameTree_any A A' n cp n' cp' xs ys _ HN0.out (by omega) HN1.out (by omega)).mono ?_
      rintro e w10 ⟨rfl, hd⟩
      have hb := hd.toBelow (B := w9.heap.size)
      have HN0 := Lib.hid (HN0.out.to_below hb)
      have HN1 := Lib.hid (HN1.out.to_below hb)
      have HW := Lib.hid (HW.out.trans (hb.mono HW.out.size))
      clear hb hd
      rw [← HBS.out]
      go_wp2_with fail
      refine (specSameTree_any A A' n cp n' cp' xs ys _ HN0.out (by omega) HN1.out (by omega)).mono ?_
      rintro e w11 ⟨rfl, hd⟩
      have HW := Lib.hid (HW.out.trans ((hd.toBelow (B := w10.heap.size)).mono HW.out.size))
      clear hd
      rw [← HBS.out]
      go_wp2
      go_ret
      exact ⟨rfl, HW.out⟩
    | true =>
      go_wp2_with fail
      refine (implSameTree_any A A' n cp n' cp' xs ys _ HN0.out (by omega) HN1.out (by omega)).mono ?_
      rintro e w10 ⟨rfl, hd⟩
      have hb := hd.toBelow (B := w9.heap.size)
      have HN0 := Lib.hid (HN0.out.to_below hb)
      have HN1 := Lib.hid (HN1.out.to_below hb)
      have HW := Lib.hid (HW.out.trans (hb.mono HW.out.size))
      clear hb hd
      rw [← HBS.out]
      go_wp2_with fail
      refine (specSameTree_any A A' n cp n' cp' xs ys _ HN0.out (by omega) HN1.out (by omega)).mono ?_
      rintro e w11 ⟨rfl, hd⟩
      have HW := Lib.hid (HW.out.trans ((hd.toBelow (B := w10.heap.size)).mono HW.out.size))
      clear hd
      rw [← HBS.out]
      go_wp2
      go_ret
      exact ⟨rfl, HW.out⟩

end Go.Proofs.Ytgkkeejhfofcaaa
