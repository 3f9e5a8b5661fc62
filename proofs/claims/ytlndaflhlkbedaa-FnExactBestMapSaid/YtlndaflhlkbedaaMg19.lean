/- Texts of one claim laid into one file, in build order: ExSlow, ForM, DelI, InsI, DrFo, Fiv, Frs, ExForests. -/
import Derived.Test.YtlndaflhlkbedaaMg18
import Derived.Deep.RegionHeld3
import Derived.Outline
/- Contracts (ExSlow). -/
namespace Go.Proofs.Ytlndaflhlkbedaa
open Go.RowKit
set_option linter.unusedVariables false

set_option maxHeartbeats 400000 in
theorem fnSlow_walk (a : Option Addr) (n cap : Nat) (zs : List Int) (w : World) (hz : Kit.BytesIn w a n cap zs) :
    Calls Try.prog 3 #[.slice a n cap] w fun e w' => e = .returned (.bool true) ∧ Below w.heap.size w w' := by
  by_cases hb : (1048576 : Int) < n
  · clear hz
    go_enter Try.func3, Try.ntmps3
    go_wp2_with fail
    refine (big_big _ _ _ hb _).mono ?_
    rintro e w0 ⟨rfl, rfl⟩
    go_wp2
    go_ret
    exact ⟨rfl, Below.refl _ _⟩
  · obtain ⟨hl, hcode⟩ := code_of hz
    have h := slow_any ⟨a, zs.take n, cap⟩ w hcode (by simp only; omega)
    simp only [hl] at h
    exact h

end Go.Proofs.Ytlndaflhlkbedaa

/- Contracts (ForM). -/
namespace Go.Proofs.Ytlndaflhlkbedaa
open Go.RowKit
set_option linter.unusedVariables false

theorem Tr.fdist_yes {xs ys : Tr} {k : Co} (h : DOk xs ys k = true) {i j p q : Nat} (h1 : i ≤ j) (h2 : j ≤ xs.length) (h3 : p ≤ q) (h4 : q ≤ ys.length) : Tr.fdist xs ys k i j p q = RR xs ys k i j p q := by
  unfold Tr.fdist
  rw [if_pos ⟨h, ⟨by omega, by omega, by omega⟩, by omega, by omega, by omega⟩]
  simp
theorem Tr.fdist_no {xs ys : Tr} {k : Co} {i j p q : Int} (h : ¬ (DOk xs ys k = true ∧ (0 ≤ i ∧ i ≤ j ∧ j ≤ xs.length) ∧ (0 ≤ p ∧ p ≤ q ∧ q ≤ ys.length))) : Tr.fdist xs ys k i j p q = -1 := if_neg h
theorem RR_cat {xs ys : Tr} {k : Co} (i j p q : Nat) : RR xs ys k i j p q ≤ RR xs ys k i j p p + RR xs ys k i i p q := by
  have e1 : fr (Tr.la xs) (Tr.xa xs) i i = .nil := fr_nil (Nat.le_refl _)
  have e2 : fr (Tr.la ys) (Tr.xa ys) p p = .nil := fr_nil (Nat.le_refl _)
  have h := FD_cat (Co.cs k) _ (fr (Tr.la xs) (Tr.xa xs) i j) .nil .nil (fr (Tr.la ys) (Tr.xa ys) p q) rfl
  rw [Fst.nil_cat] at h
  show RD _ _ _ _ _ _ _ _ _ ≤ RD _ _ _ _ _ _ _ _ _ + RD _ _ _ _ _ _ _ _ _
  unfold RD
  rw [e1, e2]
  have e3 : (fr (Tr.la xs) (Tr.xa xs) i j).cat .nil = fr (Tr.la xs) (Tr.xa xs) i j := by rw [Fst.cat]
  rw [e3] at h
  exact h
theorem RR_more {xs ys : Tr} {k : Co} (hx : Tr.ok xs = true) {i j p q : Nat} (hi : i ≤ j) (hj : j < xs.length) : RR xs ys k i (j + 1) p q ≤ RR xs ys k i j p q + Co.del k (Tr.xa xs j) := by
  show RD _ _ _ _ _ _ _ _ _ ≤ RD _ _ _ _ _ _ _ _ _ + (Co.cs k).del _
  unfold RD
  rw [fr_succ (Tr.la_nest hx) hi hj]
  refine Int.le_trans (FD_del _ _ _ _ _) ?_
  rw [fr_open (Tr.la_nest hx) hi hj]
  exact Int.le_refl _
/-- a place's node and its label -/
theorem Tr.post_lab {xs : Tr} (hx : Tr.ok xs = true) {x : Nat} (h : x < xs.length) : ∃ u : Nat, u < xs.length ∧ Zs.at (Zs.up (Tr.post xs)) x = (u : Int) ∧ Tr.l xs u = Tr.xa xs x := by
  obtain ⟨i, h1, h2, _⟩ := Tr.post_get hx h
  refine ⟨i, h1, Tr.post_z h2, ?_⟩
  simp [Tr.xa, Tr.lab, List.getD_eq_getElem?_getD, h2]

end Go.Proofs.Ytlndaflhlkbedaa

/- Contracts (DelI). -/
namespace Go.Proofs.Ytlndaflhlkbedaa
open Go.RowKit
set_option linter.unusedVariables false

set_option maxHeartbeats 1600000 in
set_option maxRecDepth 100000 in
theorem implDelCost_any (A0 A1 A2 : Option Addr) (n0 n1 n2 c0 c1 c2 : Nat) (k : Co) (a : Int) (w : World) (h : CoIn w w.heap.size A0 A1 A2 n0 n1 n2 k) (h0 : n0 ≤ 1048576) (h1 : n1 ≤ 1048576) (h2 : n2 ≤ 1048576) :
    Calls Try.prog 32 #[.agg #[.slice A0 n0 c0, .slice A1 n1 c1, .slice A2 n2 c2], .int .i64 a] w fun e w' => e = .returned (.int .i64 (Co.del k a)) ∧ Below w.heap.size w w' := by
  have H := Lib.hid h
  have HL := Lib.hid h.len
  clear h
  have HB := Lib.hid ((Below.refl w.heap.size w).alloc (Nat.le_refl _) (.cells #[.slice A0 n0 c0, .slice A1 n1 c1, .slice A2 n2 c2] 27))
  have H1 := Lib.hid (H.out.to_below HB.out)
  cases e0 : Co.ok k with
  | false =>
    have Hf := Lib.hid (show Co.del k a = 0 by unfold Co.del; rw [e0]; rfl)
    have E0 := Lib.hid e0
    clear e0
    go_enter Try.func32, Try.ntmps32
    go_wp2_with fail
    refine (implCostOk_any _ _ _ _ _ _ _ _ _ k _ H1.out h0 h1 h2).mono ?_
    rintro e w1 ⟨rfl, hb⟩
    have HB := Lib.hid (HB.out.trans (hb.mono HB.out.size))
    clear hb
    rw [E0.out]
    go_wp2
    go_ret
    exact ⟨Kit.ret_int Hf.out.symm, HB.out⟩
  | true =>
    cases e1 : Lab.ok a with
    | false =>
      have Hf := Lib.hid (show Co.del k a = 0 by unfold Co.del; rw [e0, e1]; rfl)
      have E0 := Lib.hid e0
      have E1 := Lib.hid e1
      clear e0 e1
      go_enter Try.func32, Try.ntmps32
      go_wp2_with fail
      refine (implCostOk_any _ _ _ _ _ _ _ _ _ k _ H1.out h0 h1 h2).mono ?_
      rintro e w1 ⟨rfl, hb⟩
      have HB := Lib.hid (HB.out.trans (hb.mono HB.out.size))
      clear hb
      rw [E0.out]
      go_wp2_with fail
      refine (implLabelOk_any _ _).mono ?_
      rintro e w2 ⟨rfl, rfl⟩
      rw [E1.out]
      go_wp2
      go_ret
      exact ⟨Kit.ret_int Hf.out.symm, HB.out⟩
    | true =>
      have hl := (Co.ok_iff.1 e0)
      have hd := (Zs.fit_iff.1 hl.1).1
      have ha : 0 ≤ a ∧ a ≤ 5 := by simpa [Lab.ok] using e1
      obtain ⟨j, rfl⟩ := Int.eq_ofNat_of_zero_le ha.1
      have Hf := Lib.hid (show Co.del k (j : Int) = Zs.at k.d j by unfold Co.del; rw [e0, e1]; rfl)
      have E0 := Lib.hid e0
      have E1 := Lib.hid e1
      have hn6 : n0 = 6 := by rw [← hd]; exact HL.out.1.symm
      clear e0 e1 hl hd
      subst hn6
      obtain ⟨ad, rfl, _⟩ := H1.out.1.2.1 (by omega)
      have hj : j < 6 := by omega
      have j0 : (0 : Int) ≤ (j : Int) := by omega
      have j1 : (j : Int) < 6 := by omega
      have g0 : (w.alloc (.cells #[.slice (some ad) 6 c0, .slice A1 n1 c1, .slice A2 n2 c2] 27)).cell? ⟨w.heap.size, 0, none⟩ = some (.slice (some ad) 6 c0) := by simp
      have f0 := HB.out
      go_enter Try.func32, Try.ntmps32
      go_wp2_with fail
      refine (implCostOk_any _ _ _ _ _ _ _ _ _ k _ H1.out h0 h1 h2).mono ?_
      rintro e w1 ⟨rfl, hb⟩
      have HB := Lib.hid (HB.out.trans (hb.mono HB.out.size))
      have H1 := Lib.hid (H1.out.to_below hb)
      have g1 := (hb.cell (p := ⟨w.heap.size, 0, none⟩) (by simp)).trans g0
      have c1' := H1.out.1.here (k := j) hj
      clear hb g0 f0
      rw [E0.out]
      go_wp2_with fail
      refine (implLabelOk_any _ _).mono ?_
      rintro e w2 ⟨rfl, rfl⟩
      rw [E1.out]
      go_wp2
      go_ret
      exact ⟨Kit.ret_int Hf.out.symm, HB.out⟩

end Go.Proofs.Ytlndaflhlkbedaa

/- Contracts (InsI). -/
namespace Go.Proofs.Ytlndaflhlkbedaa
open Go.RowKit
set_option linter.unusedVariables false

set_option maxHeartbeats 1600000 in
set_option maxRecDepth 100000 in
theorem implInsCost_any (A0 A1 A2 : Option Addr) (n0 n1 n2 c0 c1 c2 : Nat) (k : Co) (a : Int) (w : World) (h : CoIn w w.heap.size A0 A1 A2 n0 n1 n2 k) (h0 : n0 ≤ 1048576) (h1 : n1 ≤ 1048576) (h2 : n2 ≤ 1048576) :
    Calls Try.prog 33 #[.agg #[.slice A0 n0 c0, .slice A1 n1 c1, .slice A2 n2 c2], .int .i64 a] w fun e w' => e = .returned (.int .i64 (Co.ins k a)) ∧ Below w.heap.size w w' := by
  have H := Lib.hid h
  have HL := Lib.hid h.len
  clear h
  have HB := Lib.hid ((Below.refl w.heap.size w).alloc (Nat.le_refl _) (.cells #[.slice A0 n0 c0, .slice A1 n1 c1, .slice A2 n2 c2] 27))
  have H1 := Lib.hid (H.out.to_below HB.out)
  cases e0 : Co.ok k with
  | false =>
    have Hf := Lib.hid (show Co.ins k a = 0 by unfold Co.ins; rw [e0]; rfl)
    have E0 := Lib.hid e0
    clear e0
    go_enter Try.func33, Try.ntmps33
    go_wp2_with fail
    refine (implCostOk_any _ _ _ _ _ _ _ _ _ k _ H1.out h0 h1 h2).mono ?_
    rintro e w1 ⟨rfl, hb⟩
    have HB := Lib.hid (HB.out.trans (hb.mono HB.out.size))
    clear hb
    rw [E0.out]
    go_wp2
    go_ret
    exact ⟨Kit.ret_int Hf.out.symm, HB.out⟩
  | true =>
    cases e1 : Lab.ok a with
    | false =>
      have Hf := Lib.hid (show Co.ins k a = 0 by unfold Co.ins; rw [e0, e1]; rfl)
      have E0 := Lib.hid e0
      have E1 := Lib.hid e1
      clear e0 e1
      go_enter Try.func33, Try.ntmps33
      go_wp2_with fail
      refine (implCostOk_any _ _ _ _ _ _ _ _ _ k _ H1.out h0 h1 h2).mono ?_
      rintro e w1 ⟨rfl, hb⟩
      have HB := Lib.hid (HB.out.trans (hb.mono HB.out.size))
      clear hb
      rw [E0.out]
      go_wp2_with fail
      refine (implLabelOk_any _ _).mono ?_
      rintro e w2 ⟨rfl, rfl⟩
      rw [E1.out]
      go_wp2
      go_ret
      exact ⟨Kit.ret_int Hf.out.symm, HB.out⟩
    | true =>
      have hl := (Co.ok_iff.1 e0)
      have hd := (Zs.fit_iff.1 hl.2.1).1
      have ha : 0 ≤ a ∧ a ≤ 5 := by simpa [Lab.ok] using e1
      obtain ⟨j, rfl⟩ := Int.eq_ofNat_of_zero_le ha.1
      have Hf := Lib.hid (show Co.ins k (j : Int) = Zs.at k.i j by unfold Co.ins; rw [e0, e1]; rfl)
      have E0 := Lib.hid e0
      have E1 := Lib.hid e1
      have hn6 : n1 = 6 := by rw [← hd]; exact HL.out.2.1.symm
      clear e0 e1 hl hd
      subst hn6
      obtain ⟨ad, rfl, _⟩ := H1.out.2.1.2.1 (by omega)
      have hj : j < 6 := by omega
      have j0 : (0 : Int) ≤ (j : Int) := by omega
      have j1 : (j : Int) < 6 := by omega
      have g0 : (w.alloc (.cells #[.slice A0 n0 c0, .slice (some ad) 6 c1, .slice A2 n2 c2] 27)).cell? ⟨w.heap.size, 1, none⟩ = some (.slice (some ad) 6 c1) := by simp
      have f0 := HB.out
      go_enter Try.func33, Try.ntmps33
      go_wp2_with fail
      refine (implCostOk_any _ _ _ _ _ _ _ _ _ k _ H1.out h0 h1 h2).mono ?_
      rintro e w1 ⟨rfl, hb⟩
      have HB := Lib.hid (HB.out.trans (hb.mono HB.out.size))
      have H1 := Lib.hid (H1.out.to_below hb)
      have g1 := (hb.cell (p := ⟨w.heap.size, 1, none⟩) (by simp)).trans g0
      have c1' := H1.out.2.1.here (k := j) hj
      clear hb g0 f0
      rw [E0.out]
      go_wp2_with fail
      refine (implLabelOk_any _ _).mono ?_
      rintro e w2 ⟨rfl, rfl⟩
      rw [E1.out]
      go_wp2
      go_ret
      exact ⟨Kit.ret_int Hf.out.symm, HB.out⟩

end Go.Proofs.Ytlndaflhlkbedaa

/- Contracts (DrFo). -/
namespace Go.Proofs.Ytlndaflhlkbedaa
open Go.RowKit
set_option linter.unusedVariables false

theorem results_seven {fn : Func} {t2 t3 t4 t5 t6 t7 p : Tmp} {ty : TypeId} (h : fn.results = #[.tmp t2, .tmp t3, .tmp t4, .tmp t5, .tmp t6, .tmp t7, .cell p ty]) (tmps : Array Value) (P : Program) (w : World) :
    (results fn tmps).run P w = ((asAddr (tmps.getD p undef)).run P w).andThen fun a w₁ => ((loadVar ty a).run P w₁).andThen fun x w₂ => .ok (.tuple #[tmps.getD t2 undef, tmps.getD t3 undef, tmps.getD t4 undef, tmps.getD t5 undef, tmps.getD t6 undef, tmps.getD t7 undef, x]) w₂ := by
  simp only [results, h]
  simp [Sem.run_bind, Result.andThen]
def DrawT7 (w : World) (e : Ending) (w' : World) : Prop :=
  ∃ (xs ys : Tr) (A A' : Option Addr) (n n' cp cp' h0 h2 c0 c2 : Nat) (A1 : Option Addr) (n1 q1 : Nat) (K : Co) (i0 i1 i2 i3 : Int), e = .returned (.tuple #[.slice A n cp, .int .i64 i0, .int .i64 i1, .slice A' n' cp', .int .i64 i2, .int .i64 i3, .agg #[.slice (some ⟨h0, 0, none⟩) 6 c0, .slice A1 n1 q1, .slice (some ⟨h2, 0, none⟩) 36 c2]]) ∧
    NdIn w' w'.heap.size A n xs ∧ NdIn w' w'.heap.size A' n' ys ∧ n ≤ cp ∧ n' ≤ cp' ∧ n ≤ 31 ∧ n' ≤ 31 ∧ (n1 = 6 ∨ n1 = 5) ∧ CoIn w' w'.heap.size (some ⟨h0, 0, none⟩) A1 (some ⟨h2, 0, none⟩) 6 n1 36 K ∧ Below w.heap.size w w'
/-- the draw under way: the cursor in B, the result's variable in s, the costs' in t; rows from lo on -/
structure D7 (B s t lo : Nat) (k : Code) (A A' : Option Addr) (n n' : Nat) (xs ys : Tr) (A0 A1 A2 : Option Addr) (n1 : Nat) (K : Co) (v0 v1 v2 : Value) (w wq : World) : Prop where
  cur : CurX wq B k
  bs : Box3 wq s (.slice none 0 0) (.slice none 0 0) (.slice none 0 0)
  fz : ∀ off, wq.frozen? ⟨s, off, none⟩ = false
  bt : Box3 wq t v0 v1 v2
  lt : s < wq.heap.size ∧ t < wq.heap.size ∧ s < lo ∧ B < lo ∧ s ≠ B ∧ t ≠ B ∧ t ≠ s ∧ w.heap.size ≤ s ∧ w.heap.size ≤ B ∧ lo ≤ t
  na : NdIn wq wq.heap.size A n xs
  nb : NdIn wq wq.heap.size A' n' ys
  k0 : IntIn wq wq.heap.size A0 6 K.d
  k1 : IntIn wq wq.heap.size A1 n1 K.i
  k2 : IntIn wq wq.heap.size A2 36 K.r
  la : (∀ ad, A = some ad → lo ≤ ad.block) ∧ (∀ ad, A' = some ad → lo ≤ ad.block) ∧ (∀ ad, A0 = some ad → lo ≤ ad.block) ∧ (∀ ad, A1 = some ad → lo ≤ ad.block) ∧ ∀ ad, A2 = some ad → lo ≤ ad.block
  bl : Below w.heap.size w wq
section
variable {B s t lo : Nat} {k : Code} {A A' : Option Addr} {n n' : Nat} {xs ys : Tr} {A0 A1 A2 : Option Addr} {n1 : Nat} {K : Co} {v0 v1 v2 : Value} {w wq w' : World}
theorem D7.step (h : D7 B s t lo k A A' n n' xs ys A0 A1 A2 n1 K v0 v1 v2 w wq) (c : CurX w' B k) (g : wq.grownBy w' (some B)) : D7 B s t lo k A A' n n' xs ys A0 A1 A2 n1 K v0 v1 v2 w w' := by
  obtain ⟨l1, l2, l3, l4, l5, l6, l7, l8, l9, l10⟩ := h.lt
  have hr : ∀ b, some B = some b → b < lo := fun b e => by injection e with e; omega
  have z := g.size
  exact ⟨c, h.bs.grown g l1 (fun b e => by injection e with e; omega), free_kept g l1 (fun b e => by injection e with e; omega) h.fz, h.bt.grown g l2 (fun b e => by injection e with e; omega), ⟨by omega, by omega, l3, l4, l5, l6, l7, l8, l9, l10⟩,
    h.na.keepLo h.la.1 g hr, h.nb.keepLo h.la.2.1 g hr, h.k0.keepLo h.la.2.2.1 g hr, h.k1.keepLo h.la.2.2.2.1 g hr, h.k2.keepLo h.la.2.2.2.2 g hr, h.la, h.bl.trans (Kit.below_of_grown g (fun b e => by injection e with e; omega) h.bl.size)⟩
end
set_option maxHeartbeats 3200000 in
set_option maxRecDepth 100000 in
theorem l9DrawForestDist_ex (w : World) (k : Code) (hcode : CodeIn w w.heap.size k.a k.cs) (hlen : k.cs.length ≤ 1048576) :
    Calls Try.prog 30 #[.slice k.a k.cs.length k.cap] w (DrawT7 w) := by
  obtain ⟨wz, hwz⟩ : ∃ wz, wz = w.alloc (.cells #[.slice none 0 0, .slice none 0 0, .slice none 0 0] 27) := ⟨_, rfl⟩
  obtain ⟨s, hs⟩ : ∃ s, s = w.heap.size := ⟨_, rfl⟩
  have hbz : Below w.heap.size w wz := by rw [hwz]; exact (Below.refl _ _).alloc (Nat.le_refl _) _
  have zz : wz.heap.size = s + 1 := by rw [hwz, hs]; simp
  have HX := Lib.hid (show Box3 wz s (.slice none 0 0) (.slice none 0 0) (.slice none 0 0) by rw [hwz, hs]; exact Box3.made _ _ _ _ _)
  have HF := Lib.hid (show ∀ off, wz.frozen? ⟨s, off, none⟩ = false by rw [hwz, hs]; exact fun off => by simp)
  have HC := Lib.hid (CodeIn.onto hcode hbz hbz.size)
  have HBZ := Lib.hid (show Below s w wz by rw [hs]; exact hbz)
  have HS := Lib.hid hs
  have HZ := Lib.hid zz
  have HW := Lib.hid hwz
  clear hcode hbz hs zz hwz
  go_enter Try.func30, Try.ntmps30
  go_wp2_with fail
  rw [← HW.out, ← HS.out]
  refine (l1New_ex _ k HC.out hlen).mono ?_
  rintro e w1 ⟨rfl, c, g1⟩
  have HX := Lib.hid (HX.out.grown g1 (by have := HZ.out; omega) (fun b e => by cases e))
  have HF := Lib.hid (free_kept g1 (by have := HZ.out; omega) (fun b e => by cases e) HF.out)
  have HB := Lib.hid (HBZ.out.trans ((Below.refl _ _).grown g1 (by have := HZ.out; omega) (fun b e => by cases e)))
  have l1 := g1.size
  have HQ := Lib.hid c
  have hsz : s < wz.heap.size := by have := HZ.out; omega
  clear c g1
  go_wp2_with fail
  refine (l8Draw_ex w1 _ k 6 (by decide) HQ.out).mono ?_
  rintro e w2 ⟨xs, ys, A, A', n, n', cp, cp', h0, h2, c0, c2, A1, n1, q1, K, rfl, ha, hb, hcp, hcp', hn, hn', hn1, hk, g, hcur, ⟨e0, e1, e2⟩, ea, eb⟩
  have HX := Lib.hid (HX.out.grown g (by omega) (fun b e => by injection e with e; omega))
  have HF := Lib.hid (free_kept g (by omega) (fun b e => by injection e with e; omega) HF.out)
  have HB := Lib.hid (HB.out.trans (Kit.below_of_grown g (fun b e => by injection e with e; omega) (by omega)))
  have l2 := g.size
  obtain ⟨w3, hw3⟩ : ∃ w3, w3 = w2.alloc (.cells #[.slice (some ⟨h0, 0, none⟩) 6 c0, .slice A1 n1 q1, .slice (some ⟨h2, 0, none⟩) 36 c2] 27) := ⟨_, rfl⟩
  have z3 : w3.heap.size = w2.heap.size + 1 := by rw [hw3]; simp
  have ga : w2.grownBy w3 none := by rw [hw3]; exact Kit.grown_alloc _ _ _
  have q3 := (show Box3 w3 w2.heap.size (.slice (some ⟨h0, 0, none⟩) 6 c0) (.slice A1 n1 q1) (.slice (some ⟨h2, 0, none⟩) 36 c2) by rw [hw3]; exact Box3.made _ _ _ _ _)
  have r1 : ∀ b, (none : Option Nat) = some b → b < w1.heap.size := fun b e => by cases e
  have f0 : ∀ ad, (some ⟨h0, 0, none⟩ : Option Addr) = some ad → w1.heap.size ≤ ad.block := fun ad e => by injection e with e; rw [← e]; exact e0
  have f2 : ∀ ad, (some ⟨h2, 0, none⟩ : Option Addr) = some ad → w1.heap.size ≤ ad.block := fun ad e => by injection e with e; rw [← e]; exact e2
  have hBl := HQ.out.lt
  have hZl := HZ.out
  have hSl := HS.out
  have HB3 := Lib.hid (HB.out.trans ((Below.refl _ _).grown ga (by omega) (fun b e => by cases e)))
  have GD := Lib.hid (show D7 wz.heap.size s w2.heap.size w1.heap.size k A A' n n' xs ys (some ⟨h0, 0, none⟩) A1 (some ⟨h2, 0, none⟩) n1 K (.slice (some ⟨h0, 0, none⟩) 6 c0) (.slice A1 n1 q1) (.slice (some ⟨h2, 0, none⟩) 36 c2) w w3 from
    ⟨hcur.kept ga (fun b e => by cases e), HX.out.grown ga (by omega) (fun b e => by cases e), free_kept ga (by omega) (fun b e => by cases e) HF.out, q3, ⟨by omega, by omega, by omega, hBl, by omega, by omega, by omega, by omega, by omega, l2⟩,
      ha.keepLo ea ga r1, hb.keepLo eb ga r1, hk.1.keepLo f0 ga r1, hk.2.1.keepLo e1 ga r1, hk.2.2.keepLo f2 ga r1, ⟨ea, eb, f0, e1, f2⟩, by rw [← HS.out]; exact HB3.out⟩)
  have HW3 := Lib.hid hw3
  have L0 := Lib.hid (And.intro hcp (And.intro hcp' (And.intro hn (And.intro hn' hn1))))
  have ba : (n : Int) ≤ 31 := by omega
  have bb : (n' : Int) ≤ 31 := by omega
  clear hBl hZl hSl ha hb hk g hcur hw3 z3 ga q3 r1 f0 f2 HB3 e0 e1 e2 ea eb HX HF HB HQ HC HBZ hsz l1 l2 hcp hcp' hn hn' hn1 HW
  have a1 : IntKind.i64.wrap ((n : Int) + 1) = (n : Int) + 1 := Kit.w64 (by omega) (by omega)
  have a2 : IntKind.i64.wrap ((n' : Int) + 1) = (n' : Int) + 1 := Kit.w64 (by omega) (by omega)
  go_wp2_with fail
  rw [← HW3.out]
  refine (l1Below_ex w3 _ k _ GD.out.cur).mono ?_
  rintro e w4 ⟨u0, rfl, hu0, hc, hg⟩
  have GD := Lib.hid (GD.out.step hc hg)
  clear hc hg
  have b0 : (u0 : Int) ≤ 31 := by omega
  go_wp2_with fail
  refine (l1Below_ex w4 _ k _ GD.out.cur).mono ?_
  rintro e w5 ⟨u2, rfl, hu2, hc, hg⟩
  have GD := Lib.hid (GD.out.step hc hg)
  clear hc hg
  have b2 : (u2 : Int) ≤ 31 := by omega
  go_wp2_with fail
  refine (l1Below_ex w5 _ k _ GD.out.cur).mono ?_
  rintro e w6 ⟨u1, rfl, hu1, hc, hg⟩
  have GD := Lib.hid (GD.out.step hc hg)
  clear hc hg
  have b1 : (u1 : Int) ≤ 32 := by omega
  go_wp2_with fail
  refine (l1Below_ex w6 _ k _ GD.out.cur).mono ?_
  rintro e w7 ⟨u3, rfl, hu3, hc, hg⟩
  have GD := Lib.hid (GD.out.step hc hg)
  clear hc hg
  have b3 : (u3 : Int) ≤ 32 := by omega
  clear hu0 hu1 hu2 hu3
  go_wp2_with fail
  refine (l1Once_ex w7 _ k _ GD.out.cur).mono ?_
  rintro e w8 ⟨b, rfl, hc, hg⟩
  have GD := Lib.hid (GD.out.step hc hg)
  clear hc hg
  cases b with
  | false =>
    as_aux_lemma =>
      go_wp2_with fail
      obtain ⟨x0, x1, x2⟩ := GD.out.bs
      obtain ⟨y0, y1, y2⟩ := GD.out.bt
      have f0 := GD.out.fz 0
      have f1 := GD.out.fz 1
      have f2 := GD.out.fz 2
      have hne := Lib.hid GD.out.lt
      have HE := Lib.hid (show ∀ v0 v1 v2 : Value, Below w.heap.size w (((w8.drew.setCell ⟨s, 0, none⟩ v0).setCell ⟨s, 1, none⟩ v1).setCell ⟨s, 2, none⟩ v2) ∧ w8.drew.grownBy (((w8.drew.setCell ⟨s, 0, none⟩ v0).setCell ⟨s, 1, none⟩ v1).setCell ⟨s, 2, none⟩ v2) (some s) from fun v0 v1 v2 =>
        ⟨(((Drawn.below GD.out.bl (Drawn.refl _).drew).setCell (by exact hne.out.2.2.2.2.2.2.2.1) v0).setCell (by exact hne.out.2.2.2.2.2.2.2.1) v1).setCell (by exact hne.out.2.2.2.2.2.2.2.1) v2, Kit.grown_then_set (Kit.grown_then_set (Kit.grown_set _ _ _ _) _ _) _ _⟩)
      go_still_tail 13, (by kernel_rfl)
      change wpList _ _ _ _ _ w8.drew
      go_wp2
      (try simp only [Exit.inBlock, Exit.then])
      refine bodyPost_ret (v := .tuple #[.slice A n cp, .int .i64 u0, .int .i64 (u0 + u1), .slice A' n' cp', .int .i64 u2, .int .i64 (u2 + u3), .agg #[.slice (some ⟨h0, 0, none⟩) 6 c0, .slice A1 n1 q1, .slice (some ⟨h2, 0, none⟩) 36 c2]]) ?_ rfl ?_
      · rw [results_seven rfl]
        go_simp
      · obtain ⟨p1, p2, p3, p4, p5⟩ := L0.out
        obtain ⟨hB, hG⟩ := HE.out (.slice (some ⟨h0, 0, none⟩) 6 c0) (.slice A1 n1 q1) (.slice (some ⟨h2, 0, none⟩) 36 c2)
        have r0 : ∀ b, (none : Option Nat) = some b → b < w1.heap.size := fun b e => by cases e
        have r2 : ∀ b, some s = some b → b < w1.heap.size := fun b e => by injection e with e; have := hne.out.2.2.1; omega
        have gd : w8.grownBy w8.drew none := ⟨rfl, rfl, rfl, Nat.le_refl _, fun _ _ _ => rfl⟩
        obtain ⟨l1, l2, l3, l4, l5⟩ := GD.out.la
        exact ⟨xs, ys, _, _, _, _, _, _, _, _, _, _, _, _, _, K, _, _, _, _, rfl, (GD.out.na.keepLo l1 gd r0).keepLo l1 hG r2, (GD.out.nb.keepLo l2 gd r0).keepLo l2 hG r2, p1, p2, p3, p4, p5, ⟨(GD.out.k0.keepLo l3 gd r0).keepLo l3 hG r2, (GD.out.k1.keepLo l4 gd r0).keepLo l4 hG r2, (GD.out.k2.keepLo l5 gd r0).keepLo l5 hG r2⟩, hB⟩
  | true =>
    as_aux_lemma =>
      go_wp2_with fail
      refine (l1PickInt_lit w8 _ k GD.out.cur _ _ [-1, (n : Int) + 1, (u0 : Int) - 1] 3 rfl rfl (by decide) (by decide)).mono ?_
      rintro e w9 ⟨v, rfl, hc, hg⟩
      have GD := Lib.hid (GD.out.step hc hg)
      clear hc hg
      go_wp2_with fail
      obtain ⟨x0, x1, x2⟩ := GD.out.bs
      obtain ⟨y0, y1, y2⟩ := GD.out.bt
      have f0 := GD.out.fz 0
      have f1 := GD.out.fz 1
      have f2 := GD.out.fz 2
      have hne := Lib.hid GD.out.lt
      have HE := Lib.hid (show ∀ v0 v1 v2 : Value, Below w.heap.size w (((w9.drew.setCell ⟨s, 0, none⟩ v0).setCell ⟨s, 1, none⟩ v1).setCell ⟨s, 2, none⟩ v2) ∧ w9.drew.grownBy (((w9.drew.setCell ⟨s, 0, none⟩ v0).setCell ⟨s, 1, none⟩ v1).setCell ⟨s, 2, none⟩ v2) (some s) from fun v0 v1 v2 =>
        ⟨(((Drawn.below GD.out.bl (Drawn.refl _).drew).setCell (by exact hne.out.2.2.2.2.2.2.2.1) v0).setCell (by exact hne.out.2.2.2.2.2.2.2.1) v1).setCell (by exact hne.out.2.2.2.2.2.2.2.1) v2, Kit.grown_then_set (Kit.grown_then_set (Kit.grown_set _ _ _ _) _ _) _ _⟩)
      go_still_tail 13, (by kernel_rfl)
      change wpList _ _ _ _ _ w9.drew
      go_wp2
      (try simp only [Exit.inBlock, Exit.then])
      refine bodyPost_ret (v := .tuple #[.slice A n cp, .int .i64 u0, .int .i64 (v), .slice A' n' cp', .int .i64 u2, .int .i64 (u2 + u3), .agg #[.slice (some ⟨h0, 0, none⟩) 6 c0, .slice A1 n1 q1, .slice (some ⟨h2, 0, none⟩) 36 c2]]) ?_ rfl ?_
      · rw [results_seven rfl]
        go_simp
      · obtain ⟨p1, p2, p3, p4, p5⟩ := L0.out
        obtain ⟨hB, hG⟩ := HE.out (.slice (some ⟨h0, 0, none⟩) 6 c0) (.slice A1 n1 q1) (.slice (some ⟨h2, 0, none⟩) 36 c2)
        have r0 : ∀ b, (none : Option Nat) = some b → b < w1.heap.size := fun b e => by cases e
        have r2 : ∀ b, some s = some b → b < w1.heap.size := fun b e => by injection e with e; have := hne.out.2.2.1; omega
        have gd : w9.grownBy w9.drew none := ⟨rfl, rfl, rfl, Nat.le_refl _, fun _ _ _ => rfl⟩
        obtain ⟨l1, l2, l3, l4, l5⟩ := GD.out.la
        exact ⟨xs, ys, _, _, _, _, _, _, _, _, _, _, _, _, _, K, _, _, _, _, rfl, (GD.out.na.keepLo l1 gd r0).keepLo l1 hG r2, (GD.out.nb.keepLo l2 gd r0).keepLo l2 hG r2, p1, p2, p3, p4, p5, ⟨(GD.out.k0.keepLo l3 gd r0).keepLo l3 hG r2, (GD.out.k1.keepLo l4 gd r0).keepLo l4 hG r2, (GD.out.k2.keepLo l5 gd r0).keepLo l5 hG r2⟩, hB⟩

end Go.Proofs.Ytlndaflhlkbedaa

/- Contracts (Fiv). -/
namespace Go.Proofs.Ytlndaflhlkbedaa
open Go.RowKit
set_option linter.unusedVariables false

section
variable {wa wx wy : World} {b : Nat} {p q : Addr} {v0 v1 v2 v3 v4 : Value}
theorem fv_below (h : ((wx.cell? ⟨b, 0, none⟩ = some v0 ∧ wx.cell? ⟨b, 1, none⟩ = some v1 ∧ wx.cell? ⟨b, 2, none⟩ = some v2) ∧ (wx.cell? p = some v3 ∧ wx.cell? q = some v4)) ∧ BelA wa wx) : Below wa.heap.size wa wx := h.2
theorem fv_keep (h : ((wx.cell? ⟨b, 0, none⟩ = some v0 ∧ wx.cell? ⟨b, 1, none⟩ = some v1 ∧ wx.cell? ⟨b, 2, none⟩ = some v2) ∧ (wx.cell? p = some v3 ∧ wx.cell? q = some v4)) ∧ BelA wa wx) (hb : Below wx.heap.size wx wy) : ((wy.cell? ⟨b, 0, none⟩ = some v0 ∧ wy.cell? ⟨b, 1, none⟩ = some v1 ∧ wy.cell? ⟨b, 2, none⟩ = some v2) ∧ (wy.cell? p = some v3 ∧ wy.cell? q = some v4)) ∧ BelA wa wy :=
  have c : ∀ {p : Addr} {v : Value}, wx.cell? p = some v → wy.cell? p = some v := fun hc => (hb.cell (World.block_lt_of_cell? _ _ hc)).trans hc
  ⟨⟨⟨c h.1.1.1, c h.1.1.2.1, c h.1.1.2.2⟩, c h.1.2.1, c h.1.2.2⟩, h.2.trans (hb.mono h.2.size)⟩
end

end Go.Proofs.Ytlndaflhlkbedaa

/- Contracts (Frs). -/
namespace Go.Proofs.Ytlndaflhlkbedaa
open Go.RowKit
set_option linter.unusedVariables false

set_option maxHeartbeats 3200000 in
set_option maxRecDepth 100000 in
theorem forests_any (k : Code) (w : World) (hcode : CodeIn w w.heap.size k.a k.cs) (hlen : k.cs.length ≤ 1048576) :
    Calls Try.prog 5 #[.slice k.a k.cs.length k.cap] w fun e w' => e = .returned (.bool true) ∧ Below w.heap.size w w' := by
  have HC := Lib.hid hcode
  clear hcode
  go_enter Try.func5, Try.ntmps5
  go_wp2_with fail
  refine (big_small _ _ _ (by omega) _).mono ?_
  rintro e w0 ⟨rfl, rfl⟩
  go_wp2_with fail
  refine (l9DrawForestDist_ex w k HC.out hlen).mono ?_
  rintro e w1 ⟨xs, ys, A, A', n, n', cp, cp', h0, h2, c0, c2, A1, n1, q1, K, i0, i1, i2, i3, rfl, ha, hb, hcp, hcp', hn, hn', hn1, hk, hbl⟩
  obtain ⟨wa, hwa⟩ : ∃ wb, wb = w1.alloc (.cells #[.slice (some ⟨h0, 0, none⟩) 6 c0, .slice A1 n1 q1, .slice (some ⟨h2, 0, none⟩) 36 c2] 27) := ⟨_, rfl⟩
  have hba : Below w1.heap.size w1 wa := by rw [hwa]; exact (Below.refl _ _).alloc (Nat.le_refl _) _
  have HN0 := Lib.hid (ha.to_below hba)
  have HN1 := Lib.hid (hb.to_below hba)
  have HK := Lib.hid (hk.to_below hba)
  have HW := Lib.hid (hbl.trans (hba.mono hbl.size))
  have HQ := Lib.hid (show Box3 wa w1.heap.size (.slice (some ⟨h0, 0, none⟩) 6 c0) (.slice A1 n1 q1) (.slice (some ⟨h2, 0, none⟩) 36 c2) by rw [hwa]; exact Box3.made _ _ _ _ _)
  have Hwa := Lib.hid hwa
  have L0 := Lib.hid ha.1
  have L1 := Lib.hid hb.1
  have hN1 : n1 ≤ 1048576 := by rcases hn1 with h | h <;> omega
  have hs0 : n ≤ 1048576 := by omega
  have hs1 : n' ≤ 1048576 := by omega
  clear ha hb hk hbl hba hwa
  by_cases hv : DOk xs ys K = true ∧ (0 ≤ i0 ∧ i0 ≤ i1 ∧ i1 ≤ (xs.length : Int)) ∧ (0 ≤ i2 ∧ i2 ≤ i3 ∧ i3 ≤ (ys.length : Int))
  rotate_left
  · have E := Lib.hid (Tr.fdist_no hv)
    have C1 := Lib.hid (fun (wq : World) (hb : Below wa.heap.size wa wq) => show Calls Try.prog 27 #[.slice A n cp, .int .i64 (i0), .int .i64 (i1), .slice A' n' cp', .int .i64 (i2), .int .i64 (i3), .agg #[.slice (some ⟨h0, 0, none⟩) 6 c0, .slice A1 n1 q1, .slice (some ⟨h2, 0, none⟩) 36 c2]] wq fun e w' => e = .returned (.int .i64 (-1)) ∧ Below wq.heap.size wq w' from by
      have h := implForestDist_any (c := cp) (c' := cp') (c0 := c0) (c1 := q1) (c2 := c2) (ha := HN0.out.to_below hb) (hb := HN1.out.to_below hb) (hk := HK.out.to_below hb) (i0 := i0) (i1 := i1) (i2 := i2) (i3 := i3) (hn := hs0) (hn' := hs1) (h0 := by decide) (h1 := hN1) (h2 := by decide) (hc := hcp) (hc' := hcp')
      rw [E.out] at h
      exact h)
    have C2 := Lib.hid (fun (wq : World) (hb : Below wa.heap.size wa wq) => show Calls Try.prog 31 #[.slice A n cp, .int .i64 (i0), .int .i64 (i1), .slice A' n' cp', .int .i64 (i2), .int .i64 (i3), .agg #[.slice (some ⟨h0, 0, none⟩) 6 c0, .slice A1 n1 q1, .slice (some ⟨h2, 0, none⟩) 36 c2]] wq fun e w' => e = .returned (.int .i64 (-1)) ∧ Below wq.heap.size wq w' from by
      have h := specForestDist_any (c := cp) (c' := cp') (c0 := c0) (c1 := q1) (c2 := c2) (ha := HN0.out.to_below hb) (hb := HN1.out.to_below hb) (hk := HK.out.to_below hb) (i0 := i0) (i1 := i1) (i2 := i2) (i3 := i3) (hn := hs0) (hn' := hs1) (h0 := by decide) (h1 := hN1) (h2 := by decide)
      rw [E.out] at h
      exact h)
    clear hv
    as_aux_lemma =>
      have HB := Lib.hid (Below.refl wa.heap.size wa)
      obtain ⟨r0, r1, r2⟩ := HQ.out
      rw [Hwa.out] at r0 r1 r2
      go_wp2_with fail
      clear r0 r1 r2
      rw [← Hwa.out]
      refine (C1.out _ HB.out).mono ?_
      rintro e w2 ⟨rfl, hb⟩
      have HB := Lib.hid (HB.out.trans (hb.mono HB.out.size))
      clear hb
      obtain ⟨r0, r1, r2⟩ := (show Box3 _ w1.heap.size (.slice (some ⟨h0, 0, none⟩) 6 c0) (.slice A1 n1 q1) (.slice (some ⟨h2, 0, none⟩) 36 c2) from ⟨(HB.out.cell (World.block_lt_of_cell? _ _ HQ.out.1)).trans HQ.out.1, (HB.out.cell (World.block_lt_of_cell? _ _ HQ.out.2.1)).trans HQ.out.2.1, (HB.out.cell (World.block_lt_of_cell? _ _ HQ.out.2.2)).trans HQ.out.2.2⟩)
      go_wp2_with fail
      refine (C2.out _ HB.out).mono ?_
      rintro e w3 ⟨rfl, hb⟩
      have HB := Lib.hid (HB.out.trans (hb.mono HB.out.size))
      clear hb r0 r1 r2
      obtain ⟨r0, r1, r2⟩ := (show Box3 _ w1.heap.size (.slice (some ⟨h0, 0, none⟩) 6 c0) (.slice A1 n1 q1) (.slice (some ⟨h2, 0, none⟩) 36 c2) from ⟨(HB.out.cell (World.block_lt_of_cell? _ _ HQ.out.1)).trans HQ.out.1, (HB.out.cell (World.block_lt_of_cell? _ _ HQ.out.2.1)).trans HQ.out.2.1, (HB.out.cell (World.block_lt_of_cell? _ _ HQ.out.2.2)).trans HQ.out.2.2⟩)
      go_wp2_with fail
      refine (C2.out _ HB.out).mono ?_
      rintro e w4 ⟨rfl, hb⟩
      have HB := Lib.hid (HB.out.trans (hb.mono HB.out.size))
      clear hb r0 r1 r2
      go_wp2
      go_ret
      exact ⟨rfl, HW.out.trans (HB.out.mono HW.out.size)⟩
  obtain ⟨hd, ⟨v1, v2, v3⟩, v4, v5, v6⟩ := hv
  obtain ⟨ox, oy, ok⟩ := DOk.parts hd
  obtain ⟨x1, x24⟩ := Tr.len24 ox
  obtain ⟨y1, y24⟩ := Tr.len24 oy
  obtain rfl : n = xs.length := L0.out.symm
  obtain rfl : n' = ys.length := L1.out.symm
  obtain ⟨ad, rfl, _⟩ := HN0.out.2.1 (by omega)
  obtain ⟨bd, rfl, _⟩ := HN1.out.2.1 (by omega)
  obtain ⟨i, rfl⟩ := Int.eq_ofNat_of_zero_le v1
  obtain ⟨j, rfl⟩ := Int.eq_ofNat_of_zero_le (Int.le_trans v1 v2)
  obtain ⟨p, rfl⟩ := Int.eq_ofNat_of_zero_le v4
  obtain ⟨q, rfl⟩ := Int.eq_ofNat_of_zero_le (Int.le_trans v4 v5)
  have hij : i ≤ j := by omega
  have hj : j ≤ xs.length := by omega
  have hpq : p ≤ q := by omega
  have hq : q ≤ ys.length := by omega
  clear v1 v2 v3 v4 v5 v6
  obtain ⟨G, hG⟩ : ∃ G, G = RR xs ys K i j p q := ⟨_, rfl⟩
  obtain ⟨X, hX⟩ : ∃ G, G = RR xs ys K i j p p := ⟨_, rfl⟩
  obtain ⟨Y, hY⟩ : ∃ G, G = RR xs ys K i i p q := ⟨_, rfl⟩
  have bG := RR_bound (k := K) ox oy (p := i) (a := j) (q := p) (b := q) hij hj hpq hq
  have bX := RR_bound (k := K) ox oy (p := i) (a := j) (q := p) (b := p) hij hj (Nat.le_refl _) (by omega)
  have bY := RR_bound (k := K) ox oy (p := i) (a := i) (q := p) (b := q) (Nat.le_refl _) (by omega) hpq hq
  have hle := RR_cat (xs := xs) (ys := ys) (k := K) i j p q
  rw [← hG] at bG hle
  rw [← hX] at bX hle
  rw [← hY] at bY hle
  have E0 := Lib.hid (show Tr.fdist xs ys K i j p q = G by rw [hG]; exact Tr.fdist_yes hd hij hj hpq hq)
  have E1 := Lib.hid (show Tr.fdist xs ys K i j p p = X by rw [hX]; exact Tr.fdist_yes hd hij hj (Nat.le_refl _) (by omega))
  have E2 := Lib.hid (show Tr.fdist xs ys K i i p q = Y by rw [hY]; exact Tr.fdist_yes hd (Nat.le_refl _) (by omega) hpq hq)
  have C1 := Lib.hid (fun (wq : World) (hb : Below wa.heap.size wa wq) => show Calls Try.prog 27 #[.slice (some ad) xs.length cp, .int .i64 (i), .int .i64 (j), .slice (some bd) ys.length cp', .int .i64 (p), .int .i64 (q), .agg #[.slice (some ⟨h0, 0, none⟩) 6 c0, .slice A1 n1 q1, .slice (some ⟨h2, 0, none⟩) 36 c2]] wq fun e w' => e = .returned (.int .i64 G) ∧ Below wq.heap.size wq w' from by
    have h := implForestDist_any (c := cp) (c' := cp') (c0 := c0) (c1 := q1) (c2 := c2) (ha := HN0.out.to_below hb) (hb := HN1.out.to_below hb) (hk := HK.out.to_below hb) (i0 := i) (i1 := j) (i2 := p) (i3 := q) (hn := hs0) (hn' := hs1) (h0 := by decide) (h1 := hN1) (h2 := by decide) (hc := hcp) (hc' := hcp')
    rw [E0.out] at h
    exact h)
  have C2 := Lib.hid (fun (wq : World) (hb : Below wa.heap.size wa wq) => show Calls Try.prog 31 #[.slice (some ad) xs.length cp, .int .i64 (i), .int .i64 (j), .slice (some bd) ys.length cp', .int .i64 (p), .int .i64 (q), .agg #[.slice (some ⟨h0, 0, none⟩) 6 c0, .slice A1 n1 q1, .slice (some ⟨h2, 0, none⟩) 36 c2]] wq fun e w' => e = .returned (.int .i64 G) ∧ Below wq.heap.size wq w' from by
    have h := specForestDist_any (c := cp) (c' := cp') (c0 := c0) (c1 := q1) (c2 := c2) (ha := HN0.out.to_below hb) (hb := HN1.out.to_below hb) (hk := HK.out.to_below hb) (i0 := i) (i1 := j) (i2 := p) (i3 := q) (hn := hs0) (hn' := hs1) (h0 := by decide) (h1 := hN1) (h2 := by decide)
    rw [E0.out] at h
    exact h)
  have C3 := Lib.hid (fun (wq : World) (hb : Below wa.heap.size wa wq) => show Calls Try.prog 27 #[.slice (some ad) xs.length cp, .int .i64 (i), .int .i64 (j), .slice (some bd) ys.length cp', .int .i64 (p), .int .i64 (p), .agg #[.slice (some ⟨h0, 0, none⟩) 6 c0, .slice A1 n1 q1, .slice (some ⟨h2, 0, none⟩) 36 c2]] wq fun e w' => e = .returned (.int .i64 X) ∧ Below wq.heap.size wq w' from by
    have h := implForestDist_any (c := cp) (c' := cp') (c0 := c0) (c1 := q1) (c2 := c2) (ha := HN0.out.to_below hb) (hb := HN1.out.to_below hb) (hk := HK.out.to_below hb) (i0 := i) (i1 := j) (i2 := p) (i3 := p) (hn := hs0) (hn' := hs1) (h0 := by decide) (h1 := hN1) (h2 := by decide) (hc := hcp) (hc' := hcp')
    rw [E1.out] at h
    exact h)
  have C4 := Lib.hid (fun (wq : World) (hb : Below wa.heap.size wa wq) => show Calls Try.prog 27 #[.slice (some ad) xs.length cp, .int .i64 (i), .int .i64 (i), .slice (some bd) ys.length cp', .int .i64 (p), .int .i64 (q), .agg #[.slice (some ⟨h0, 0, none⟩) 6 c0, .slice A1 n1 q1, .slice (some ⟨h2, 0, none⟩) 36 c2]] wq fun e w' => e = .returned (.int .i64 Y) ∧ Below wq.heap.size wq w' from by
    have h := implForestDist_any (c := cp) (c' := cp') (c0 := c0) (c1 := q1) (c2 := c2) (ha := HN0.out.to_below hb) (hb := HN1.out.to_below hb) (hk := HK.out.to_below hb) (i0 := i) (i1 := i) (i2 := p) (i3 := q) (hn := hs0) (hn' := hs1) (h0 := by decide) (h1 := hN1) (h2 := by decide) (hc := hcp) (hc' := hcp')
    rw [E2.out] at h
    exact h)
  have BX := Lib.hid (fun x (a : i ≤ x) (b : x ≤ j) => RR_bound (k := K) ox oy (p := i) (a := x) (q := p) (b := p) a (by omega) (Nat.le_refl _) (by omega))
  have BY := Lib.hid (fun y (a : p ≤ y) (b : y ≤ q) => RR_bound (k := K) ox oy (p := i) (a := i) (q := p) (b := y) (Nat.le_refl _) (by omega) a (by omega))
  have LT := Lib.hid (fun x (a : i ≤ x) (b : x < j) => show RR xs ys K i (x + 1) p p = RR xs ys K i x p p + Co.del K (Tr.xa xs x) from RD_left (Tr.la_nest ox) a (by omega) (Nat.le_refl _))
  have RT := Lib.hid (fun y (a : p ≤ y) (b : y < q) => show RR xs ys K i i p (y + 1) = RR xs ys K i i p y + Co.ins K (Tr.xa ys y) from RD_right (Tr.la_nest oy) (Nat.le_refl _) a (by omega))
  have Z0 := Lib.hid (show RR xs ys K i i p p = 0 from RD_none (Nat.le_refl _) (Nat.le_refl _))
  obtain ⟨ZX, hZX⟩ : ∃ Z, Z = Zs.up (Tr.post xs) := ⟨_, rfl⟩
  obtain ⟨ZY, hZY⟩ : ∃ Z, Z = Zs.up (Tr.post ys) := ⟨_, rfl⟩
  have ZXL := Lib.hid (show ZX.length = xs.length by rw [hZX]; simp [Zs.up, Tr.post_length ox])
  have ZYL := Lib.hid (show ZY.length = ys.length by rw [hZY]; simp [Zs.up, Tr.post_length oy])
  have P1 := Lib.hid (fun (wq : World) (hb : Below wa.heap.size wa wq) => show Calls Try.prog 26 #[.slice (some ad) xs.length cp] wq (OwnInts 3 ZX wq) from by rw [hZX]; exact specPostOrder_any _ _ _ xs _ (HN0.out.to_below hb) hs0)
  have P2 := Lib.hid (fun (wq : World) (hb : Below wa.heap.size wa wq) => show Calls Try.prog 26 #[.slice (some bd) ys.length cp'] wq (OwnInts 3 ZY wq) from by rw [hZY]; exact specPostOrder_any _ _ _ ys _ (HN1.out.to_below hb) hs1)
  have ZXV := Lib.hid hZX
  have ZYV := Lib.hid hZY
  have OX := Lib.hid ox
  have OY := Lib.hid oy
  have HXV := Lib.hid hX
  have HYV := Lib.hid hY
  have HGV := Lib.hid hG
  have HD := Lib.hid hd
  have f1 : (G != G) = false := by simp
  have f2 : decide (G < 0) = false := decide_eq_false (by omega)
  have f3 : (X != X) = false := by simp
  have f4 : (Y != Y) = false := by simp
  have f5 : decide (X + Y < G) = false := decide_eq_false (by omega)
  have f6 : IntKind.i64.wrap (X + Y) = X + Y := Kit.w64 (by omega) (by omega)
  clear hd ox oy ok hZX hZY hX hY hG hle
  have HB := Lib.hid (Below.refl wa.heap.size wa)
  obtain ⟨r0, r1, r2⟩ := HQ.out
  rw [Hwa.out] at r0 r1 r2
  go_wp2_with fail
  clear r0 r1 r2
  rw [← Hwa.out]
  refine (C1.out _ HB.out).mono ?_
  rintro e w2 ⟨rfl, hb⟩
  have HB := Lib.hid (HB.out.trans (hb.mono HB.out.size))
  clear hb
  obtain ⟨r0, r1, r2⟩ := (show Box3 _ w1.heap.size (.slice (some ⟨h0, 0, none⟩) 6 c0) (.slice A1 n1 q1) (.slice (some ⟨h2, 0, none⟩) 36 c2) from ⟨(HB.out.cell (World.block_lt_of_cell? _ _ HQ.out.1)).trans HQ.out.1, (HB.out.cell (World.block_lt_of_cell? _ _ HQ.out.2.1)).trans HQ.out.2.1, (HB.out.cell (World.block_lt_of_cell? _ _ HQ.out.2.2)).trans HQ.out.2.2⟩)
  go_wp2_with fail
  refine (C2.out _ HB.out).mono ?_
  rintro e w3 ⟨rfl, hb⟩
  have HB := Lib.hid (HB.out.trans (hb.mono HB.out.size))
  clear hb r0 r1 r2
  go_wp2_with fail
  refine (P1.out _ HB.out).mono ?_
  rintro e w4 ⟨A2, d0, rfl, ho, hb⟩
  rw [ZXL.out] at ho ⊢
  obtain ⟨ga, rfl, _, _⟩ := own_form ho (by omega)
  have UA := Lib.hid ho
  have HB1 := Lib.hid hb
  have HB := Lib.hid (HB.out.trans (hb.mono HB.out.size))
  clear ho hb
  go_wp2_with fail
  refine (P2.out _ HB.out).mono ?_
  rintro e wb ⟨A2, d1, rfl, ho, hb⟩
  rw [ZYL.out] at ho ⊢
  obtain ⟨gb, rfl, _, _⟩ := own_form ho (by omega)
  have UA := Lib.hid (own_below UA.out hb)
  have UB := Lib.hid ho
  have HBB := Lib.hid (HB.out.trans (hb.mono HB.out.size))
  clear ho hb HB
  have HBX := Lib.hid (fun (wq : World) (hq : Below wb.heap.size wb wq) => show Box3 wq w1.heap.size (.slice (some ⟨h0, 0, none⟩) 6 c0) (.slice A1 n1 q1) (.slice (some ⟨h2, 0, none⟩) 36 c2) from
    have hh := HBB.out.trans (hq.mono HBB.out.size)
    ⟨(hh.cell (World.block_lt_of_cell? _ _ HQ.out.1)).trans HQ.out.1, (hh.cell (World.block_lt_of_cell? _ _ HQ.out.2.1)).trans HQ.out.2.1, (hh.cell (World.block_lt_of_cell? _ _ HQ.out.2.2)).trans HQ.out.2.2⟩)
  go_wp2
  go_loopw [13, 15] (fun sv pv wr => ∃ x : Nat, i ≤ x ∧ x ≤ j ∧ pv = .int .i64 x ∧ sv = .int .i64 (RR xs ys K i x p p) ∧ Below wb.heap.size wb wr) (fun _ pv _ => j - (intOf pv).toNat)
  case atStart => exact ⟨i, Nat.le_refl _, by omega, rfl, by rw [Z0.out], Below.refl _ _⟩
  case round =>
    obtain ⟨x, m1, m2, rfl, rfl, hR⟩ := hrel
    have HR := Lib.hid hR
    clear hR
    by_cases hlt : x < j
    · obtain ⟨u, hu, hz, hlab⟩ := Tr.post_lab OX.out (x := x) (by omega)
      have pc := own_int (own_below UA.out HR.out) (k := x) (by rw [ZXL.out]; omega)
      rw [ZXV.out, hz] at pc
      have lc := ((HN0.out.to_below (HBB.out.trans (HR.out.mono HBB.out.size))).here (k := u) hu).1
      rw [hlab] at lc
      obtain ⟨bx0, bx1, bx2⟩ := HBX.out wr HR.out
      have k0 : (0 : Int) ≤ (x : Int) := by omega
      have k1 : (x : Int) < (xs.length : Int) := by omega
      have k2 : (0 : Int) ≤ (u : Int) := by omega
      have k3 : (u : Int) < (xs.length : Int) := by omega
      obtain ⟨cv, hcv⟩ : ∃ c, c = Co.del K (Tr.xa xs x) := ⟨_, rfl⟩
      have bd1 := BX.out x m1 m2
      have bd2 := BX.out (x + 1) (by omega) (by omega)
      have hst : RR xs ys K i (x + 1) p p = RR xs ys K i x p p + cv := by rw [hcv]; exact LT.out x m1 hlt
      obtain ⟨s, hs⟩ : ∃ s, s = RR xs ys K i x p p := ⟨_, rfl⟩
      rw [← hs] at bd1 hst
      rw [hst] at bd2
      have a1 : IntKind.i64.wrap (s + cv) = s + cv := Kit.w64 (by omega) (by omega)
      have HST := Lib.hid hst
      have CC := Lib.hid (fun (wq : World) (hq : Below wr.heap.size wr wq) => show Calls Try.prog 32 #[.agg #[.slice (some ⟨h0, 0, none⟩) 6 c0, .slice A1 n1 q1, .slice (some ⟨h2, 0, none⟩) 36 c2], .int .i64 (Tr.xa xs x)] wq fun e w' => e = .returned (.int .i64 cv) ∧ Below wq.heap.size wq w' from by
        rw [hcv]
        exact implDelCost_any _ _ _ _ _ _ _ _ _ K (Tr.xa xs x) _ (HK.out.to_below ((HBB.out.trans (HR.out.mono HBB.out.size)).trans (hq.mono (HBB.out.trans (HR.out.mono HBB.out.size)).size))) (by decide) hN1 (by decide))
      rw [← hs]
      have S0 := Lib.hid (show ((wr.drew.cell? ⟨w1.heap.size, 0, none⟩ = some (.slice (some ⟨h0, 0, none⟩) 6 c0) ∧ wr.drew.cell? ⟨w1.heap.size, 1, none⟩ = some (.slice A1 n1 q1) ∧ wr.drew.cell? ⟨w1.heap.size, 2, none⟩ = some (.slice (some ⟨h2, 0, none⟩) 36 c2)) ∧ (wr.drew.cell? ⟨ga, x, none⟩ = some (.int .i64 (u : Int)) ∧ wr.drew.cell? (ad.add (u * 2)) = some (.int .i64 (Tr.xa xs x)))) ∧ BelA wr wr.drew from ⟨⟨⟨bx0, bx1, bx2⟩, pc, lc⟩, (Drawn.refl _).drew.toBelow⟩)
      clear hst hs hcv bd1 bd2 hz hlab pc lc bx0 bx1 bx2 hu
      go_wp2_with fail
      go_region_held3 (fun wq => ((wq.cell? ⟨w1.heap.size, 0, none⟩ = some (.slice (some ⟨h0, 0, none⟩) 6 c0) ∧ wq.cell? ⟨w1.heap.size, 1, none⟩ = some (.slice A1 n1 q1) ∧ wq.cell? ⟨w1.heap.size, 2, none⟩ = some (.slice (some ⟨h2, 0, none⟩) 36 c2)) ∧ (wq.cell? ⟨ga, x, none⟩ = some (.int .i64 (u : Int)) ∧ wq.cell? (ad.add (u * 2)) = some (.int .i64 (Tr.xa xs x)))) ∧ BelA wr wq) (first | (with_reducible exact SC) | (with_reducible exact S0.out)) (first | ((go_at_call 32; with_reducible refine (CC.out _ (fv_below (by assumption))).mono ?_); rintro e w5 ⟨rfl, hb5⟩; have SC := fv_keep (by assumption) hb5))
      have HR2 := Lib.hid (HR.out.trans ((fv_below SC).mono HR.out.size))
      go_wp2
      go_roundw
      case rel => exact ⟨x + 1, by omega, by omega, by go_num, by rw [HST.out], HR2.out⟩
      case measure => simp [intOf]; omega
    · obtain rfl : j = x := by omega
      rw [← HXV.out]
      clear m1 m2 hlt
      go_wp2
      go_loopw [14, 16] (fun sv pv wr => ∃ y : Nat, p ≤ y ∧ y ≤ q ∧ pv = .int .i64 y ∧ sv = .int .i64 (RR xs ys K i i p y) ∧ Below wb.heap.size wb wr) (fun _ pv _ => q - (intOf pv).toNat)
      case atStart => exact ⟨p, Nat.le_refl _, by omega, rfl, by rw [Z0.out], HR.out⟩
      case round =>
        obtain ⟨y, m1, m2, rfl, rfl, hR⟩ := hrel
        have HR := Lib.hid hR
        clear hR
        by_cases hlt : y < q
        · obtain ⟨u, hu, hz, hlab⟩ := Tr.post_lab OY.out (x := y) (by omega)
          have pc := own_int (own_below UB.out HR.out) (k := y) (by rw [ZYL.out]; omega)
          rw [ZYV.out, hz] at pc
          have lc := ((HN1.out.to_below (HBB.out.trans (HR.out.mono HBB.out.size))).here (k := u) hu).1
          rw [hlab] at lc
          obtain ⟨bx0, bx1, bx2⟩ := HBX.out wr HR.out
          have k0 : (0 : Int) ≤ (y : Int) := by omega
          have k1 : (y : Int) < (ys.length : Int) := by omega
          have k2 : (0 : Int) ≤ (u : Int) := by omega
          have k3 : (u : Int) < (ys.length : Int) := by omega
          obtain ⟨cv, hcv⟩ : ∃ c, c = Co.ins K (Tr.xa ys y) := ⟨_, rfl⟩
          have bd1 := BY.out y m1 m2
          have bd2 := BY.out (y + 1) (by omega) (by omega)
          have hst : RR xs ys K i i p (y + 1) = RR xs ys K i i p y + cv := by rw [hcv]; exact RT.out y m1 hlt
          obtain ⟨s, hs⟩ : ∃ s, s = RR xs ys K i i p y := ⟨_, rfl⟩
          rw [← hs] at bd1 hst
          rw [hst] at bd2
          have a1 : IntKind.i64.wrap (s + cv) = s + cv := Kit.w64 (by omega) (by omega)
          have HST := Lib.hid hst
          have CC := Lib.hid (fun (wq : World) (hq : Below wr.heap.size wr wq) => show Calls Try.prog 33 #[.agg #[.slice (some ⟨h0, 0, none⟩) 6 c0, .slice A1 n1 q1, .slice (some ⟨h2, 0, none⟩) 36 c2], .int .i64 (Tr.xa ys y)] wq fun e w' => e = .returned (.int .i64 cv) ∧ Below wq.heap.size wq w' from by
            rw [hcv]
            exact implInsCost_any _ _ _ _ _ _ _ _ _ K (Tr.xa ys y) _ (HK.out.to_below ((HBB.out.trans (HR.out.mono HBB.out.size)).trans (hq.mono (HBB.out.trans (HR.out.mono HBB.out.size)).size))) (by decide) hN1 (by decide))
          rw [← hs]
          have S0 := Lib.hid (show ((wr.drew.cell? ⟨w1.heap.size, 0, none⟩ = some (.slice (some ⟨h0, 0, none⟩) 6 c0) ∧ wr.drew.cell? ⟨w1.heap.size, 1, none⟩ = some (.slice A1 n1 q1) ∧ wr.drew.cell? ⟨w1.heap.size, 2, none⟩ = some (.slice (some ⟨h2, 0, none⟩) 36 c2)) ∧ (wr.drew.cell? ⟨gb, y, none⟩ = some (.int .i64 (u : Int)) ∧ wr.drew.cell? (bd.add (u * 2)) = some (.int .i64 (Tr.xa ys y)))) ∧ BelA wr wr.drew from ⟨⟨⟨bx0, bx1, bx2⟩, pc, lc⟩, (Drawn.refl _).drew.toBelow⟩)
          clear hst hs hcv bd1 bd2 hz hlab pc lc bx0 bx1 bx2 hu
          go_wp2_with fail
          go_region_held3 (fun wq => ((wq.cell? ⟨w1.heap.size, 0, none⟩ = some (.slice (some ⟨h0, 0, none⟩) 6 c0) ∧ wq.cell? ⟨w1.heap.size, 1, none⟩ = some (.slice A1 n1 q1) ∧ wq.cell? ⟨w1.heap.size, 2, none⟩ = some (.slice (some ⟨h2, 0, none⟩) 36 c2)) ∧ (wq.cell? ⟨gb, y, none⟩ = some (.int .i64 (u : Int)) ∧ wq.cell? (bd.add (u * 2)) = some (.int .i64 (Tr.xa ys y)))) ∧ BelA wr wq) (first | (with_reducible exact SC) | (with_reducible exact S0.out)) (first | ((go_at_call 33; with_reducible refine (CC.out _ (fv_below (by assumption))).mono ?_); rintro e w5 ⟨rfl, hb5⟩; have SC := fv_keep (by assumption) hb5))
          have HR2 := Lib.hid (HR.out.trans ((fv_below SC).mono HR.out.size))
          go_wp2
          go_roundw
          case rel => exact ⟨y + 1, by omega, by omega, by go_num, by rw [HST.out], HR2.out⟩
          case measure => simp [intOf]; omega
        · obtain rfl : q = y := by omega
          rw [← HYV.out]
          have HB := Lib.hid (HBB.out.trans (HR.out.mono HBB.out.size))
          clear m1 m2 hlt
          obtain ⟨r0, r1, r2⟩ := HBX.out _ HR.out
          go_wp2_with fail
          refine (C3.out _ HB.out).mono ?_
          rintro e w5 ⟨rfl, hb⟩
          have HR := Lib.hid (HR.out.trans (hb.mono HR.out.size))
          have HB := Lib.hid (HB.out.trans (hb.mono HB.out.size))
          clear hb r0 r1 r2
          obtain ⟨r0, r1, r2⟩ := HBX.out _ HR.out
          go_wp2_with fail
          refine (C4.out _ HB.out).mono ?_
          rintro e w6 ⟨rfl, hb⟩
          have HR := Lib.hid (HR.out.trans (hb.mono HR.out.size))
          have HB := Lib.hid (HB.out.trans (hb.mono HB.out.size))
          clear hb r0 r1 r2
          by_cases hij' : i = j
          · have g1 : ((j : Int) == (i : Int)) = true := by simp [hij']
            clear hij'
            as_aux_lemma =>
              go_wp2_with fail
              go_quiet (fail)
              go_wp2
              go_ret
              exact ⟨rfl, HW.out.trans ((Drawn.below HB.out ((Drawn.refl _).drewN _)).mono HW.out.size)⟩
          · have g1 : ((j : Int) == (i : Int)) = false := by simp; omega
            obtain ⟨j1, hj1⟩ : ∃ j1, j = j1 + 1 := ⟨j - 1, by omega⟩
            obtain ⟨u, hu, hz, hlab⟩ := Tr.post_lab OX.out (x := j1) (by omega)
            have pc := own_int (own_below UA.out HR.out) (k := j1) (by rw [ZXL.out]; omega)
            rw [ZXV.out, hz] at pc
            have lc := ((HN0.out.to_below HB.out).here (k := u) hu).1
            rw [hlab] at lc
            obtain ⟨bx0, bx1, bx2⟩ := HBX.out _ HR.out
            have k0 : (0 : Int) ≤ (j1 : Int) := by omega
            have k1 : (j1 : Int) < (xs.length : Int) := by omega
            have k2 : (0 : Int) ≤ (u : Int) := by omega
            have k3 : (u : Int) < (xs.length : Int) := by omega
            have aj : IntKind.i64.wrap ((j : Int) - 1) = (j1 : Int) := by rw [Kit.w64 (by omega) (by omega)]; omega
            obtain ⟨cv, hcv⟩ : ∃ c, c = Co.del K (Tr.xa xs j1) := ⟨_, rfl⟩
            obtain ⟨M, hM⟩ : ∃ c, c = RR xs ys K i j1 p q := ⟨_, rfl⟩
            have bM := RR_bound (k := K) OX.out OY.out (p := i) (a := j1) (q := p) (b := q) (by omega) (by omega) hpq hq
            have hmore := RR_more (ys := ys) (k := K) (p := p) (q := q) OX.out (i := i) (j := j1) (by omega) (by omega)
            rw [← hj1, ← hM, ← hcv, ← HGV.out] at hmore
            rw [← hM] at bM
            have bC := (Co.nonneg' K).1 (Tr.xa xs j1)
            rw [← hcv] at bC
            have E3 := Lib.hid (show Tr.fdist xs ys K i j1 p q = M by rw [hM]; exact Tr.fdist_yes HD.out (by omega) (by omega) hpq hq)
            have C5 := Lib.hid (fun (wq : World) (hb : Below wa.heap.size wa wq) => show Calls Try.prog 27 #[.slice (some ad) xs.length cp, .int .i64 (i), .int .i64 (j1), .slice (some bd) ys.length cp', .int .i64 (p), .int .i64 (q), .agg #[.slice (some ⟨h0, 0, none⟩) 6 c0, .slice A1 n1 q1, .slice (some ⟨h2, 0, none⟩) 36 c2]] wq fun e w' => e = .returned (.int .i64 M) ∧ Below wq.heap.size wq w' from by
              have h := implForestDist_any (c := cp) (c' := cp') (c0 := c0) (c1 := q1) (c2 := c2) (ha := HN0.out.to_below hb) (hb := HN1.out.to_below hb) (hk := HK.out.to_below hb) (i0 := i) (i1 := j1) (i2 := p) (i3 := q) (hn := hs0) (hn' := hs1) (h0 := by decide) (h1 := hN1) (h2 := by decide) (hc := hcp) (hc' := hcp')
              rw [E3.out] at h
              exact h)
            have CC := Lib.hid (fun (wq : World) (hq : Below w6.heap.size w6 wq) => show Calls Try.prog 32 #[.agg #[.slice (some ⟨h0, 0, none⟩) 6 c0, .slice A1 n1 q1, .slice (some ⟨h2, 0, none⟩) 36 c2], .int .i64 (Tr.xa xs j1)] wq fun e w' => e = .returned (.int .i64 cv) ∧ Below wq.heap.size wq w' from by
              rw [hcv]
              exact implDelCost_any _ _ _ _ _ _ _ _ _ K (Tr.xa xs j1) _ (HK.out.to_below (HB.out.trans (hq.mono HB.out.size))) (by decide) hN1 (by decide))
            have C6 := Lib.hid (fun (wq : World) (hq : Below w6.heap.size w6 wq) => C5.out wq (HB.out.trans (hq.mono HB.out.size)))
            have s1 : IntKind.i64.wrap (M + cv) = M + cv := Kit.w64 (by omega) (by omega)
            have s2 : decide (G ≤ M + cv) = true := decide_eq_true hmore
            have S0 := Lib.hid (show ((w6.drew.cell? ⟨w1.heap.size, 0, none⟩ = some (.slice (some ⟨h0, 0, none⟩) 6 c0) ∧ w6.drew.cell? ⟨w1.heap.size, 1, none⟩ = some (.slice A1 n1 q1) ∧ w6.drew.cell? ⟨w1.heap.size, 2, none⟩ = some (.slice (some ⟨h2, 0, none⟩) 36 c2)) ∧ (w6.drew.cell? ⟨ga, j1, none⟩ = some (.int .i64 (u : Int)) ∧ w6.drew.cell? (ad.add (u * 2)) = some (.int .i64 (Tr.xa xs j1)))) ∧ BelA w6 w6.drew from ⟨⟨⟨bx0, bx1, bx2⟩, pc, lc⟩, (Drawn.refl _).drew.toBelow⟩)
            clear hM hcv bM bC hmore hz hlab pc lc bx0 bx1 bx2 hu hj1 hij'
            as_aux_lemma =>
              go_wp2_with fail
              go_region_held3 (fun wq => ((wq.cell? ⟨w1.heap.size, 0, none⟩ = some (.slice (some ⟨h0, 0, none⟩) 6 c0) ∧ wq.cell? ⟨w1.heap.size, 1, none⟩ = some (.slice A1 n1 q1) ∧ wq.cell? ⟨w1.heap.size, 2, none⟩ = some (.slice (some ⟨h2, 0, none⟩) 36 c2)) ∧ (wq.cell? ⟨ga, j1, none⟩ = some (.int .i64 (u : Int)) ∧ wq.cell? (ad.add (u * 2)) = some (.int .i64 (Tr.xa xs j1)))) ∧ BelA w6 wq) (first | (with_reducible exact SC) | (with_reducible exact S0.out)) (first | ((go_at_call 27; with_reducible refine (C6.out _ (fv_below (by assumption))).mono ?_); rintro e w7 ⟨rfl, hb5⟩; have SC := fv_keep (by assumption) hb5) | ((go_at_call 32; with_reducible refine (CC.out _ (fv_below (by assumption))).mono ?_); rintro e w8 ⟨rfl, hb5⟩; have SC := fv_keep (by assumption) hb5))
              have HE := Lib.hid (HB.out.trans ((fv_below SC).mono HB.out.size))
              go_wp2
              go_ret
              exact ⟨rfl, HW.out.trans (HE.out.mono HW.out.size)⟩


end Go.Proofs.Ytlndaflhlkbedaa

/- Contracts (ExForests). -/
namespace Go.Proofs.Ytlndaflhlkbedaa
open Go.RowKit
set_option linter.unusedVariables false

set_option maxHeartbeats 400000 in
theorem fnForests_walk (a : Option Addr) (n cap : Nat) (zs : List Int) (w : World) (hz : Kit.BytesIn w a n cap zs) :
    Calls Try.prog 5 #[.slice a n cap] w fun e w' => e = .returned (.bool true) ∧ Below w.heap.size w w' := by
  by_cases hb : (1048576 : Int) < n
  · clear hz
    go_enter Try.func5, Try.ntmps5
    go_wp2_with fail
    refine (big_big _ _ _ hb _).mono ?_
    rintro e w0 ⟨rfl, rfl⟩
    go_wp2
    go_ret
    exact ⟨rfl, Below.refl _ _⟩
  · obtain ⟨hl, hcode⟩ := code_of hz
    have h := forests_any ⟨a, zs.take n, cap⟩ w hcode (by simp only; omega)
    simp only [hl] at h
    exact h

end Go.Proofs.Ytlndaflhlkbedaa
