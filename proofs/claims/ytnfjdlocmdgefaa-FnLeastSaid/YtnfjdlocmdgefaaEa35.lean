/- Texts of one claim laid into one file, in build order: DrawAB. -/
import Derived.Test.YtnfjdlocmdgefaaEa31
import Derived.Test.YtnfjdlocmdgefaaEa34
import Derived.Outline
import Derived.StillTailTactics
/- Contracts (DrawAB). -/
namespace Go.Proofs.Ytnfjdlocmdgefaa
open Go.RowKit
set_option linter.unusedVariables false

/-- nodes that lie in blocks from lo on, below hi -/
def NdBt (w : World) (lo hi : Nat) (A : Option Addr) (n : Nat) (xs : Tr) : Prop := NdIn w hi A n xs ∧ ∀ ad, A = some ad → lo ≤ ad.block
theorem NdBt.keep {w w' : World} {lo hi n : Nat} {A : Option Addr} {xs : Tr} {r : Option Nat} (h : NdBt w lo hi A n xs) (hs : hi ≤ w.heap.size) (hg : w.grownBy w' r) (hr : ∀ b, r = some b → b < lo ∨ hi ≤ b) : NdBt w' lo hi A n xs := by
  refine ⟨⟨h.1.1, h.1.2.1, fun ad e k hk => ?_⟩, h.2⟩
  obtain ⟨ad', e', hb⟩ := h.1.2.1 (by omega)
  obtain rfl : ad' = ad := by rw [e'] at e; injection e
  have hl := h.2 _ e'
  have := h.1.2.2 _ e k hk
  have q : ∀ p : Addr, p.block = ad'.block → w'.cell? p = w.cell? p := fun p hp => World.cell?_of_block (hg.block p.block (by omega) (by intro e2; rcases hr _ e2.symm with h1 | h1 <;> omega))
  rw [q _ (block_of_add _ _), q _ (block_of_add _ _)]
  exact this
theorem NdBt.of_at {w : World} {lo lo' n : Nat} {A : Option Addr} {xs : Tr} (h : NdAt w lo' A n xs) (hl : lo ≤ lo') : NdBt w lo w.heap.size A n xs := ⟨h.1, fun ad e => Nat.le_trans hl (h.2 ad e)⟩
theorem co_out {w1 wx : World} {s h0 h1 h2 c0 c1 c2 : Nat} {L0 L1 L2 : List Int} {v1 : Value} (o0 : wx.ownsRow w1.heap.size 3 1 (.slice (some ⟨h0, 0, none⟩) 6 c0) 6 (ints L0)) (o1 : wx.ownsRow w1.heap.size 3 1 (.slice (some ⟨h1, 0, none⟩) 6 c1) 6 (ints L1)) (o2 : wx.ownsRow w1.heap.size 3 1 (.slice (some ⟨h2, 0, none⟩) 36 c2) 36 (ints L2))
    (hs : s < w1.heap.size) (hv : v1 = .slice (some ⟨h1, 0, none⟩) 6 c1 ∨ v1 = .slice (some ⟨h1, 1, none⟩) 5 (c1 - 1)) (u0 u1 u2 : Value) :
    ∃ A1 n1 q1 K, v1 = .slice A1 n1 q1 ∧ (n1 = 6 ∨ n1 = 5) ∧ CoIn (((wx.setCell ⟨s, 0, none⟩ u0).setCell ⟨s, 1, none⟩ u1).setCell ⟨s, 2, none⟩ u2) (((wx.setCell ⟨s, 0, none⟩ u0).setCell ⟨s, 1, none⟩ u1).setCell ⟨s, 2, none⟩ u2).heap.size (some ⟨h0, 0, none⟩) A1 (some ⟨h2, 0, none⟩) 6 n1 36 K ∧ w1.heap.size ≤ h0 ∧ (∀ ad, A1 = some ad → w1.heap.size ≤ ad.block) ∧ w1.heap.size ≤ h2 := by
  have q0 := (o0.lt h0 rfl).1
  have q1 := (o1.lt h1 rfl).1
  have q2 := (o2.lt h2 rfl).1
  have hg : wx.grownBy (((wx.setCell ⟨s, 0, none⟩ u0).setCell ⟨s, 1, none⟩ u1).setCell ⟨s, 2, none⟩ u2) (some s) := Kit.grown_then_set (Kit.grown_then_set (Kit.grown_set _ _ _ _) _ _) _ _
  have k0 := IntIn.of_own (Kit.keptRow o0 hs hg)
  have k1 := IntIn.of_own (Kit.keptRow o1 hs hg)
  have k2 := IntIn.of_own (Kit.keptRow o2 hs hg)
  rcases hv with rfl | rfl
  · exact ⟨_, _, _, ⟨L0, L1, L2⟩, rfl, .inl rfl, ⟨k0, k1, k2⟩, q0, fun ad e => by injection e with e; rw [← e]; exact q1, q2⟩
  · exact ⟨_, _, _, ⟨L0, _, L2⟩, rfl, .inr rfl, ⟨k0, IntIn.part (k := 1) (m := 5) k1 (by decide) (by decide), k2⟩, q0, fun ad e => by injection e with e; rw [← e]; exact q1, q2⟩
theorem results_two_cell {fn : Func} {p u v : Tmp} {ty : TypeId} (h : fn.results = #[.tmp u, .tmp v, .cell p ty]) (tmps : Array Value) (P : Program) (w : World) :
    (results fn tmps).run P w =
      ((asAddr (tmps.getD p undef)).run P w).andThen fun a w₁ => ((loadVar ty a).run P w₁).andThen fun x w₂ => .ok (.tuple #[tmps.getD u undef, tmps.getD v undef, x]) w₂ := by
  simp only [results, h]
  simp [Sem.run_bind, Result.andThen]
/-- a draw under way beside a variable of three cells that is not written yet -/
structure D8 (w0 : World) (B s : Nat) (k : Code) (wr : World) : Prop where
  cur : CurX wr B k
  gr : w0.grownBy wr (some B)
  bx : Box3 wr s (.slice none 0 0) (.slice none 0 0) (.slice none 0 0)
  fz : ∀ off, wr.frozen? ⟨s, off, none⟩ = false
  ls : s < wr.heap.size
  lB : B < s
  l0 : w0.heap.size ≤ s
section
variable {w0 wr w' : World} {B s : Nat} {k : Code}
theorem D8.step (h : D8 w0 B s k wr) (c : CurX w' B k) (g : wr.grownBy w' (some B)) : D8 w0 B s k w' :=
  ⟨c, Kit.grown_trans h.gr g, h.bx.grown g h.ls (fun b e => by injection e with e; have := h.lB; omega), free_kept g h.ls (fun b e => by injection e with e; have := h.lB; omega) h.fz, Nat.lt_of_lt_of_le h.ls g.size, h.lB, h.l0⟩
theorem D8.grown (h : D8 w0 B s k wr) {r : Option Nat} (g : wr.grownBy w' r) (hr : ∀ b, r = some b → s < b) : D8 w0 B s k w' :=
  ⟨h.cur.kept g (fun b e => by have := hr b e; have := h.lB; omega), h.gr.andThen g (fun b e => .inl (by have := hr b e; have := h.l0; omega)), h.bx.grown g h.ls (fun b e => by have := hr b e; omega), free_kept g h.ls (fun b e => by have := hr b e; omega) h.fz, Nat.lt_of_lt_of_le h.ls g.size, h.lB, h.l0⟩
end
/-- two trees and a cost, drawn -/
def DrawAB (w : World) (B : Nat) (k : Code) (e : Ending) (w' : World) : Prop :=
  ∃ (xs ys : Tr) (A A' : Option Addr) (n n' cp cp' h0 h2 c0 c2 : Nat) (A1 : Option Addr) (n1 q1 : Nat) (K : Co), e = .returned (.tuple #[.slice A n cp, .slice A' n' cp', .agg #[.slice (some ⟨h0, 0, none⟩) 6 c0, .slice A1 n1 q1, .slice (some ⟨h2, 0, none⟩) 36 c2]]) ∧
    NdIn w' w'.heap.size A n xs ∧ NdIn w' w'.heap.size A' n' ys ∧ n ≤ cp ∧ n' ≤ cp' ∧ n ≤ 31 ∧ n' ≤ 31 ∧ (n1 = 6 ∨ n1 = 5) ∧ CoIn w' w'.heap.size (some ⟨h0, 0, none⟩) A1 (some ⟨h2, 0, none⟩) 6 n1 36 K ∧ w.grownBy w' (some B) ∧ CurX w' B k ∧ (w.heap.size ≤ h0 ∧ (∀ ad, A1 = some ad → w.heap.size ≤ ad.block) ∧ w.heap.size ≤ h2) ∧ (∀ ad, A = some ad → w.heap.size ≤ ad.block) ∧ ∀ ad, A' = some ad → w.heap.size ≤ ad.block
set_option maxHeartbeats 3200000 in
set_option maxRecDepth 100000 in
theorem l8Draw_ex (w : World) (B : Nat) (k : Code) (most : Int) (hm : most ≤ 28) (c : CurX w B k) :
    Calls Try.prog 28 #[.pointer (some ⟨B, 0, none⟩), .int .i64 most] w (DrawAB w B k) := by
  obtain ⟨wz, hwz⟩ : ∃ wz, wz = w.alloc (.cells #[.slice none 0 0, .slice none 0 0, .slice none 0 0] 27) := ⟨_, rfl⟩
  obtain ⟨s, hs⟩ : ∃ s, s = w.heap.size := ⟨_, rfl⟩
  have zz : wz.heap.size = s + 1 := by rw [hwz, hs]; simp
  have HD := Lib.hid (show D8 w B s k wz from ⟨by rw [hwz]; exact c.alloc _, by rw [hwz]; exact Kit.grown_alloc w _ (some B), by rw [hwz, hs]; exact Box3.made _ _ _ _ _, by rw [hwz, hs]; exact fun off => by simp, by omega, by rw [hs]; exact c.lt, by omega⟩)
  have HS := Lib.hid hs
  have HZ := Lib.hid zz
  have hBs : B < s := by rw [hs]; exact c.lt
  have hBz : B < wz.heap.size := by omega
  clear c hs zz
  go_enter Try.func28, Try.ntmps28
  go_wp2_with fail
  rw [← hwz]
  rw [← HS.out]
  have HW := Lib.hid hwz
  clear hwz
  refine (l3Tree_ex wz B k most (by omega) HD.out.cur).mono ?_
  rintro e w1 ⟨xs, A, cp, rfl, ho, ⟨hl1, hl2⟩, _, c, g⟩
  have HD := Lib.hid (HD.out.step c g)
  have HA := Lib.hid (NdBt.of_at (NdAt.of_own ho) (Nat.le_refl _))
  have hcp := own_cap ho
  have hn28 : xs.length ≤ 28 := by omega
  have l1 := g.size
  clear ho c g hl2
  go_wp2_with fail
  refine (l3Tree_ex w1 B k most (by omega) HD.out.cur).mono ?_
  rintro e w2 ⟨ys, A', cp', rfl, ho, ⟨hl1', hl2'⟩, _, c, g⟩
  have HD := Lib.hid (HD.out.step c g)
  have HA := Lib.hid (HA.out.keep (Nat.le_refl _) g (fun b e => .inl (by injection e with e; omega)))
  have HB := Lib.hid (NdBt.of_at (NdAt.of_own ho) l1)
  have hcp' := own_cap ho
  have hn31' : ys.length ≤ 31 := by omega
  have l2 := g.size
  clear ho c g hl1' hl2'
  go_wp2_with fail
  refine (l1Once_ex w2 B k 2 HD.out.cur).mono ?_
  rintro e w3 ⟨bb, rfl, c, g⟩
  have HD := Lib.hid (HD.out.step c g)
  have HA := Lib.hid (HA.out.keep l2 g (fun b e => .inl (by injection e with e; omega)))
  have HB := Lib.hid (HB.out.keep (Nat.le_refl _) g (fun b e => .inl (by injection e with e; omega)))
  have l3 := g.size
  clear c g
  cases bb with
  | false =>
    obtain ⟨zs, n', hzn, HB⟩ : ∃ (zs : Tr) (n' : Nat), n' = ys.length ∧ RowKit.Hid (NdBt w3 wz.heap.size w2.heap.size A' n' zs) := ⟨ys, ys.length, rfl, HB⟩
    rw [← hzn]
    rw [← hzn] at hcp' hn31'
    have hw2 : w2.heap.size ≤ w3.heap.size := l3
    obtain ⟨h9, hh9⟩ : ∃ h9, h9 = w2.heap.size := ⟨_, rfl⟩
    rw [← hh9] at HB hw2
    obtain ⟨w4, h4⟩ : ∃ w4, w4 = w3 := ⟨_, rfl⟩
    rw [← h4] at HD HA HB hw2 l3 ⊢
    have l4 : w1.heap.size ≤ w4.heap.size := by rw [h4] at l3 ⊢; omega
    clear h4 hzn hh9
    as_aux_lemma =>
      go_wp2_with fail
      refine (l7Cost_ex w4 B k HD.out.cur).mono ?_
      rintro e w5 ⟨h0, h1, h2, c0, c1, c2, L0, L1, L2, rfl, o0, o1, o2, _, c, g⟩
      have HD := Lib.hid (HD.out.step c g)
      have HA := Lib.hid (HA.out.keep l4 g (fun b e => .inl (by injection e with e; omega)))
      have HB := Lib.hid (HB.out.keep hw2 g (fun b e => .inl (by injection e with e; omega)))
      have l5 := g.size
      have hs4 : s < w4.heap.size := by have := HD.out.lB; have := HZ.out; omega
      obtain ⟨w6, hw6⟩ : ∃ w6, w6 = w5.alloc (.cells #[.slice (some ⟨h0, 0, none⟩) 6 c0, .slice (some ⟨h1, 0, none⟩) 6 c1, .slice (some ⟨h2, 0, none⟩) 36 c2] 27) := ⟨_, rfl⟩
      obtain ⟨g9, hg9⟩ : ∃ g9, g9 = w5.heap.size := ⟨_, rfl⟩
      have z6 : w6.heap.size = g9 + 1 := by rw [hw6, hg9]; simp
      have ga : w5.grownBy w6 none := by rw [hw6]; exact Kit.grown_alloc _ _ _
      have HD := Lib.hid (HD.out.grown ga (fun b e => by cases e))
      have HA := Lib.hid (HA.out.keep (by omega) ga (fun b e => by cases e))
      have HB := Lib.hid (HB.out.keep (by omega) ga (fun b e => by cases e))
      have HO := Lib.hid (show w6.ownsRow w4.heap.size 3 1 (.slice (some ⟨h0, 0, none⟩) 6 c0) 6 (ints L0) ∧ w6.ownsRow w4.heap.size 3 1 (.slice (some ⟨h1, 0, none⟩) 6 c1) 6 (ints L1) ∧ w6.ownsRow w4.heap.size 3 1 (.slice (some ⟨h2, 0, none⟩) 36 c2) 36 (ints L2) by rw [hw6]; exact ⟨o0.alloc _, o1.alloc _, o2.alloc _⟩)
      have HQ := Lib.hid (show Box3 w6 g9 (.slice (some ⟨h0, 0, none⟩) 6 c0) (.slice (some ⟨h1, 0, none⟩) 6 c1) (.slice (some ⟨h2, 0, none⟩) 36 c2) by rw [hw6, hg9]; exact Box3.made _ _ _ _ _)
      have HP := Lib.hid (show ∀ off, w6.frozen? ⟨g9, off, none⟩ = false by rw [hw6, hg9]; exact fun off => by simp)
      have HW6 := Lib.hid hw6
      have G9 := Lib.hid hg9
      have hB4 : B < w4.heap.size := by omega
      have h9g : h9 ≤ g9 := by omega
      have l1g : w1.heap.size ≤ g9 := by omega
      have hsg : s < g9 := by omega
      have hBg : B < g9 := by omega
      clear o0 o1 o2 c g ga hw6 hg9 l5
      go_wp2_with fail
      rw [← HW6.out, ← G9.out]
      refine (l1Below_ex w6 B k 24 HD.out.cur).mono ?_
      rintro e w7 ⟨v, rfl, hv, c, g⟩
      have HD := Lib.hid (HD.out.step c g)
      have HA := Lib.hid (HA.out.keep (by omega) g (fun b e => .inl (by injection e with e; omega)))
      have HB := Lib.hid (HB.out.keep (by omega) g (fun b e => .inl (by injection e with e; omega)))
      have HO := Lib.hid (And.intro (Kit.keptRow HO.out.1 hB4 g) (And.intro (Kit.keptRow HO.out.2.1 hB4 g) (Kit.keptRow HO.out.2.2 hB4 g)))
      have HQ := Lib.hid (HQ.out.grown g (by omega) (fun b e => by injection e with e; omega))
      have HP := Lib.hid (free_kept g (by omega) (fun b e => by injection e with e; omega) HP.out)
      have l7 := g.size
      have hg7 : g9 < w7.heap.size := by omega
      clear c g hv
      by_cases h0' : v = 0
      · as_aux_lemma =>
          have e0 : ((v : Int) == 0) = true := by simp [h0']
          go_wp2_with fail
          refine (l3Any_ex w7 B k most (by omega) HD.out.cur).mono ?_
          rintro e w8 ⟨xs2, A2, n2, cp2, rfl, hat, hcp2, hn2, c, g⟩
          have HD := Lib.hid (HD.out.step c g)
          have HB := Lib.hid (HB.out.keep (by omega) g (fun b e => .inl (by injection e with e; omega)))
          have HO := Lib.hid (And.intro (Kit.keptRow HO.out.1 hB4 g) (And.intro (Kit.keptRow HO.out.2.1 hB4 g) (Kit.keptRow HO.out.2.2 hB4 g)))
          have HQ := Lib.hid (HQ.out.grown g hg7 (fun b e => by injection e with e; omega))
          have l8 := g.size
          have HA := Lib.hid (NdBt.of_at (lo := wz.heap.size) hat (by omega))
          clear hat c g
          obtain ⟨x0, x1, x2⟩ := HD.out.bx
          have y0 := HD.out.fz 0
          have y1 := HD.out.fz 1
          have y2 := HD.out.fz 2
          obtain ⟨b0, b1, b2⟩ := HQ.out
          have hne : g9 ≠ s := by omega
          have hne' : s ≠ g9 := by omega
          go_wp2_with fail
          go_still_tail 5, (by kernel_rfl)
          change wpList _ _ _ _ _ (w8).drew
          go_wp2
          (try simp only [Exit.inBlock, Exit.then])
          refine bodyPost_ret (v := .tuple #[.slice A2 n2 cp2, .slice A' n' cp', .agg #[(.slice (some ⟨h0, 0, none⟩) 6 c0), .slice (some ⟨h1, 0, none⟩) 6 c1, (.slice (some ⟨h2, 0, none⟩) 36 c2)]]) ?_ rfl ?_
          · rw [results_two_cell rfl]
            go_simp
          · have zd : (w8).drew.heap.size = (w8).heap.size := rfl
            have gS : ∀ u0 u1 u2, (w8).drew.grownBy ((((w8).drew.setCell ⟨s, 0, none⟩ u0).setCell ⟨s, 1, none⟩ u1).setCell ⟨s, 2, none⟩ u2) (some s) := fun u0 u1 u2 => Kit.grown_then_set (Kit.grown_then_set (Kit.grown_set _ _ _ _) _ _) _ _
            have DG := grown_drawn HD.out.gr (Drawn.refl (w8)).drew
            have ls0 : w.heap.size ≤ w4.heap.size := by have := HS.out; omega
            have dr : (w8).grownBy (w8).drew none := grown_drewN (Kit.grown_refl _ _) 1
            have kA := (HA.out.keep (by omega) dr (fun b e => by cases e)).keep (by omega) (gS (.slice (some ⟨h0, 0, none⟩) 6 c0) (.slice (some ⟨h1, 0, none⟩) 6 c1) (.slice (some ⟨h2, 0, none⟩) 36 c2)) (fun b e => .inl (by injection e with e; have := HZ.out; omega))
            have kB := (HB.out.keep (by omega) dr (fun b e => by cases e)).keep (by omega) (gS (.slice (some ⟨h0, 0, none⟩) 6 c0) (.slice (some ⟨h1, 0, none⟩) 6 c1) (.slice (some ⟨h2, 0, none⟩) 36 c2)) (fun b e => .inl (by injection e with e; have := HZ.out; omega))
            obtain ⟨A1, n1, q1, K, ev, hn1, hin, qq0, qq1, qq2⟩ := co_out (w1 := w4) (own_drawn HO.out.1 (Drawn.refl _).drew) (own_drawn HO.out.2.1 (Drawn.refl _).drew) (own_drawn HO.out.2.2 (Drawn.refl _).drew) hs4 (.inl rfl) (.slice (some ⟨h0, 0, none⟩) 6 c0) (.slice (some ⟨h1, 0, none⟩) 6 c1) (.slice (some ⟨h2, 0, none⟩) 36 c2)
            injection ev with ea en eq
            subst ea en eq
            exact ⟨xs2, zs, _, _, _, _, _, _, _, _, _, _, _, _, _, K, rfl, kA.1.more (Nat.le_trans (by omega) (gS _ _ _).size), kB.1.more (Nat.le_trans (by omega) (gS _ _ _).size), hcp2, hcp', hn2, hn31', hn1, hin, DG.andThen (gS _ _ _) (fun b e => .inl (by injection e with e; have := HD.out.l0; omega)), (HD.out.cur.drawn (Drawn.refl _).drew).kept (gS _ _ _) (fun b e => by injection e with e; omega), ⟨by omega, fun ad e => by have := qq1 ad e; omega, by omega⟩, fun ad e => by have := kA.2 ad e; have := HZ.out; have := HS.out; omega, fun ad e => by have := kB.2 ad e; have := HZ.out; have := HS.out; omega⟩
      · have e0 : ((v : Int) == 0) = false := beq_eq_false_iff_ne.2 (by omega)
        by_cases h1' : v = 1
        · as_aux_lemma =>
            have e1 : ((v : Int) == 1) = true := by simp [h1']
            go_wp2_with fail
            refine (l7Any_ex w7 B k HD.out.cur).mono ?_
            rintro e w8 ⟨p0, p1, p2, d0, d1, d2, M0, M1, M2, v1, rfl, hv1, o0, o1, o2, c, g⟩
            have HD := Lib.hid (HD.out.step c g)
            have HA := Lib.hid (HA.out.keep (by omega) g (fun b e => .inl (by injection e with e; omega)))
            have HB := Lib.hid (HB.out.keep (by omega) g (fun b e => .inl (by injection e with e; omega)))
            have HQ := Lib.hid (HQ.out.grown g hg7 (fun b e => by injection e with e; omega))
            have HP := Lib.hid (free_kept g hg7 (fun b e => by injection e with e; omega) HP.out)
            have l8 := g.size
            have hs7 : s < w7.heap.size := by omega
            have HO := Lib.hid (And.intro o0 (And.intro o1 o2))
            clear o0 o1 o2 c g
            obtain ⟨b0, b1, b2⟩ := HQ.out
            have f0 := HP.out 0
            have f1 := HP.out 1
            have f2 := HP.out 2
            rcases hv1 with rfl | rfl
            · skip
              go_wp2_with fail
              obtain ⟨w9, hw9⟩ : ∃ w9, w9 = ((w8.setCell ⟨g9, 0, none⟩ (.slice (some ⟨p0, 0, none⟩) 6 d0)).setCell ⟨g9, 1, none⟩ (.slice (some ⟨p1, 0, none⟩) 6 d1)).setCell ⟨g9, 2, none⟩ (.slice (some ⟨p2, 0, none⟩) 36 d2) := ⟨_, rfl⟩
              have g8 : w8.grownBy w9 (some g9) := by rw [hw9]; exact Kit.grown_then_set (Kit.grown_then_set (Kit.grown_set _ _ _ _) _ _) _ _
              have z9 : w9.heap.size = w8.heap.size := by rw [hw9]; simp
              have n01 : ∀ i j, i ≠ j → (⟨g9, i, none⟩ : Addr) ≠ ⟨g9, j, none⟩ := fun i j hij e => hij (by injection e)
              have HQ9 := Lib.hid (show Box3 w9 g9 (.slice (some ⟨p0, 0, none⟩) 6 d0) (.slice (some ⟨p1, 0, none⟩) 6 d1) (.slice (some ⟨p2, 0, none⟩) 36 d2) by
                rw [hw9]
                refine ⟨?_, ?_, ?_⟩
                · rw [World.cell?_setCell_other _ _ _ _ (n01 2 0 (by decide)), World.cell?_setCell_other _ _ _ _ (n01 1 0 (by decide))]; exact World.cell?_setCell_same' _ _ _ (by rw [b0]; rfl)
                · rw [World.cell?_setCell_other _ _ _ _ (n01 2 1 (by decide))]; exact World.cell?_setCell_same' _ _ _ (by rw [World.cell?_setCell_other _ _ _ _ (n01 0 1 (by decide)), b1]; rfl)
                · exact World.cell?_setCell_same' _ _ _ (by rw [World.cell?_setCell_other _ _ _ _ (n01 1 2 (by decide)), World.cell?_setCell_other _ _ _ _ (n01 0 2 (by decide)), b2]; rfl))
              have HD := Lib.hid (HD.out.grown g8 (fun b e => by injection e with e; omega))
              have HA := Lib.hid (HA.out.keep (by omega) g8 (fun b e => .inr (by injection e with e; omega)))
              have HB := Lib.hid (HB.out.keep (by omega) g8 (fun b e => .inr (by injection e with e; omega)))
              have HO := Lib.hid (And.intro (Kit.keptRow HO.out.1 hg7 g8) (And.intro (Kit.keptRow HO.out.2.1 hg7 g8) (Kit.keptRow HO.out.2.2 hg7 g8)))
              rw [← hw9]
              clear b0 b1 b2 f0 f1 f2 hw9 n01
              obtain ⟨x0, x1, x2⟩ := HD.out.bx
              have y0 := HD.out.fz 0
              have y1 := HD.out.fz 1
              have y2 := HD.out.fz 2
              obtain ⟨b0, b1, b2⟩ := HQ9.out
              have hne : g9 ≠ s := by omega
              have hne' : s ≠ g9 := by omega
              go_wp2_with fail
              go_still_tail 5, (by kernel_rfl)
              change wpList _ _ _ _ _ (w9).drew
              go_wp2
              (try simp only [Exit.inBlock, Exit.then])
              refine bodyPost_ret (v := .tuple #[.slice A xs.length cp, .slice A' n' cp', .agg #[(.slice (some ⟨p0, 0, none⟩) 6 d0), .slice (some ⟨p1, 0, none⟩) 6 d1, (.slice (some ⟨p2, 0, none⟩) 36 d2)]]) ?_ rfl ?_
              · rw [results_two_cell rfl]
                go_simp
              · have zd : (w9).drew.heap.size = (w9).heap.size := rfl
                have gS : ∀ u0 u1 u2, (w9).drew.grownBy ((((w9).drew.setCell ⟨s, 0, none⟩ u0).setCell ⟨s, 1, none⟩ u1).setCell ⟨s, 2, none⟩ u2) (some s) := fun u0 u1 u2 => Kit.grown_then_set (Kit.grown_then_set (Kit.grown_set _ _ _ _) _ _) _ _
                have DG := grown_drawn HD.out.gr (Drawn.refl (w9)).drew
                have ls0 : w.heap.size ≤ w7.heap.size := by have := HS.out; omega
                have dr : (w9).grownBy (w9).drew none := grown_drewN (Kit.grown_refl _ _) 1
                have kA := (HA.out.keep (by omega) dr (fun b e => by cases e)).keep (by omega) (gS (.slice (some ⟨p0, 0, none⟩) 6 d0) (.slice (some ⟨p1, 0, none⟩) 6 d1) (.slice (some ⟨p2, 0, none⟩) 36 d2)) (fun b e => .inl (by injection e with e; have := HZ.out; omega))
                have kB := (HB.out.keep (by omega) dr (fun b e => by cases e)).keep (by omega) (gS (.slice (some ⟨p0, 0, none⟩) 6 d0) (.slice (some ⟨p1, 0, none⟩) 6 d1) (.slice (some ⟨p2, 0, none⟩) 36 d2)) (fun b e => .inl (by injection e with e; have := HZ.out; omega))
                obtain ⟨A1, n1, q1, K, ev, hn1, hin, qq0, qq1, qq2⟩ := co_out (w1 := w7) (own_drawn HO.out.1 (Drawn.refl _).drew) (own_drawn HO.out.2.1 (Drawn.refl _).drew) (own_drawn HO.out.2.2 (Drawn.refl _).drew) hs7 (.inl rfl) (.slice (some ⟨p0, 0, none⟩) 6 d0) (.slice (some ⟨p1, 0, none⟩) 6 d1) (.slice (some ⟨p2, 0, none⟩) 36 d2)
                injection ev with ea en eq
                subst ea en eq
                exact ⟨xs, zs, _, _, _, _, _, _, _, _, _, _, _, _, _, K, rfl, kA.1.more (Nat.le_trans (by omega) (gS _ _ _).size), kB.1.more (Nat.le_trans (by omega) (gS _ _ _).size), hcp, hcp', (by omega), hn31', hn1, hin, DG.andThen (gS _ _ _) (fun b e => .inl (by injection e with e; have := HD.out.l0; omega)), (HD.out.cur.drawn (Drawn.refl _).drew).kept (gS _ _ _) (fun b e => by injection e with e; omega), ⟨by omega, fun ad e => by have := qq1 ad e; omega, by omega⟩, fun ad e => by have := kA.2 ad e; have := HZ.out; have := HS.out; omega, fun ad e => by have := kB.2 ad e; have := HZ.out; have := HS.out; omega⟩
            · skip
              go_wp2_with fail
              obtain ⟨w9, hw9⟩ : ∃ w9, w9 = ((w8.setCell ⟨g9, 0, none⟩ (.slice (some ⟨p0, 0, none⟩) 6 d0)).setCell ⟨g9, 1, none⟩ (.slice (some ⟨p1, 1, none⟩) 5 (d1 - 1))).setCell ⟨g9, 2, none⟩ (.slice (some ⟨p2, 0, none⟩) 36 d2) := ⟨_, rfl⟩
              have g8 : w8.grownBy w9 (some g9) := by rw [hw9]; exact Kit.grown_then_set (Kit.grown_then_set (Kit.grown_set _ _ _ _) _ _) _ _
              have z9 : w9.heap.size = w8.heap.size := by rw [hw9]; simp
              have n01 : ∀ i j, i ≠ j → (⟨g9, i, none⟩ : Addr) ≠ ⟨g9, j, none⟩ := fun i j hij e => hij (by injection e)
              have HQ9 := Lib.hid (show Box3 w9 g9 (.slice (some ⟨p0, 0, none⟩) 6 d0) (.slice (some ⟨p1, 1, none⟩) 5 (d1 - 1)) (.slice (some ⟨p2, 0, none⟩) 36 d2) by
                rw [hw9]
                refine ⟨?_, ?_, ?_⟩
                · rw [World.cell?_setCell_other _ _ _ _ (n01 2 0 (by decide)), World.cell?_setCell_other _ _ _ _ (n01 1 0 (by decide))]; exact World.cell?_setCell_same' _ _ _ (by rw [b0]; rfl)
                · rw [World.cell?_setCell_other _ _ _ _ (n01 2 1 (by decide))]; exact World.cell?_setCell_same' _ _ _ (by rw [World.cell?_setCell_other _ _ _ _ (n01 0 1 (by decide)), b1]; rfl)
                · exact World.cell?_setCell_same' _ _ _ (by rw [World.cell?_setCell_other _ _ _ _ (n01 1 2 (by decide)), World.cell?_setCell_other _ _ _ _ (n01 0 2 (by decide)), b2]; rfl))
              have HD := Lib.hid (HD.out.grown g8 (fun b e => by injection e with e; omega))
              have HA := Lib.hid (HA.out.keep (by omega) g8 (fun b e => .inr (by injection e with e; omega)))
              have HB := Lib.hid (HB.out.keep (by omega) g8 (fun b e => .inr (by injection e with e; omega)))
              have HO := Lib.hid (And.intro (Kit.keptRow HO.out.1 hg7 g8) (And.intro (Kit.keptRow HO.out.2.1 hg7 g8) (Kit.keptRow HO.out.2.2 hg7 g8)))
              rw [← hw9]
              clear b0 b1 b2 f0 f1 f2 hw9 n01
              obtain ⟨x0, x1, x2⟩ := HD.out.bx
              have y0 := HD.out.fz 0
              have y1 := HD.out.fz 1
              have y2 := HD.out.fz 2
              obtain ⟨b0, b1, b2⟩ := HQ9.out
              have hne : g9 ≠ s := by omega
              have hne' : s ≠ g9 := by omega
              go_wp2_with fail
              go_still_tail 5, (by kernel_rfl)
              change wpList _ _ _ _ _ (w9).drew
              go_wp2
              (try simp only [Exit.inBlock, Exit.then])
              refine bodyPost_ret (v := .tuple #[.slice A xs.length cp, .slice A' n' cp', .agg #[(.slice (some ⟨p0, 0, none⟩) 6 d0), .slice (some ⟨p1, 1, none⟩) 5 (d1 - 1), (.slice (some ⟨p2, 0, none⟩) 36 d2)]]) ?_ rfl ?_
              · rw [results_two_cell rfl]
                go_simp
              · have zd : (w9).drew.heap.size = (w9).heap.size := rfl
                have gS : ∀ u0 u1 u2, (w9).drew.grownBy ((((w9).drew.setCell ⟨s, 0, none⟩ u0).setCell ⟨s, 1, none⟩ u1).setCell ⟨s, 2, none⟩ u2) (some s) := fun u0 u1 u2 => Kit.grown_then_set (Kit.grown_then_set (Kit.grown_set _ _ _ _) _ _) _ _
                have DG := grown_drawn HD.out.gr (Drawn.refl (w9)).drew
                have ls0 : w.heap.size ≤ w7.heap.size := by have := HS.out; omega
                have dr : (w9).grownBy (w9).drew none := grown_drewN (Kit.grown_refl _ _) 1
                have kA := (HA.out.keep (by omega) dr (fun b e => by cases e)).keep (by omega) (gS (.slice (some ⟨p0, 0, none⟩) 6 d0) (.slice (some ⟨p1, 1, none⟩) 5 (d1 - 1)) (.slice (some ⟨p2, 0, none⟩) 36 d2)) (fun b e => .inl (by injection e with e; have := HZ.out; omega))
                have kB := (HB.out.keep (by omega) dr (fun b e => by cases e)).keep (by omega) (gS (.slice (some ⟨p0, 0, none⟩) 6 d0) (.slice (some ⟨p1, 1, none⟩) 5 (d1 - 1)) (.slice (some ⟨p2, 0, none⟩) 36 d2)) (fun b e => .inl (by injection e with e; have := HZ.out; omega))
                obtain ⟨A1, n1, q1, K, ev, hn1, hin, qq0, qq1, qq2⟩ := co_out (w1 := w7) (own_drawn HO.out.1 (Drawn.refl _).drew) (own_drawn HO.out.2.1 (Drawn.refl _).drew) (own_drawn HO.out.2.2 (Drawn.refl _).drew) hs7 (.inr rfl) (.slice (some ⟨p0, 0, none⟩) 6 d0) (.slice (some ⟨p1, 1, none⟩) 5 (d1 - 1)) (.slice (some ⟨p2, 0, none⟩) 36 d2)
                injection ev with ea en eq
                subst ea en eq
                exact ⟨xs, zs, _, _, _, _, _, _, _, _, _, _, _, _, _, K, rfl, kA.1.more (Nat.le_trans (by omega) (gS _ _ _).size), kB.1.more (Nat.le_trans (by omega) (gS _ _ _).size), hcp, hcp', (by omega), hn31', hn1, hin, DG.andThen (gS _ _ _) (fun b e => .inl (by injection e with e; have := HD.out.l0; omega)), (HD.out.cur.drawn (Drawn.refl _).drew).kept (gS _ _ _) (fun b e => by injection e with e; omega), ⟨by omega, fun ad e => by have := qq1 ad e; omega, by omega⟩, fun ad e => by have := kA.2 ad e; have := HZ.out; have := HS.out; omega, fun ad e => by have := kB.2 ad e; have := HZ.out; have := HS.out; omega⟩
        · as_aux_lemma =>
            have e1 : ((v : Int) == 1) = false := beq_eq_false_iff_ne.2 (by omega)
            obtain ⟨x0, x1, x2⟩ := HD.out.bx
            have y0 := HD.out.fz 0
            have y1 := HD.out.fz 1
            have y2 := HD.out.fz 2
            obtain ⟨b0, b1, b2⟩ := HQ.out
            have hne : g9 ≠ s := by omega
            have hne' : s ≠ g9 := by omega
            go_wp2_with fail
            go_still_tail 5, (by kernel_rfl)
            change wpList _ _ _ _ _ (w7).drew
            go_wp2
            (try simp only [Exit.inBlock, Exit.then])
            refine bodyPost_ret (v := .tuple #[.slice A xs.length cp, .slice A' n' cp', .agg #[(.slice (some ⟨h0, 0, none⟩) 6 c0), .slice (some ⟨h1, 0, none⟩) 6 c1, (.slice (some ⟨h2, 0, none⟩) 36 c2)]]) ?_ rfl ?_
            · rw [results_two_cell rfl]
              go_simp
            · have zd : (w7).drew.heap.size = (w7).heap.size := rfl
              have gS : ∀ u0 u1 u2, (w7).drew.grownBy ((((w7).drew.setCell ⟨s, 0, none⟩ u0).setCell ⟨s, 1, none⟩ u1).setCell ⟨s, 2, none⟩ u2) (some s) := fun u0 u1 u2 => Kit.grown_then_set (Kit.grown_then_set (Kit.grown_set _ _ _ _) _ _) _ _
              have DG := grown_drawn HD.out.gr (Drawn.refl (w7)).drew
              have ls0 : w.heap.size ≤ w4.heap.size := by have := HS.out; omega
              have dr : (w7).grownBy (w7).drew none := grown_drewN (Kit.grown_refl _ _) 1
              have kA := (HA.out.keep (by omega) dr (fun b e => by cases e)).keep (by omega) (gS (.slice (some ⟨h0, 0, none⟩) 6 c0) (.slice (some ⟨h1, 0, none⟩) 6 c1) (.slice (some ⟨h2, 0, none⟩) 36 c2)) (fun b e => .inl (by injection e with e; have := HZ.out; omega))
              have kB := (HB.out.keep (by omega) dr (fun b e => by cases e)).keep (by omega) (gS (.slice (some ⟨h0, 0, none⟩) 6 c0) (.slice (some ⟨h1, 0, none⟩) 6 c1) (.slice (some ⟨h2, 0, none⟩) 36 c2)) (fun b e => .inl (by injection e with e; have := HZ.out; omega))
              obtain ⟨A1, n1, q1, K, ev, hn1, hin, qq0, qq1, qq2⟩ := co_out (w1 := w4) (own_drawn HO.out.1 (Drawn.refl _).drew) (own_drawn HO.out.2.1 (Drawn.refl _).drew) (own_drawn HO.out.2.2 (Drawn.refl _).drew) hs4 (.inl rfl) (.slice (some ⟨h0, 0, none⟩) 6 c0) (.slice (some ⟨h1, 0, none⟩) 6 c1) (.slice (some ⟨h2, 0, none⟩) 36 c2)
              injection ev with ea en eq
              subst ea en eq
              exact ⟨xs, zs, _, _, _, _, _, _, _, _, _, _, _, _, _, K, rfl, kA.1.more (Nat.le_trans (by omega) (gS _ _ _).size), kB.1.more (Nat.le_trans (by omega) (gS _ _ _).size), hcp, hcp', (by omega), hn31', hn1, hin, DG.andThen (gS _ _ _) (fun b e => .inl (by injection e with e; have := HD.out.l0; omega)), (HD.out.cur.drawn (Drawn.refl _).drew).kept (gS _ _ _) (fun b e => by injection e with e; omega), ⟨by omega, fun ad e => by have := qq1 ad e; omega, by omega⟩, fun ad e => by have := kA.2 ad e; have := HZ.out; have := HS.out; omega, fun ad e => by have := kB.2 ad e; have := HZ.out; have := HS.out; omega⟩
  | true =>
    go_wp2_with fail
    refine (l3Near_ex w3 B k A xs.length cp xs (HA.out.1.more (by omega)) hl1 hn28 HD.out.cur).mono ?_
    rintro e w4 ⟨zs, A', n', cp', rfl, hat, hcp', hn31', c, g⟩
    have HD := Lib.hid (HD.out.step c g)
    have HA := Lib.hid (HA.out.keep (by omega) g (fun b e => .inl (by injection e with e; omega)))
    obtain ⟨h9, hh9⟩ : ∃ h9, h9 = w4.heap.size := ⟨_, rfl⟩
    have HB := Lib.hid (show NdBt w4 wz.heap.size h9 A' n' zs by rw [hh9]; exact NdBt.of_at hat (by omega))
    have hw2 : h9 ≤ w4.heap.size := by omega
    have l4 : w1.heap.size ≤ w4.heap.size := by have := g.size; omega
    clear hat c g hh9
    as_aux_lemma =>
      go_wp2_with fail
      refine (l7Cost_ex w4 B k HD.out.cur).mono ?_
      rintro e w5 ⟨h0, h1, h2, c0, c1, c2, L0, L1, L2, rfl, o0, o1, o2, _, c, g⟩
      have HD := Lib.hid (HD.out.step c g)
      have HA := Lib.hid (HA.out.keep l4 g (fun b e => .inl (by injection e with e; omega)))
      have HB := Lib.hid (HB.out.keep hw2 g (fun b e => .inl (by injection e with e; omega)))
      have l5 := g.size
      have hs4 : s < w4.heap.size := by have := HD.out.lB; have := HZ.out; omega
      obtain ⟨w6, hw6⟩ : ∃ w6, w6 = w5.alloc (.cells #[.slice (some ⟨h0, 0, none⟩) 6 c0, .slice (some ⟨h1, 0, none⟩) 6 c1, .slice (some ⟨h2, 0, none⟩) 36 c2] 27) := ⟨_, rfl⟩
      obtain ⟨g9, hg9⟩ : ∃ g9, g9 = w5.heap.size := ⟨_, rfl⟩
      have z6 : w6.heap.size = g9 + 1 := by rw [hw6, hg9]; simp
      have ga : w5.grownBy w6 none := by rw [hw6]; exact Kit.grown_alloc _ _ _
      have HD := Lib.hid (HD.out.grown ga (fun b e => by cases e))
      have HA := Lib.hid (HA.out.keep (by omega) ga (fun b e => by cases e))
      have HB := Lib.hid (HB.out.keep (by omega) ga (fun b e => by cases e))
      have HO := Lib.hid (show w6.ownsRow w4.heap.size 3 1 (.slice (some ⟨h0, 0, none⟩) 6 c0) 6 (ints L0) ∧ w6.ownsRow w4.heap.size 3 1 (.slice (some ⟨h1, 0, none⟩) 6 c1) 6 (ints L1) ∧ w6.ownsRow w4.heap.size 3 1 (.slice (some ⟨h2, 0, none⟩) 36 c2) 36 (ints L2) by rw [hw6]; exact ⟨o0.alloc _, o1.alloc _, o2.alloc _⟩)
      have HQ := Lib.hid (show Box3 w6 g9 (.slice (some ⟨h0, 0, none⟩) 6 c0) (.slice (some ⟨h1, 0, none⟩) 6 c1) (.slice (some ⟨h2, 0, none⟩) 36 c2) by rw [hw6, hg9]; exact Box3.made _ _ _ _ _)
      have HP := Lib.hid (show ∀ off, w6.frozen? ⟨g9, off, none⟩ = false by rw [hw6, hg9]; exact fun off => by simp)
      have HW6 := Lib.hid hw6
      have G9 := Lib.hid hg9
      have hB4 : B < w4.heap.size := by omega
      have h9g : h9 ≤ g9 := by omega
      have l1g : w1.heap.size ≤ g9 := by omega
      have hsg : s < g9 := by omega
      have hBg : B < g9 := by omega
      clear o0 o1 o2 c g ga hw6 hg9 l5
      go_wp2_with fail
      rw [← HW6.out, ← G9.out]
      refine (l1Below_ex w6 B k 24 HD.out.cur).mono ?_
      rintro e w7 ⟨v, rfl, hv, c, g⟩
      have HD := Lib.hid (HD.out.step c g)
      have HA := Lib.hid (HA.out.keep (by omega) g (fun b e => .inl (by injection e with e; omega)))
      have HB := Lib.hid (HB.out.keep (by omega) g (fun b e => .inl (by injection e with e; omega)))
      have HO := Lib.hid (And.intro (Kit.keptRow HO.out.1 hB4 g) (And.intro (Kit.keptRow HO.out.2.1 hB4 g) (Kit.keptRow HO.out.2.2 hB4 g)))
      have HQ := Lib.hid (HQ.out.grown g (by omega) (fun b e => by injection e with e; omega))
      have HP := Lib.hid (free_kept g (by omega) (fun b e => by injection e with e; omega) HP.out)
      have l7 := g.size
      have hg7 : g9 < w7.heap.size := by omega
      clear c g hv
      by_cases h0' : v = 0
      · as_aux_lemma =>
          have e0 : ((v : Int) == 0) = true := by simp [h0']
          go_wp2_with fail
          refine (l3Any_ex w7 B k most (by omega) HD.out.cur).mono ?_
          rintro e w8 ⟨xs2, A2, n2, cp2, rfl, hat, hcp2, hn2, c, g⟩
          have HD := Lib.hid (HD.out.step c g)
          have HB := Lib.hid (HB.out.keep (by omega) g (fun b e => .inl (by injection e with e; omega)))
          have HO := Lib.hid (And.intro (Kit.keptRow HO.out.1 hB4 g) (And.intro (Kit.keptRow HO.out.2.1 hB4 g) (Kit.keptRow HO.out.2.2 hB4 g)))
          have HQ := Lib.hid (HQ.out.grown g hg7 (fun b e => by injection e with e; omega))
          have l8 := g.size
          have HA := Lib.hid (NdBt.of_at (lo := wz.heap.size) hat (by omega))
          clear hat c g
          obtain ⟨x0, x1, x2⟩ := HD.out.bx
          have y0 := HD.out.fz 0
          have y1 := HD.out.fz 1
          have y2 := HD.out.fz 2
          obtain ⟨b0, b1, b2⟩ := HQ.out
          have hne : g9 ≠ s := by omega
          have hne' : s ≠ g9 := by omega
          go_wp2_with fail
          go_still_tail 5, (by kernel_rfl)
          change wpList _ _ _ _ _ (w8).drew
          go_wp2
          (try simp only [Exit.inBlock, Exit.then])
          refine bodyPost_ret (v := .tuple #[.slice A2 n2 cp2, .slice A' n' cp', .agg #[(.slice (some ⟨h0, 0, none⟩) 6 c0), .slice (some ⟨h1, 0, none⟩) 6 c1, (.slice (some ⟨h2, 0, none⟩) 36 c2)]]) ?_ rfl ?_
          · rw [results_two_cell rfl]
            go_simp
          · have zd : (w8).drew.heap.size = (w8).heap.size := rfl
            have gS : ∀ u0 u1 u2, (w8).drew.grownBy ((((w8).drew.setCell ⟨s, 0, none⟩ u0).setCell ⟨s, 1, none⟩ u1).setCell ⟨s, 2, none⟩ u2) (some s) := fun u0 u1 u2 => Kit.grown_then_set (Kit.grown_then_set (Kit.grown_set _ _ _ _) _ _) _ _
            have DG := grown_drawn HD.out.gr (Drawn.refl (w8)).drew
            have ls0 : w.heap.size ≤ w4.heap.size := by have := HS.out; omega
            have dr : (w8).grownBy (w8).drew none := grown_drewN (Kit.grown_refl _ _) 1
            have kA := (HA.out.keep (by omega) dr (fun b e => by cases e)).keep (by omega) (gS (.slice (some ⟨h0, 0, none⟩) 6 c0) (.slice (some ⟨h1, 0, none⟩) 6 c1) (.slice (some ⟨h2, 0, none⟩) 36 c2)) (fun b e => .inl (by injection e with e; have := HZ.out; omega))
            have kB := (HB.out.keep (by omega) dr (fun b e => by cases e)).keep (by omega) (gS (.slice (some ⟨h0, 0, none⟩) 6 c0) (.slice (some ⟨h1, 0, none⟩) 6 c1) (.slice (some ⟨h2, 0, none⟩) 36 c2)) (fun b e => .inl (by injection e with e; have := HZ.out; omega))
            obtain ⟨A1, n1, q1, K, ev, hn1, hin, qq0, qq1, qq2⟩ := co_out (w1 := w4) (own_drawn HO.out.1 (Drawn.refl _).drew) (own_drawn HO.out.2.1 (Drawn.refl _).drew) (own_drawn HO.out.2.2 (Drawn.refl _).drew) hs4 (.inl rfl) (.slice (some ⟨h0, 0, none⟩) 6 c0) (.slice (some ⟨h1, 0, none⟩) 6 c1) (.slice (some ⟨h2, 0, none⟩) 36 c2)
            injection ev with ea en eq
            subst ea en eq
            exact ⟨xs2, zs, _, _, _, _, _, _, _, _, _, _, _, _, _, K, rfl, kA.1.more (Nat.le_trans (by omega) (gS _ _ _).size), kB.1.more (Nat.le_trans (by omega) (gS _ _ _).size), hcp2, hcp', hn2, hn31', hn1, hin, DG.andThen (gS _ _ _) (fun b e => .inl (by injection e with e; have := HD.out.l0; omega)), (HD.out.cur.drawn (Drawn.refl _).drew).kept (gS _ _ _) (fun b e => by injection e with e; omega), ⟨by omega, fun ad e => by have := qq1 ad e; omega, by omega⟩, fun ad e => by have := kA.2 ad e; have := HZ.out; have := HS.out; omega, fun ad e => by have := kB.2 ad e; have := HZ.out; have := HS.out; omega⟩
      · have e0 : ((v : Int) == 0) = false := beq_eq_false_iff_ne.2 (by omega)
        by_cases h1' : v = 1
        · as_aux_lemma =>
            have e1 : ((v : Int) == 1) = true := by simp [h1']
            go_wp2_with fail
            refine (l7Any_ex w7 B k HD.out.cur).mono ?_
            rintro e w8 ⟨p0, p1, p2, d0, d1, d2, M0, M1, M2, v1, rfl, hv1, o0, o1, o2, c, g⟩
            have HD := Lib.hid (HD.out.step c g)
            have HA := Lib.hid (HA.out.keep (by omega) g (fun b e => .inl (by injection e with e; omega)))
            have HB := Lib.hid (HB.out.keep (by omega) g (fun b e => .inl (by injection e with e; omega)))
            have HQ := Lib.hid (HQ.out.grown g hg7 (fun b e => by injection e with e; omega))
            have HP := Lib.hid (free_kept g hg7 (fun b e => by injection e with e; omega) HP.out)
            have l8 := g.size
            have hs7 : s < w7.heap.size := by omega
            have HO := Lib.hid (And.intro o0 (And.intro o1 o2))
            clear o0 o1 o2 c g
            obtain ⟨b0, b1, b2⟩ := HQ.out
            have f0 := HP.out 0
            have f1 := HP.out 1
            have f2 := HP.out 2
            rcases hv1 with rfl | rfl
            · skip
              go_wp2_with fail
              obtain ⟨w9, hw9⟩ : ∃ w9, w9 = ((w8.setCell ⟨g9, 0, none⟩ (.slice (some ⟨p0, 0, none⟩) 6 d0)).setCell ⟨g9, 1, none⟩ (.slice (some ⟨p1, 0, none⟩) 6 d1)).setCell ⟨g9, 2, none⟩ (.slice (some ⟨p2, 0, none⟩) 36 d2) := ⟨_, rfl⟩
              have g8 : w8.grownBy w9 (some g9) := by rw [hw9]; exact Kit.grown_then_set (Kit.grown_then_set (Kit.grown_set _ _ _ _) _ _) _ _
              have z9 : w9.heap.size = w8.heap.size := by rw [hw9]; simp
              have n01 : ∀ i j, i ≠ j → (⟨g9, i, none⟩ : Addr) ≠ ⟨g9, j, none⟩ := fun i j hij e => hij (by injection e)
              have HQ9 := Lib.hid (show Box3 w9 g9 (.slice (some ⟨p0, 0, none⟩) 6 d0) (.slice (some ⟨p1, 0, none⟩) 6 d1) (.slice (some ⟨p2, 0, none⟩) 36 d2) by
                rw [hw9]
                refine ⟨?_, ?_, ?_⟩
                · rw [World.cell?_setCell_other _ _ _ _ (n01 2 0 (by decide)), World.cell?_setCell_other _ _ _ _ (n01 1 0 (by decide))]; exact World.cell?_setCell_same' _ _ _ (by rw [b0]; rfl)
                · rw [World.cell?_setCell_other _ _ _ _ (n01 2 1 (by decide))]; exact World.cell?_setCell_same' _ _ _ (by rw [World.cell?_setCell_other _ _ _ _ (n01 0 1 (by decide)), b1]; rfl)
                · exact World.cell?_setCell_same' _ _ _ (by rw [World.cell?_setCell_other _ _ _ _ (n01 1 2 (by decide)), World.cell?_setCell_other _ _ _ _ (n01 0 2 (by decide)), b2]; rfl))
              have HD := Lib.hid (HD.out.grown g8 (fun b e => by injection e with e; omega))
              have HA := Lib.hid (HA.out.keep (by omega) g8 (fun b e => .inr (by injection e with e; omega)))
              have HB := Lib.hid (HB.out.keep (by omega) g8 (fun b e => .inr (by injection e with e; omega)))
              have HO := Lib.hid (And.intro (Kit.keptRow HO.out.1 hg7 g8) (And.intro (Kit.keptRow HO.out.2.1 hg7 g8) (Kit.keptRow HO.out.2.2 hg7 g8)))
              rw [← hw9]
              clear b0 b1 b2 f0 f1 f2 hw9 n01
              obtain ⟨x0, x1, x2⟩ := HD.out.bx
              have y0 := HD.out.fz 0
              have y1 := HD.out.fz 1
              have y2 := HD.out.fz 2
              obtain ⟨b0, b1, b2⟩ := HQ9.out
              have hne : g9 ≠ s := by omega
              have hne' : s ≠ g9 := by omega
              go_wp2_with fail
              go_still_tail 5, (by kernel_rfl)
              change wpList _ _ _ _ _ (w9).drew
              go_wp2
              (try simp only [Exit.inBlock, Exit.then])
              refine bodyPost_ret (v := .tuple #[.slice A xs.length cp, .slice A' n' cp', .agg #[(.slice (some ⟨p0, 0, none⟩) 6 d0), .slice (some ⟨p1, 0, none⟩) 6 d1, (.slice (some ⟨p2, 0, none⟩) 36 d2)]]) ?_ rfl ?_
              · rw [results_two_cell rfl]
                go_simp
              · have zd : (w9).drew.heap.size = (w9).heap.size := rfl
                have gS : ∀ u0 u1 u2, (w9).drew.grownBy ((((w9).drew.setCell ⟨s, 0, none⟩ u0).setCell ⟨s, 1, none⟩ u1).setCell ⟨s, 2, none⟩ u2) (some s) := fun u0 u1 u2 => Kit.grown_then_set (Kit.grown_then_set (Kit.grown_set _ _ _ _) _ _) _ _
                have DG := grown_drawn HD.out.gr (Drawn.refl (w9)).drew
                have ls0 : w.heap.size ≤ w7.heap.size := by have := HS.out; omega
                have dr : (w9).grownBy (w9).drew none := grown_drewN (Kit.grown_refl _ _) 1
                have kA := (HA.out.keep (by omega) dr (fun b e => by cases e)).keep (by omega) (gS (.slice (some ⟨p0, 0, none⟩) 6 d0) (.slice (some ⟨p1, 0, none⟩) 6 d1) (.slice (some ⟨p2, 0, none⟩) 36 d2)) (fun b e => .inl (by injection e with e; have := HZ.out; omega))
                have kB := (HB.out.keep (by omega) dr (fun b e => by cases e)).keep (by omega) (gS (.slice (some ⟨p0, 0, none⟩) 6 d0) (.slice (some ⟨p1, 0, none⟩) 6 d1) (.slice (some ⟨p2, 0, none⟩) 36 d2)) (fun b e => .inl (by injection e with e; have := HZ.out; omega))
                obtain ⟨A1, n1, q1, K, ev, hn1, hin, qq0, qq1, qq2⟩ := co_out (w1 := w7) (own_drawn HO.out.1 (Drawn.refl _).drew) (own_drawn HO.out.2.1 (Drawn.refl _).drew) (own_drawn HO.out.2.2 (Drawn.refl _).drew) hs7 (.inl rfl) (.slice (some ⟨p0, 0, none⟩) 6 d0) (.slice (some ⟨p1, 0, none⟩) 6 d1) (.slice (some ⟨p2, 0, none⟩) 36 d2)
                injection ev with ea en eq
                subst ea en eq
                exact ⟨xs, zs, _, _, _, _, _, _, _, _, _, _, _, _, _, K, rfl, kA.1.more (Nat.le_trans (by omega) (gS _ _ _).size), kB.1.more (Nat.le_trans (by omega) (gS _ _ _).size), hcp, hcp', (by omega), hn31', hn1, hin, DG.andThen (gS _ _ _) (fun b e => .inl (by injection e with e; have := HD.out.l0; omega)), (HD.out.cur.drawn (Drawn.refl _).drew).kept (gS _ _ _) (fun b e => by injection e with e; omega), ⟨by omega, fun ad e => by have := qq1 ad e; omega, by omega⟩, fun ad e => by have := kA.2 ad e; have := HZ.out; have := HS.out; omega, fun ad e => by have := kB.2 ad e; have := HZ.out; have := HS.out; omega⟩
            · skip
              go_wp2_with fail
              obtain ⟨w9, hw9⟩ : ∃ w9, w9 = ((w8.setCell ⟨g9, 0, none⟩ (.slice (some ⟨p0, 0, none⟩) 6 d0)).setCell ⟨g9, 1, none⟩ (.slice (some ⟨p1, 1, none⟩) 5 (d1 - 1))).setCell ⟨g9, 2, none⟩ (.slice (some ⟨p2, 0, none⟩) 36 d2) := ⟨_, rfl⟩
              have g8 : w8.grownBy w9 (some g9) := by rw [hw9]; exact Kit.grown_then_set (Kit.grown_then_set (Kit.grown_set _ _ _ _) _ _) _ _
              have z9 : w9.heap.size = w8.heap.size := by rw [hw9]; simp
              have n01 : ∀ i j, i ≠ j → (⟨g9, i, none⟩ : Addr) ≠ ⟨g9, j, none⟩ := fun i j hij e => hij (by injection e)
              have HQ9 := Lib.hid (show Box3 w9 g9 (.slice (some ⟨p0, 0, none⟩) 6 d0) (.slice (some ⟨p1, 1, none⟩) 5 (d1 - 1)) (.slice (some ⟨p2, 0, none⟩) 36 d2) by
                rw [hw9]
                refine ⟨?_, ?_, ?_⟩
                · rw [World.cell?_setCell_other _ _ _ _ (n01 2 0 (by decide)), World.cell?_setCell_other _ _ _ _ (n01 1 0 (by decide))]; exact World.cell?_setCell_same' _ _ _ (by rw [b0]; rfl)
                · rw [World.cell?_setCell_other _ _ _ _ (n01 2 1 (by decide))]; exact World.cell?_setCell_same' _ _ _ (by rw [World.cell?_setCell_other _ _ _ _ (n01 0 1 (by decide)), b1]; rfl)
                · exact World.cell?_setCell_same' _ _ _ (by rw [World.cell?_setCell_other _ _ _ _ (n01 1 2 (by decide)), World.cell?_setCell_other _ _ _ _ (n01 0 2 (by decide)), b2]; rfl))
              have HD := Lib.hid (HD.out.grown g8 (fun b e => by injection e with e; omega))
              have HA := Lib.hid (HA.out.keep (by omega) g8 (fun b e => .inr (by injection e with e; omega)))
              have HB := Lib.hid (HB.out.keep (by omega) g8 (fun b e => .inr (by injection e with e; omega)))
              have HO := Lib.hid (And.intro (Kit.keptRow HO.out.1 hg7 g8) (And.intro (Kit.keptRow HO.out.2.1 hg7 g8) (Kit.keptRow HO.out.2.2 hg7 g8)))
              rw [← hw9]
              clear b0 b1 b2 f0 f1 f2 hw9 n01
              obtain ⟨x0, x1, x2⟩ := HD.out.bx
              have y0 := HD.out.fz 0
              have y1 := HD.out.fz 1
              have y2 := HD.out.fz 2
              obtain ⟨b0, b1, b2⟩ := HQ9.out
              have hne : g9 ≠ s := by omega
              have hne' : s ≠ g9 := by omega
              go_wp2_with fail
              go_still_tail 5, (by kernel_rfl)
              change wpList _ _ _ _ _ (w9).drew
              go_wp2
              (try simp only [Exit.inBlock, Exit.then])
              refine bodyPost_ret (v := .tuple #[.slice A xs.length cp, .slice A' n' cp', .agg #[(.slice (some ⟨p0, 0, none⟩) 6 d0), .slice (some ⟨p1, 1, none⟩) 5 (d1 - 1), (.slice (some ⟨p2, 0, none⟩) 36 d2)]]) ?_ rfl ?_
              · rw [results_two_cell rfl]
                go_simp
              · have zd : (w9).drew.heap.size = (w9).heap.size := rfl
                have gS : ∀ u0 u1 u2, (w9).drew.grownBy ((((w9).drew.setCell ⟨s, 0, none⟩ u0).setCell ⟨s, 1, none⟩ u1).setCell ⟨s, 2, none⟩ u2) (some s) := fun u0 u1 u2 => Kit.grown_then_set (Kit.grown_then_set (Kit.grown_set _ _ _ _) _ _) _ _
                have DG := grown_drawn HD.out.gr (Drawn.refl (w9)).drew
                have ls0 : w.heap.size ≤ w7.heap.size := by have := HS.out; omega
                have dr : (w9).grownBy (w9).drew none := grown_drewN (Kit.grown_refl _ _) 1
                have kA := (HA.out.keep (by omega) dr (fun b e => by cases e)).keep (by omega) (gS (.slice (some ⟨p0, 0, none⟩) 6 d0) (.slice (some ⟨p1, 1, none⟩) 5 (d1 - 1)) (.slice (some ⟨p2, 0, none⟩) 36 d2)) (fun b e => .inl (by injection e with e; have := HZ.out; omega))
                have kB := (HB.out.keep (by omega) dr (fun b e => by cases e)).keep (by omega) (gS (.slice (some ⟨p0, 0, none⟩) 6 d0) (.slice (some ⟨p1, 1, none⟩) 5 (d1 - 1)) (.slice (some ⟨p2, 0, none⟩) 36 d2)) (fun b e => .inl (by injection e with e; have := HZ.out; omega))
                obtain ⟨A1, n1, q1, K, ev, hn1, hin, qq0, qq1, qq2⟩ := co_out (w1 := w7) (own_drawn HO.out.1 (Drawn.refl _).drew) (own_drawn HO.out.2.1 (Drawn.refl _).drew) (own_drawn HO.out.2.2 (Drawn.refl _).drew) hs7 (.inr rfl) (.slice (some ⟨p0, 0, none⟩) 6 d0) (.slice (some ⟨p1, 1, none⟩) 5 (d1 - 1)) (.slice (some ⟨p2, 0, none⟩) 36 d2)
                injection ev with ea en eq
                subst ea en eq
                exact ⟨xs, zs, _, _, _, _, _, _, _, _, _, _, _, _, _, K, rfl, kA.1.more (Nat.le_trans (by omega) (gS _ _ _).size), kB.1.more (Nat.le_trans (by omega) (gS _ _ _).size), hcp, hcp', (by omega), hn31', hn1, hin, DG.andThen (gS _ _ _) (fun b e => .inl (by injection e with e; have := HD.out.l0; omega)), (HD.out.cur.drawn (Drawn.refl _).drew).kept (gS _ _ _) (fun b e => by injection e with e; omega), ⟨by omega, fun ad e => by have := qq1 ad e; omega, by omega⟩, fun ad e => by have := kA.2 ad e; have := HZ.out; have := HS.out; omega, fun ad e => by have := kB.2 ad e; have := HZ.out; have := HS.out; omega⟩
        · as_aux_lemma =>
            have e1 : ((v : Int) == 1) = false := beq_eq_false_iff_ne.2 (by omega)
            obtain ⟨x0, x1, x2⟩ := HD.out.bx
            have y0 := HD.out.fz 0
            have y1 := HD.out.fz 1
            have y2 := HD.out.fz 2
            obtain ⟨b0, b1, b2⟩ := HQ.out
            have hne : g9 ≠ s := by omega
            have hne' : s ≠ g9 := by omega
            go_wp2_with fail
            go_still_tail 5, (by kernel_rfl)
            change wpList _ _ _ _ _ (w7).drew
            go_wp2
            (try simp only [Exit.inBlock, Exit.then])
            refine bodyPost_ret (v := .tuple #[.slice A xs.length cp, .slice A' n' cp', .agg #[(.slice (some ⟨h0, 0, none⟩) 6 c0), .slice (some ⟨h1, 0, none⟩) 6 c1, (.slice (some ⟨h2, 0, none⟩) 36 c2)]]) ?_ rfl ?_
            · rw [results_two_cell rfl]
              go_simp
            · have zd : (w7).drew.heap.size = (w7).heap.size := rfl
              have gS : ∀ u0 u1 u2, (w7).drew.grownBy ((((w7).drew.setCell ⟨s, 0, none⟩ u0).setCell ⟨s, 1, none⟩ u1).setCell ⟨s, 2, none⟩ u2) (some s) := fun u0 u1 u2 => Kit.grown_then_set (Kit.grown_then_set (Kit.grown_set _ _ _ _) _ _) _ _
              have DG := grown_drawn HD.out.gr (Drawn.refl (w7)).drew
              have ls0 : w.heap.size ≤ w4.heap.size := by have := HS.out; omega
              have dr : (w7).grownBy (w7).drew none := grown_drewN (Kit.grown_refl _ _) 1
              have kA := (HA.out.keep (by omega) dr (fun b e => by cases e)).keep (by omega) (gS (.slice (some ⟨h0, 0, none⟩) 6 c0) (.slice (some ⟨h1, 0, none⟩) 6 c1) (.slice (some ⟨h2, 0, none⟩) 36 c2)) (fun b e => .inl (by injection e with e; have := HZ.out; omega))
              have kB := (HB.out.keep (by omega) dr (fun b e => by cases e)).keep (by omega) (gS (.slice (some ⟨h0, 0, none⟩) 6 c0) (.slice (some ⟨h1, 0, none⟩) 6 c1) (.slice (some ⟨h2, 0, none⟩) 36 c2)) (fun b e => .inl (by injection e with e; have := HZ.out; omega))
              obtain ⟨A1, n1, q1, K, ev, hn1, hin, qq0, qq1, qq2⟩ := co_out (w1 := w4) (own_drawn HO.out.1 (Drawn.refl _).drew) (own_drawn HO.out.2.1 (Drawn.refl _).drew) (own_drawn HO.out.2.2 (Drawn.refl _).drew) hs4 (.inl rfl) (.slice (some ⟨h0, 0, none⟩) 6 c0) (.slice (some ⟨h1, 0, none⟩) 6 c1) (.slice (some ⟨h2, 0, none⟩) 36 c2)
              injection ev with ea en eq
              subst ea en eq
              exact ⟨xs, zs, _, _, _, _, _, _, _, _, _, _, _, _, _, K, rfl, kA.1.more (Nat.le_trans (by omega) (gS _ _ _).size), kB.1.more (Nat.le_trans (by omega) (gS _ _ _).size), hcp, hcp', (by omega), hn31', hn1, hin, DG.andThen (gS _ _ _) (fun b e => .inl (by injection e with e; have := HD.out.l0; omega)), (HD.out.cur.drawn (Drawn.refl _).drew).kept (gS _ _ _) (fun b e => by injection e with e; omega), ⟨by omega, fun ad e => by have := qq1 ad e; omega, by omega⟩, fun ad e => by have := kA.2 ad e; have := HZ.out; have := HS.out; omega, fun ad e => by have := kB.2 ad e; have := HZ.out; have := HS.out; omega⟩
/-- a row of ints in blocks from lo on -/
theorem IntIn.keepLo {w w' : World} {lo n : Nat} {A : Option Addr} {zs : List Int} {r : Option Nat} (h : IntIn w w.heap.size A n zs) (hl : ∀ ad, A = some ad → lo ≤ ad.block) (hg : w.grownBy w' r) (hr : ∀ b, r = some b → b < lo) : IntIn w' w'.heap.size A n zs := by
  refine ⟨h.1, fun hn => ?_, fun ad e k hk => ?_⟩
  · obtain ⟨ad, e, hb⟩ := h.2.1 hn
    exact ⟨ad, e, Nat.lt_of_lt_of_le hb hg.size⟩
  · obtain ⟨ad', e', hb⟩ := h.2.1 (by omega)
    obtain rfl : ad' = ad := by rw [e'] at e; injection e
    have h1 := hl _ e'
    have := h.2.2 _ e k hk
    rw [World.cell?_of_block (w := w) (w' := w') (a := ad'.add k) (by rw [block_of_add]; exact hg.block ad'.block hb (by intro e2; have := hr _ e2.symm; omega))]
    exact this
theorem NdIn.keepLo {w w' : World} {lo n : Nat} {A : Option Addr} {xs : Tr} {r : Option Nat} (h : NdIn w w.heap.size A n xs) (hl : ∀ ad, A = some ad → lo ≤ ad.block) (hg : w.grownBy w' r) (hr : ∀ b, r = some b → b < lo) : NdIn w' w'.heap.size A n xs :=
  ((NdBt.keep (lo := lo) (hi := w.heap.size) ⟨h, hl⟩ (Nat.le_refl _) hg (fun b e => .inl (hr b e))).1).more hg.size
/-- two trees and a cost, drawn: the frame is the call's -/
def DrawT3 (w : World) (e : Ending) (w' : World) : Prop :=
  ∃ (xs ys : Tr) (A A' : Option Addr) (n n' cp cp' h0 h2 c0 c2 : Nat) (A1 : Option Addr) (n1 q1 : Nat) (K : Co), e = .returned (.tuple #[.slice A n cp, .slice A' n' cp', .agg #[.slice (some ⟨h0, 0, none⟩) 6 c0, .slice A1 n1 q1, .slice (some ⟨h2, 0, none⟩) 36 c2]]) ∧
    NdIn w' w'.heap.size A n xs ∧ NdIn w' w'.heap.size A' n' ys ∧ n ≤ cp ∧ n' ≤ cp' ∧ n ≤ 31 ∧ n' ≤ 31 ∧ (n1 = 6 ∨ n1 = 5) ∧ CoIn w' w'.heap.size (some ⟨h0, 0, none⟩) A1 (some ⟨h2, 0, none⟩) 6 n1 36 K ∧ Below w.heap.size w w'
end Go.Proofs.Ytnfjdlocmdgefaa
