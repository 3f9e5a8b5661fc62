/- Contracts (DrawRC). -/
import Derived.Test.YtpdpkcadolcbmaaAnyCD
namespace Go.Proofs.Ytpdpkcadolcbmaa
open Go.RowKit
set_option linter.unusedVariables false

theorem CodeIn.onto {w w' : World} {B : Nat} {a : Option Addr} {cs : List Int} (h : CodeIn w B a cs) (hb : Below B w w') (hB : B ≤ w'.heap.size) : CodeIn w' w'.heap.size a cs := by
  intro j hj
  obtain ⟨b, off, h1, h2, h3, h4⟩ := h j hj
  exact ⟨b, off, h1, by omega, (hb.cell (p := ⟨b, off + j, none⟩) h2).trans h3, h4⟩
/-- a drawn cost, and two numbers -/
def DrawRC (w : World) (e : Ending) (w' : World) : Prop := ∃ a b : Int, ∃ (h0 h1 h2 c0 c2 : Nat) (A1 : Option Addr) (n1 q1 : Nat) (K : Co), e = .returned (.tuple #[.agg #[.slice (some ⟨h0, 0, none⟩) 6 c0, .slice A1 n1 q1, .slice (some ⟨h2, 0, none⟩) 36 c2], .int .i64 a, .int .i64 b]) ∧ (n1 = 6 ∧ A1 = some ⟨h1, 0, none⟩ ∨ n1 = 5) ∧ CoIn w' w'.heap.size (some ⟨h0, 0, none⟩) A1 (some ⟨h2, 0, none⟩) 6 n1 36 K ∧ Below w.heap.size w w'
/-- a drawn cost -/
def DrawPC (w : World) (e : Ending) (w' : World) : Prop := ∃ (h0 h1 h2 c0 c2 : Nat) (A1 : Option Addr) (n1 q1 : Nat) (K : Co), e = .returned (.agg #[.slice (some ⟨h0, 0, none⟩) 6 c0, .slice A1 n1 q1, .slice (some ⟨h2, 0, none⟩) 36 c2]) ∧ (n1 = 6 ∧ A1 = some ⟨h1, 0, none⟩ ∨ n1 = 5) ∧ CoIn w' w'.heap.size (some ⟨h0, 0, none⟩) A1 (some ⟨h2, 0, none⟩) 6 n1 36 K ∧ Below w.heap.size w w'
theorem results_cell_two {fn : Func} {p u v : Tmp} {ty : TypeId} (h : fn.results = #[.cell p ty, .tmp u, .tmp v]) (tmps : Array Value) (P : Program) (w : World) :
    (results fn tmps).run P w =
      ((asAddr (tmps.getD p undef)).run P w).andThen fun a w₁ => ((loadVar ty a).run P w₁).andThen fun x w₂ => .ok (.tuple #[x, tmps.getD u undef, tmps.getD v undef]) w₂ := by
  simp only [results, h]
  simp [Sem.run_bind, Result.andThen]
/-- a drawn cost behind the writing of the result's variable -/
theorem cost_out {w w1 wx : World} {s h0 h1 h2 c0 c1 c2 : Nat} {L0 L1 L2 : List Int} {v1 : Value} (o0 : wx.ownsRow w1.heap.size 3 1 (.slice (some ⟨h0, 0, none⟩) 6 c0) 6 (ints L0)) (o1 : wx.ownsRow w1.heap.size 3 1 (.slice (some ⟨h1, 0, none⟩) 6 c1) 6 (ints L1)) (o2 : wx.ownsRow w1.heap.size 3 1 (.slice (some ⟨h2, 0, none⟩) 36 c2) 36 (ints L2))
    (hs : s < w1.heap.size) (hv : v1 = .slice (some ⟨h1, 0, none⟩) 6 c1 ∨ v1 = .slice (some ⟨h1, 1, none⟩) 5 (c1 - 1)) (hB : Below s w wx) (u0 u1 u2 : Value) :
    ∃ A1 n1 q1 K, v1 = .slice A1 n1 q1 ∧ (n1 = 6 ∧ A1 = some ⟨h1, 0, none⟩ ∨ n1 = 5) ∧ CoIn (((wx.setCell ⟨s, 0, none⟩ u0).setCell ⟨s, 1, none⟩ u1).setCell ⟨s, 2, none⟩ u2) (((wx.setCell ⟨s, 0, none⟩ u0).setCell ⟨s, 1, none⟩ u1).setCell ⟨s, 2, none⟩ u2).heap.size (some ⟨h0, 0, none⟩) A1 (some ⟨h2, 0, none⟩) 6 n1 36 K ∧ Below s w (((wx.setCell ⟨s, 0, none⟩ u0).setCell ⟨s, 1, none⟩ u1).setCell ⟨s, 2, none⟩ u2) := by
  have hg : wx.grownBy (((wx.setCell ⟨s, 0, none⟩ u0).setCell ⟨s, 1, none⟩ u1).setCell ⟨s, 2, none⟩ u2) (some s) := Kit.grown_then_set (Kit.grown_then_set (Kit.grown_set _ _ _ _) _ _) _ _
  have hb := ((hB.setCell (p := ⟨s, 0, none⟩) (Nat.le_refl _) u0).setCell (p := ⟨s, 1, none⟩) (Nat.le_refl _) u1).setCell (p := ⟨s, 2, none⟩) (Nat.le_refl _) u2
  have k0 := IntIn.of_own (Kit.keptRow o0 hs hg)
  have k1 := IntIn.of_own (Kit.keptRow o1 hs hg)
  have k2 := IntIn.of_own (Kit.keptRow o2 hs hg)
  rcases hv with rfl | rfl
  · exact ⟨_, _, _, ⟨L0, L1, L2⟩, rfl, .inl ⟨rfl, rfl⟩, ⟨k0, k1, k2⟩, hb⟩
  · exact ⟨_, _, _, ⟨L0, _, L2⟩, rfl, .inr rfl, ⟨k0, IntIn.part (k := 1) (m := 5) k1 (by decide) (by decide), k2⟩, hb⟩
set_option maxHeartbeats 3200000 in
set_option maxRecDepth 100000 in
theorem drawRelCost_ex (w : World) (k : Code) (hcode : CodeIn w w.heap.size k.a k.cs) (hlen : k.cs.length ≤ 1048576) :
    Calls Try.prog 13 #[.slice k.a k.cs.length k.cap] w (DrawRC w) := by
  obtain ⟨wz, hwz⟩ : ∃ wz, wz = w.alloc (.cells #[.slice none 0 0, .slice none 0 0, .slice none 0 0] 26) := ⟨_, rfl⟩
  have HX := Lib.hid (show Box3 wz w.heap.size (.slice none 0 0) (.slice none 0 0) (.slice none 0 0) by rw [hwz]; exact Box3.made _ _ _ _ _)
  have HF := Lib.hid (show ∀ off, wz.frozen? ⟨w.heap.size, off, none⟩ = false by rw [hwz]; exact fun off => by simp)
  have hbz : Below w.heap.size w wz := by rw [hwz]; exact (Below.refl _ _).alloc (Nat.le_refl _) _
  have hzs : w.heap.size < wz.heap.size := by rw [hwz]; simp
  have HC := Lib.hid (CodeIn.onto hcode hbz hbz.size)
  have HS := Lib.hid hzs
  have HBZ := Lib.hid hbz
  clear hcode hbz hzs
  go_enter Try.func13, Try.ntmps13
  go_wp2_with fail
  rw [← hwz]
  clear hwz
  refine (l1New_ex _ k HC.out hlen).mono ?_
  rintro e w1 ⟨rfl, c, g1⟩
  have HX := Lib.hid (HX.out.grown g1 HS.out (fun b e => by cases e))
  have HF := Lib.hid (free_kept g1 HS.out (fun b e => by cases e) HF.out)
  have HB := Lib.hid (HBZ.out.trans ((Below.refl _ _).grown g1 (Nat.le_of_lt HS.out) (fun b e => by cases e)))
  have hs1 := Nat.lt_of_lt_of_le HS.out g1.size
  have HBB := Lib.hid c.lt
  have HQ := Lib.hid c
  clear c g1
  go_wp2_with fail
  refine (l7Any_ex _ _ k HQ.out).mono ?_
  rintro e w2 ⟨h0, h1, h2, c0, c1, c2, L0, L1, L2, v1, rfl, hv1, o0, o1, o2, c, g2⟩
  have HX := Lib.hid (HX.out.grown g2 hs1 (fun b e => by injection e with e; have := HS.out; omega))
  have HF := Lib.hid (free_kept g2 hs1 (fun b e => by injection e with e; have := HS.out; omega) HF.out)
  have hs2 := Nat.lt_of_lt_of_le hs1 g2.size
  have HB := Lib.hid (HB.out.trans (Kit.below_of_grown g2 (fun b e => by injection e with e; have := HS.out; omega) (Nat.le_of_lt hs1)))
  have HQ := Lib.hid c
  have HO := Lib.hid (And.intro o0 (And.intro o1 o2))
  clear c g2 o0 o1 o2 hs1
  go_wp2_with fail
  refine (l2Any_ex _ _ k HQ.out).mono ?_
  rintro e w3 ⟨a, rfl, c, g⟩
  have HX := Lib.hid (HX.out.grown g hs2 (fun b e => by injection e with e; have := HS.out; omega))
  have HF := Lib.hid (free_kept g hs2 (fun b e => by injection e with e; have := HS.out; omega) HF.out)
  have hs3 := Nat.lt_of_lt_of_le hs2 g.size
  have HB := Lib.hid (HB.out.trans (Kit.below_of_grown g (fun b e => by injection e with e; have := HS.out; omega) (Nat.le_of_lt hs2)))
  have HQ := Lib.hid c
  have HO := Lib.hid (And.intro (Kit.keptRow HO.out.1 HBB.out g) (And.intro (Kit.keptRow HO.out.2.1 HBB.out g) (Kit.keptRow HO.out.2.2 HBB.out g)))
  clear c g hs2
  go_wp2_with fail
  refine (l2Any_ex _ _ k HQ.out).mono ?_
  rintro e w4 ⟨b, rfl, c, g⟩
  have HX := Lib.hid (HX.out.grown g hs3 (fun b e => by injection e with e; have := HS.out; omega))
  have HF := Lib.hid (free_kept g hs3 (fun b e => by injection e with e; have := HS.out; omega) HF.out)
  have hs4 := Nat.lt_of_lt_of_le hs3 g.size
  have HB := Lib.hid (HB.out.trans (Kit.below_of_grown g (fun b e => by injection e with e; have := HS.out; omega) (Nat.le_of_lt hs3)))
  have HQ := Lib.hid c
  have HO := Lib.hid (And.intro (Kit.keptRow HO.out.1 HBB.out g) (And.intro (Kit.keptRow HO.out.2.1 HBB.out g) (Kit.keptRow HO.out.2.2 HBB.out g)))
  clear c g hs3
  have hlt : w.heap.size < w1.heap.size := Nat.lt_trans HS.out HBB.out
  have E := Lib.hid fun u0 u1 u2 => cost_out (s := w.heap.size) HO.out.1 HO.out.2.1 HO.out.2.2 hlt hv1 HB.out u0 u1 u2
  rcases hv1 with rfl | rfl
  · obtain ⟨x0, x1, x2⟩ := HX.out
    have f0 := HF.out 0
    have f1 := HF.out 1
    have f2 := HF.out 2
    go_wp2
    (try simp only [Exit.inBlock, Exit.then])
    refine bodyPost_ret (v := .tuple #[.agg #[.slice (some ⟨h0, 0, none⟩) 6 c0, .slice (some ⟨h1, 0, none⟩) 6 c1, .slice (some ⟨h2, 0, none⟩) 36 c2], .int .i64 a, .int .i64 b]) ?_ rfl ?_
    · rw [results_cell_two rfl]
      go_simp
    · obtain ⟨A1, n1, q1, K, e1, hn1, hin, hbl⟩ := E.out _ _ _
      injection e1 with ea1 en1 eq1
      subst ea1 en1 eq1
      exact ⟨a, b, h0, h1, h2, c0, c2, _, _, _, K, rfl, hn1, hin, hbl⟩
  · obtain ⟨x0, x1, x2⟩ := HX.out
    have f0 := HF.out 0
    have f1 := HF.out 1
    have f2 := HF.out 2
    go_wp2
    (try simp only [Exit.inBlock, Exit.then])
    refine bodyPost_ret (v := .tuple #[.agg #[.slice (some ⟨h0, 0, none⟩) 6 c0, .slice (some ⟨h1, 1, none⟩) 5 (c1 - 1), .slice (some ⟨h2, 0, none⟩) 36 c2], .int .i64 a, .int .i64 b]) ?_ rfl ?_
    · rw [results_cell_two rfl]
      go_simp
    · obtain ⟨A1, n1, q1, K, e1, hn1, hin, hbl⟩ := E.out _ _ _
      injection e1 with ea1 en1 eq1
      subst ea1 en1 eq1
      exact ⟨a, b, h0, h1, h2, c0, c2, _, _, _, K, rfl, hn1, hin, hbl⟩

end Go.Proofs.Ytpdpkcadolcbmaa
