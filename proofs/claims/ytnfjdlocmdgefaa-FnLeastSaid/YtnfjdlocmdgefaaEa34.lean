/- Texts of one claim laid into one file, in build order: AnyCD, DrawCo. -/
import Derived.Test.YtnfjdlocmdgefaaEa33
/- Contracts (AnyCD). -/
namespace Go.Proofs.Ytnfjdlocmdgefaa
open Go.RowKit
set_option linter.unusedVariables false

/-- a cost that a draw has laid; of the second row the first cell may be cut off -/
def CostA (w : World) (B : Nat) (k : Code) (e : Ending) (w' : World) : Prop :=
  ∃ h0 h1 h2 c0 c1 c2 L0 L1 L2 v1, e = .returned (.agg #[.slice (some ⟨h0, 0, none⟩) 6 c0, v1, .slice (some ⟨h2, 0, none⟩) 36 c2]) ∧ (v1 = .slice (some ⟨h1, 0, none⟩) 6 c1 ∨ v1 = .slice (some ⟨h1, 1, none⟩) 5 (c1 - 1)) ∧ w'.ownsRow w.heap.size 3 1 (.slice (some ⟨h0, 0, none⟩) 6 c0) 6 (ints L0) ∧ w'.ownsRow w.heap.size 3 1 (.slice (some ⟨h1, 0, none⟩) 6 c1) 6 (ints L1) ∧ w'.ownsRow w.heap.size 3 1 (.slice (some ⟨h2, 0, none⟩) 36 c2) 36 (ints L2) ∧ CurX w' B k ∧ w.grownBy w' (some B)
theorem CostD.any {w w' : World} {B : Nat} {k : Code} {e : Ending} (h : CostD w B k e w') : CostA w B k e w' := by
  obtain ⟨h0, h1, h2, c0, c1, c2, L0, L1, L2, rfl, o0, o1, o2, hh, hc, hG⟩ := h
  exact ⟨h0, h1, h2, c0, c1, c2, L0, L1, L2, _, rfl, .inl rfl, o0, o1, o2, hc, hG⟩
theorem CoD.tail {w0 w : World} {B s g : Nat} {k : Code} {h0 h1 h2 c0 c1 c2 : Nat} {L0 L1 L2 : List Int} (h : CoD w0 B s g k h0 h1 h2 c0 c1 c2 L0 L1 L2 w) (u u0 u1 u2 : Value) : CostA w0 B k (.returned (.agg #[.slice (some ⟨h0, 0, none⟩) 6 c0, .slice (some ⟨h1, 1, none⟩) 5 (c1 - 1), .slice (some ⟨h2, 0, none⟩) 36 c2])) ((((w.setCell ⟨g, 1, none⟩ u).setCell ⟨s, 0, none⟩ u0).setCell ⟨s, 1, none⟩ u1).setCell ⟨s, 2, none⟩ u2) := by
  obtain ⟨hx, hf, hy, hfy, o0, o1, o2, hh, hc, hG, ⟨hB, hs0, hg0, hsg, hsl, hgl⟩, hn⟩ := h
  have e0 := hn h0 (by simp)
  have e1 := hn h1 (by simp)
  have e2 := hn h2 (by simp)
  have hg : w.grownBy (w.setCell ⟨g, 1, none⟩ u) (some g) := Kit.grown_set _ _ _ _
  have hs : (w.setCell ⟨g, 1, none⟩ u).grownBy ((((w.setCell ⟨g, 1, none⟩ u).setCell ⟨s, 0, none⟩ u0).setCell ⟨s, 1, none⟩ u1).setCell ⟨s, 2, none⟩ u2) (some s) := Kit.grown_then_set (Kit.grown_then_set (Kit.grown_set _ _ _ _) _ _) _ _
  have kp : ∀ {v : Value} {n : Nat} {ys : List Value} {b : Nat}, v.ownBlock = some b → b ≠ s ∧ b ≠ g → w.ownsRow w0.heap.size 3 1 v n ys → ((((w.setCell ⟨g, 1, none⟩ u).setCell ⟨s, 0, none⟩ u0).setCell ⟨s, 1, none⟩ u1).setCell ⟨s, 2, none⟩ u2).ownsRow w0.heap.size 3 1 v n ys := fun hv hb o =>
    World.ownsRow.kept (World.ownsRow.kept o hg (.inr (by rw [hv]; intro e; injection e with e; exact hb.2 e))) hs (.inr (by rw [hv]; intro e; injection e with e; exact hb.1 e))
  exact ⟨h0, h1, h2, c0, c1, c2, L0, L1, L2, _, rfl, .inr rfl, kp rfl e0 o0, kp rfl e1 o1, kp rfl e2 o2, (hc.kept hg (fun b e => by injection e with e; omega)).kept hs (fun b e => by injection e with e; omega), (hG.andThen hg (fun j hj => .inl (by injection hj with hj; omega))).andThen hs (fun j hj => .inl (by injection hj with hj; omega))⟩
/-- a literal's cells stand behind a draw -/
theorem lit_kept {w w' : World} {B : Nat} {C : Array Value} {t : TypeId} {xs : List Int} (hC : C = (xs.map (Value.int .i64)).toArray) (hB : B < w.heap.size) (hg : (w.alloc (.cells C t)).grownBy w' (some B)) : ∀ j, j < xs.length → w'.cell? ⟨w.heap.size, j, none⟩ = some (.int .i64 (xs.getD j 0)) := by
  intro j hj
  refine hg.cell (a := ⟨w.heap.size, j, none⟩) ?_ (fun e => by injection e with e; simp only at e; omega)
  rw [World.cell?_alloc_at (hn := rfl), hC]
  simp [List.getD_eq_getElem?_getD, hj]
theorem lit_lt {w w' : World} {B : Nat} {o : Obj} (hg : (w.alloc o).grownBy w' (some B)) : w.heap.size < w'.heap.size := by
  have := hg.size
  rw [World.size_alloc] at this
  omega
set_option maxHeartbeats 3200000 in
set_option maxRecDepth 100000 in
theorem l7Any_ex (w : World) (B : Nat) (k : Code) (c : CurX w B k) :
    Calls Try.prog 60 #[.pointer (some ⟨B, 0, none⟩)] w (CostA w B k) := by
  have HC := Lib.hid c
  have hBB := Lib.hid c.lt
  clear c
  obtain ⟨wz, hwz⟩ : ∃ wz, wz = w.alloc (.cells #[.slice none 0 0, .slice none 0 0, .slice none 0 0] 27) := ⟨_, rfl⟩
  have HX := Lib.hid (show Box3 wz w.heap.size (.slice none 0 0) (.slice none 0 0) (.slice none 0 0) by rw [hwz]; exact Box3.made _ _ _ _ _)
  have HF := Lib.hid (show ∀ off, wz.frozen? ⟨w.heap.size, off, none⟩ = false by rw [hwz]; exact fun off => by simp)
  have HG := Lib.hid (show w.grownBy wz (some B) by rw [hwz]; exact Kit.grown_alloc _ _ _)
  have HS := Lib.hid (show w.heap.size < wz.heap.size by rw [hwz]; simp)
  have HC := Lib.hid (show CurX wz B k by rw [hwz]; exact HC.out.alloc _)
  go_enter Try.func60, Try.ntmps60
  go_wp2_with fail
  rw [← hwz]
  clear hwz
  have hBz : B < wz.heap.size := HC.out.lt
  refine (l7Cost_ex _ B k HC.out).mono ?_
  rintro e w1 ⟨h0, h1, h2, c0, c1, c2, L0, L1, L2, rfl, o0, o1, o2, hh, hc, gc⟩
  have hsl := Nat.lt_of_lt_of_le HS.out gc.size
  have HD := Lib.hid (CoD.made (k := k) (w0 := w) (wz := wz) (w1 := w1) (B := B) (s := w.heap.size) hc (Kit.grown_trans HG.out gc) hBB.out (Nat.le_refl _) HS.out (HX.out.grown gc HS.out (fun b e => by injection e with e; have := hBB.out; omega)) (free_kept gc HS.out (fun b e => by injection e with e; have := hBB.out; omega) HF.out) hsl o0 o1 o2 hh)
  obtain ⟨g, eg⟩ : ∃ g, g = w1.heap.size := ⟨_, rfl⟩
  obtain ⟨wc, hwc⟩ : ∃ wc, wc = w1.alloc (.cells #[.slice (some ⟨h0, 0, none⟩) 6 c0, .slice (some ⟨h1, 0, none⟩) 6 c1, .slice (some ⟨h2, 0, none⟩) 36 c2] 27) := ⟨_, rfl⟩
  rw [← eg, ← hwc] at HD
  clear o0 o1 o2 hh hc gc hsl HX HF HG HS HC hBz
  go_wp2_with fail
  rw [← hwc]
  rw [← eg]
  clear hwc eg
  refine (l1Below_ex _ B k _ HD.out.cursor).mono ?_
  rintro e w2 ⟨u, rfl, hu, cv, gv⟩
  have HD := Lib.hid (CoD.cur HD.out gv cv)
  clear cv gv
  by_cases u0 : u = 0
  · have e0 : ((u : Int) == 0) = true := by simp [u0]
    go_wp2_with fail
    have S0 := Lib.hid (CoD.held HD.out.drew)
    go_region_held3 (fun wq => wq.cell? ⟨g, 0, none⟩ = some (.slice (some ⟨h0, 0, none⟩) 6 c0) ∧ wq.cell? ⟨g, 1, none⟩ = some (.slice (some ⟨h1, 0, none⟩) 6 c1) ∧ wq.cell? ⟨g, 2, none⟩ = some (.slice (some ⟨h2, 0, none⟩) 36 c2)) (first | exact S0.out | exact CoD.held (CoD.put0 hd _ _) | exact CoD.held hd | exact CoD.held (CoD.alloc hd _) | exact CoD.held (CoD.alloc HD.out.drew _)) (first | (go_at_call 58; (fail_if_success (have := hvv)); refine (l1Below_ex _ B k 6 (CoD.cursor HD.out.drew)).mono ?_; rintro e w5 ⟨v, rfl, hvv, cv, gv⟩; have hd := CoD.cur HD.out.drew gv cv; have hvl : v < 6 := (by omega); have i0 : (0 : Int) ≤ (v : Int) := (by omega); have i1 : (v : Int) < 6 := (by omega)) | (go_at_call 58; (fail_if_success (have := hvv)); refine (l1Below_ex _ B k 6 (CoD.cursor (CoD.alloc HD.out.drew _))).mono ?_; rintro e w5 ⟨v, rfl, hvv, cv, gv⟩; have hd := CoD.cur (CoD.alloc HD.out.drew _) gv cv; have hvl : v < 6 := (by omega); have i0 : (0 : Int) ≤ (v : Int) := (by omega); have i1 : (v : Int) < 6 := (by omega); have hB2 : B < (World.heap w2.drew).size := CurX.lt (CoD.cursor HD.out.drew); have kc := lit_kept (xs := [-1, 1001, 1000]) rfl hB2 gv; have kl := lit_lt gv) | (go_at_call 83; have := kc; refine (l1PickInt_ex _ B _ k (CoD.cursor hd) [-1, 1001, 1000] 3 rfl (by decide) (by decide) hB2 kl kc).mono ?_; rintro e w6 ⟨y, rfl, cy, gy⟩; have hd := CoD.cur hd gy cy; obtain ⟨e0c, e0f⟩ := CoD.cell0 hd hvl) | (go_at_call 83; (fail_if_success (have := kc)); refine (l1PickInt_lit _ B k (CoD.cursor hd) _ _ [-1, 1001, 1000] 3 rfl rfl (by decide) (by decide)).mono ?_; rintro e w6 ⟨y, rfl, cy, gy⟩; have hd := CoD.cur hd gy cy; obtain ⟨e0c, e0f⟩ := CoD.cell0 hd hvl))
    all_goals have hd := CoD.put0 hd v y
    all_goals clear S0 cv gv cy gy e0c e0f
    all_goals
      have E := Lib.hid fun u0 u1 u2 => CoD.done hd u0 u1 u2
      obtain ⟨⟨x0, x1, x2⟩, hf, ⟨y0, y1, y2⟩, _⟩ := hd
      have f0 := hf 0
      have f1 := hf 1
      have f2 := hf 2
      clear hf
      go_wp2
      (try simp only [Exit.inBlock, Exit.then])
      refine bodyPost_ret (v := .agg #[.slice (some ⟨h0, 0, none⟩) 6 c0, .slice (some ⟨h1, 0, none⟩) 6 c1, .slice (some ⟨h2, 0, none⟩) 36 c2]) ?_ rfl ?_
      · rw [results_cell1 rfl]
        go_simp
      · exact (E.out _ _ _).any
  · have e0 : ((u : Int) == 0) = false := beq_eq_false_iff_ne.2 (by omega)
    by_cases u1 : u = 1
    · have e1 : ((u : Int) == 1) = true := by simp [u1]
      go_wp2_with fail
      have S0 := Lib.hid (CoD.held HD.out.drew)
      go_region_held3 (fun wq => wq.cell? ⟨g, 0, none⟩ = some (.slice (some ⟨h0, 0, none⟩) 6 c0) ∧ wq.cell? ⟨g, 1, none⟩ = some (.slice (some ⟨h1, 0, none⟩) 6 c1) ∧ wq.cell? ⟨g, 2, none⟩ = some (.slice (some ⟨h2, 0, none⟩) 36 c2)) (first | exact S0.out | exact CoD.held (CoD.put2 hd _ _) | exact CoD.held hd) ((go_at_call 58; (fail_if_success (have := hvv)); refine (l1Below_ex _ B k 36 (CoD.cursor HD.out.drew)).mono ?_; rintro e w5 ⟨v, rfl, hvv, cv, gv⟩; have hd := CoD.cur HD.out.drew gv cv; have hvl : v < 36 := (by omega); have i0 : (0 : Int) ≤ (v : Int) := (by omega); have i1 : (v : Int) < 36 := (by omega); obtain ⟨e0c, e0f⟩ := CoD.cell2 hd hvl))
      have hd := CoD.put2 hd v 5
      clear S0 cv gv e0c e0f
      have E := Lib.hid fun u0 u1 u2 => CoD.done hd u0 u1 u2
      obtain ⟨⟨x0, x1, x2⟩, hf, ⟨y0, y1, y2⟩, _⟩ := hd
      have f0 := hf 0
      have f1 := hf 1
      have f2 := hf 2
      clear hf
      go_wp2
      (try simp only [Exit.inBlock, Exit.then])
      refine bodyPost_ret (v := .agg #[.slice (some ⟨h0, 0, none⟩) 6 c0, .slice (some ⟨h1, 0, none⟩) 6 c1, .slice (some ⟨h2, 0, none⟩) 36 c2]) ?_ rfl ?_
      · rw [results_cell1 rfl]
        go_simp
      · exact (E.out _ _ _).any
    · have e1 : ((u : Int) == 1) = false := beq_eq_false_iff_ne.2 (by omega)
      have hd := HD.out
      clear HD
      by_cases u2 : u = 2
      · have e2 : ((u : Int) == 2) = true := by simp [u2]
        have E := Lib.hid fun u u0 u1 u2 => CoD.tail hd u u0 u1 u2
        have hcap := own_cap hd.2.2.2.2.2.1
        have k1 : (1 : Int) ≤ (c1 : Int) := by omega
        have k2 : ¬ c1 = 1 := by omega
        have k3 : (1 : Int) ≤ 6 := by omega
        obtain ⟨⟨x0, x1, x2⟩, hf, ⟨y0, y1, y2⟩, hfy, _, _, _, _, _, _, ⟨_, _, _, hsg, _, _⟩, _⟩ := hd
        have f0 := hf 0
        have f1 := hf 1
        have f2 := hf 2
        have fy := hfy 1
        clear hf hfy hcap
        go_wp2
        (try simp only [Exit.inBlock, Exit.then])
        refine bodyPost_ret (v := .agg #[.slice (some ⟨h0, 0, none⟩) 6 c0, .slice (some ⟨h1, 1, none⟩) 5 (c1 - 1), .slice (some ⟨h2, 0, none⟩) 36 c2]) ?_ rfl ?_
        · rw [results_cell1 rfl]
          go_simp
        · exact E.out _ _ _ _
      · have e2 : ((u : Int) == 2) = false := beq_eq_false_iff_ne.2 (by omega)
        have E := Lib.hid fun u0 u1 u2 => CoD.done hd u0 u1 u2
        obtain ⟨⟨x0, x1, x2⟩, hf, ⟨y0, y1, y2⟩, _⟩ := hd
        have f0 := hf 0
        have f1 := hf 1
        have f2 := hf 2
        clear hf
        go_wp2
        (try simp only [Exit.inBlock, Exit.then])
        refine bodyPost_ret (v := .agg #[.slice (some ⟨h0, 0, none⟩) 6 c0, .slice (some ⟨h1, 0, none⟩) 6 c1, .slice (some ⟨h2, 0, none⟩) 36 c2]) ?_ rfl ?_
        · rw [results_cell1 rfl]
          go_simp
        · exact (E.out _ _ _).any

end Go.Proofs.Ytnfjdlocmdgefaa

/- Contracts (DrawCo). -/
namespace Go.Proofs.Ytnfjdlocmdgefaa
open Go.RowKit
set_option linter.unusedVariables false

theorem CodeIn.onto {w w' : World} {B : Nat} {a : Option Addr} {cs : List Int} (h : CodeIn w B a cs) (hb : Below B w w') (hB : B ≤ w'.heap.size) : CodeIn w' w'.heap.size a cs := by
  intro j hj
  obtain ⟨b, off, h1, h2, h3, h4⟩ := h j hj
  exact ⟨b, off, h1, by omega, (hb.cell (p := ⟨b, off + j, none⟩) h2).trans h3, h4⟩
end Go.Proofs.Ytnfjdlocmdgefaa
