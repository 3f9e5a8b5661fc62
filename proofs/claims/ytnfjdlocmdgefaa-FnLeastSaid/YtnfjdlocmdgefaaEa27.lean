/- Texts of one claim laid into one file, in build order: LcI, Rop. -/
import Derived.Test.YtnfjdlocmdgefaaEa1
import Derived.Test.YtnfjdlocmdgefaaEa14
import Derived.Test.YtnfjdlocmdgefaaEa17
import Derived.Test.YtnfjdlocmdgefaaEa23
import Derived.Test.YtnfjdlocmdgefaaEa26
import Derived.Outline
import Derived.Test.YtnfjdlocmdgefaaRows
/- Contracts (LcI). -/
namespace Go.Proofs.Ytnfjdlocmdgefaa
open Go.RowKit
set_option linter.unusedVariables false


/-- between two rounds of LeastCost's loop: the older blocks stand, the variable 'least' holds the least so far -/
def LI (T : TypeId) (F : Nat → Int) (W0 : World) (n0 BL : Nat) (pre : List Tr) (M : Nat → Prop) (W : World) : Prop :=
  (∀ q, q < W0.heap.size → q ≠ BL → W.heap[q]? = W0.heap[q]?) ∧ Boxed W BL T (.int .i64 (F pre.length)) ∧ (∀ r, M r → W0.heap.size ≤ r) ∧ W0.heap.size ≤ W.heap.size
theorem LI.frees {T : TypeId} {F : Nat → Int} {W0 : World} {n0 BL : Nat} (hBL : BL < W0.heap.size) : Frees (LI T F W0 n0 BL) := by
  rintro pre M M' W W' row ⟨h1, h2, h3, h4⟩ hg hr hM
  have ne : ∀ q, q < W0.heap.size → some q ≠ row := fun q hq e => by have := h3 q (hr q e.symm); omega
  refine ⟨fun q hq hn => (hg.block q (by omega) (ne q hq)).trans (h1 q hq hn), h2.kept hg (ne BL hBL), fun r e => ?_, Nat.le_trans h4 hg.size⟩
  rcases hM r e with e | e
  · exact h3 r e
  · omega
section
variable {T : TypeId} {F : Nat → Int} {W0 W W' : World} {n0 BL : Nat} {pre : List Tr} {x : Tr} {M : Nat → Prop}
theorem LI.cell (h : LI T F W0 n0 BL pre M W) {p : Addr} (h1 : p.block < W0.heap.size) (h2 : p.block ≠ BL) : W.cell? p = W0.cell? p := World.cell?_of_block (h.1 _ h1 h2)
theorem LI.keep (h : LI T F W0 n0 BL pre M W) (hF : F (pre ++ [x]).length = F pre.length) (hB : BL < W0.heap.size) (hb : Below W.heap.size W W') (hin : InM n0 M W) (hn0 : n0 ≤ W0.heap.size) : Rnd (LI T F W0 n0 BL) n0 pre x M W W' := by
  obtain ⟨h1, h2, h3, h4⟩ := h
  exact ⟨⟨fun q hq hn => (hb.block q (by omega)).trans (h1 q hq hn), by rw [hF]; exact h2.kept (grown_of_below hb none) (by simp), h3, Nat.le_trans h4 hb.size⟩, fun r e => hb.block r (hin r e).2, hb.mono (by omega)⟩
theorem LI.set (h : LI T F W0 n0 BL pre M W) {v : Int} (hF : F (pre ++ [x]).length = v) (hB : BL < W0.heap.size) (hB0 : n0 ≤ BL) (hb : Below W.heap.size W W') (hin : InM n0 M W) (hn0 : n0 ≤ W0.heap.size) : Rnd (LI T F W0 n0 BL) n0 pre x M W (W'.setCell ⟨BL, 0, none⟩ (.int .i64 v)) := by
  obtain ⟨h1, h2, h3, h4⟩ := h
  have g := grownBy_setCell' W' BL (.int .i64 v)
  have s := hb.size
  have s2 := g.size
  refine ⟨⟨fun q hq hn => (g.block q (by omega) (by simpa using hn)).trans ((hb.block q (by omega)).trans (h1 q hq hn)), ?_, h3, by omega⟩, fun r e => ?_, (hb.mono (by omega)).setCell (p := ⟨BL, 0, none⟩) hB0 _⟩
  · rw [hF]; exact (h2.kept (grown_of_below hb none) (by simp)).set _
  · have := h3 r e
    have := (hin r e).2
    exact (g.block r (by omega) (by simp; omega)).trans (hb.block r (by omega))
end
attribute [local go_sem] Oper.semAt_some
set_option maxHeartbeats 800000 in
set_option maxRecDepth 100000 in
theorem implLeastCost_any (A A' K0 K1 K2 : Option Addr) (n n' n0 n1 n2 c c' c0 c1 c2 : Nat) (xs ys : Tr) (k : Co) (w : World) (ha : NdIn w w.heap.size A n xs) (hb : NdIn w w.heap.size A' n' ys) (hk : CoIn w w.heap.size K0 K1 K2 n0 n1 n2 k) (hn : n ≤ 1048576) (hn' : n' ≤ 1048576) (h0 : n0 ≤ 1048576) (h1 : n1 ≤ 1048576) (h2 : n2 ≤ 1048576) (hc : n ≤ c) (hc' : n' ≤ c') :
    Calls Try.prog 9 #[.slice A n c, .slice A' n' c', .agg #[.slice K0 n0 c0, .slice K1 n1 c1, .slice K2 n2 c2]] w fun e w' => e = .returned (.int .i64 (Am.least xs ys k)) ∧ Below w.heap.size w w' := by
  obtain ⟨wb, hwb⟩ : ∃ wb, wb = (((w.alloc (.cells #[.slice A n c] 24)).alloc (.cells #[.slice A' n' c'] 24)).alloc (.cells #[.slice K0 n0 c0, .slice K1 n1 c1, .slice K2 n2 c2] 27)).alloc (.cells #[.int .i64 (-1)] 3) := ⟨_, rfl⟩
  have sb : wb.heap.size = w.heap.size + 4 := by rw [hwb]; simp
  have bb : Below w.heap.size w wb := by rw [hwb]; exact ((((Below.refl _ w).alloc (Nat.le_refl _) _).alloc (by simp) _).alloc (by simp; omega) _).alloc (by simp; omega) _
  have hkb : CoIn wb wb.heap.size K0 K1 K2 n0 n1 n2 k := hk.to_below bb
  have CK := Lib.hid ((implCostOk_any K0 K1 K2 n0 n1 n2 c0 c1 c2 k wb hkb h0 h1 h2))
  obtain ⟨w1, hw1⟩ : ∃ w1, w1 = w.alloc (.cells #[.slice A n c] 24) := ⟨_, rfl⟩
  obtain ⟨w2, hw2⟩ : ∃ w2, w2 = w1.alloc (.cells #[.slice A' n' c'] 24) := ⟨_, rfl⟩
  obtain ⟨w3, hw3⟩ : ∃ w3, w3 = w2.alloc (.cells #[.slice K0 n0 c0, .slice K1 n1 c1, .slice K2 n2 c2] 27) := ⟨_, rfl⟩
  have hb3 : wb = w3.alloc (.cells #[.int .i64 (-1)] 3) := by rw [hw3, hw2, hw1]; exact hwb
  have s1 : w1.heap.size = w.heap.size + 1 := by rw [hw1]; simp
  have s2 : w2.heap.size = w.heap.size + 2 := by rw [hw2]; simp [s1]
  have s3 : w3.heap.size = w.heap.size + 3 := by rw [hw3]; simp [s2]
  have e0 : wb.cell? ⟨w.heap.size, 0, none⟩ = some (.slice A n c) := by
    rw [hb3, World.cell?_alloc_lt _ _ _ (by show w.heap.size < _; omega), hw3, World.cell?_alloc_lt _ _ _ (by show w.heap.size < _; omega), hw2, World.cell?_alloc_lt _ _ _ (by show w.heap.size < _; omega), hw1]; simp
  have e1 : wb.cell? ⟨w.heap.size + 1, 0, none⟩ = some (.slice A' n' c') := by
    rw [hb3, World.cell?_alloc_lt _ _ _ (by show w.heap.size + 1 < _; omega), hw3, World.cell?_alloc_lt _ _ _ (by show w.heap.size + 1 < _; omega), hw2, ← s1]; simp
  have e2 : wb.cell? ⟨w.heap.size + 1 + 1, 0, none⟩ = some (.slice K0 n0 c0) := by
    rw [hb3, World.cell?_alloc_lt _ _ _ (by show w.heap.size + 2 < _; omega), hw3, show w.heap.size + 1 + 1 = w2.heap.size by omega]; simp
  have e3 : wb.cell? ⟨w.heap.size + 1 + 1, 1, none⟩ = some (.slice K1 n1 c1) := by
    rw [hb3, World.cell?_alloc_lt _ _ _ (by show w.heap.size + 2 < _; omega), hw3, show w.heap.size + 1 + 1 = w2.heap.size by omega]; simp
  have e4 : wb.cell? ⟨w.heap.size + 1 + 1, 2, none⟩ = some (.slice K2 n2 c2) := by
    rw [hb3, World.cell?_alloc_lt _ _ _ (by show w.heap.size + 2 < _; omega), hw3, show w.heap.size + 1 + 1 = w2.heap.size by omega]; simp
  have e5 : Boxed wb (w.heap.size + 1 + 1 + 1) 3 (.int .i64 (-1)) := by rw [hb3, show w.heap.size + 1 + 1 + 1 = w3.heap.size by omega]; exact Boxed.new w3 3 (.int .i64 (-1))
  clear hb3 hw1 hw2 hw3 s1 s2 s3 w1 w2 w3
  have HW := Lib.hid hwb
  have HSB := Lib.hid sb
  have HBB := Lib.hid bb
  have HE := Lib.hid (And.intro e0 (And.intro e1 (And.intro e2 (And.intro e3 (And.intro e4 e5)))))
  cases hko : Co.ok k with
  | false =>
    have HN := Lib.hid (show Am.least xs ys k = -1 by unfold Am.least; rw [hko, Bool.and_false]; rfl)
    rw [hko] at CK
    clear ha hb hk hkb hko bb sb e0 e1 e2 e3 e4 e5 hwb
    go_enter Try.func9, Try.ntmps9
    go_wp2_with (go_at_call 32; rw [← HW.out]; refine CK.out.mono ?_; rintro e w2 ⟨rfl, hb2⟩; have e6 := (hb2.cell (p := ⟨w.heap.size + 1 + 1 + 1, 0, none⟩) (by rw [HSB.out]; exact Nat.lt_succ_self _)).trans HE.out.2.2.2.2.2.cell; have HB2 := Lib.hid hb2; clear hb2)
    go_ret
    exact ⟨by rw [HN.out]; rfl, HBB.out.trans (HB2.out.mono (by rw [HSB.out]; omega))⟩
  | true =>
    have HO := Lib.hid hko
    rw [hko] at CK
    have HA := Lib.hid ha
    have HB := Lib.hid hb
    have HK := Lib.hid hk
    clear ha hb hk hkb hko bb sb e0 e1 e2 e3 e4 e5 hwb
    refine (callsIn_wide (n := 1)).1 ?_
    refine callsIn_of_wp_marks Try.func9 rfl trivial ?_ rfl
    simp only [Try.ntmps9, List.size_toArray, List.length_cons, List.length_nil, Nat.reduceAdd, Nat.reduceSub, Array.replicate_succ, Array.replicate_zero, List.push_toArray, List.append_toArray, List.nil_append, List.cons_append]
    gi_wp2_with (first
      | (refine ⟨trivial, ?_⟩; gi_at_call 32; rw [← HW.out]; refine (callsIn_wide.2 CK.out).mono ?_; clear CK; rintro e w2 ⟨rfl, hb2⟩; have f0 := (hb2.cell (p := ⟨w.heap.size, 0, none⟩) (by rw [HSB.out]; exact Nat.lt_add_of_pos_right (by decide))).trans HE.out.1; have f1 := (hb2.cell (p := ⟨w.heap.size + 1, 0, none⟩) (by rw [HSB.out]; exact Nat.add_lt_add_left (by decide) _)).trans HE.out.2.1; have HB2 := Lib.hid hb2; clear hb2)
      | (refine ⟨trivial, ?_⟩; gi_at_call 31; refine (callsIn_wide.2 (rooted_any _)).mono ?_; rintro e w3 ⟨rfl, hw3⟩; have HW3 := Lib.hid hw3; clear hw3))
    have s2 := HB2.out.size
    have s3 : w3.heap.size = w2.heap.size + 2 := by rw [HW3.out]; simp
    have b3 : Below w.heap.size w w3 := by rw [HW3.out]; exact ((HBB.out.trans (HB2.out.mono (by rw [HSB.out]; omega))).alloc (by have := HBB.out.size; omega) _).alloc (by have := HBB.out.size; simp; omega) _
    have b4 : Below wb.heap.size wb w3 := by rw [HW3.out]; exact (HB2.out.alloc s2 _).alloc (by simp; omega) _
    have sb := HSB.out
    have g1 : w3.cell? ⟨w2.heap.size, 0, none⟩ = some (.slice A n c) := by
      rw [HW3.out, World.cell?_alloc_lt _ _ _ (by simp)]; simp
    have g2 : w3.cell? ⟨w2.heap.size + 1, 0, none⟩ = some (.slice A' n' c') := by
      rw [HW3.out, show w2.heap.size + 1 = (w2.alloc (.cells #[.slice A n c] 24)).heap.size by simp]; simp
    have bx : Boxed w3 (w.heap.size + 1 + 1 + 1) 3 (.int .i64 (-1)) := HE.out.2.2.2.2.2.kept (grown_of_below b4 none) (by simp)
    have hq : ∀ p : Addr, p.block < wb.heap.size → w3.cell? p = wb.cell? p := fun p hp => b4.cell hp
    have ca := (hq ⟨w.heap.size, 0, none⟩ (by show w.heap.size < _; omega)).trans HE.out.1
    have cb := (hq ⟨w.heap.size + 1, 0, none⟩ (by show w.heap.size + 1 < _; omega)).trans HE.out.2.1
    have c2a := (hq ⟨w.heap.size + 1 + 1, 0, none⟩ (by show w.heap.size + 1 + 1 < _; omega)).trans HE.out.2.2.1
    have c2b := (hq ⟨w.heap.size + 1 + 1, 1, none⟩ (by show w.heap.size + 1 + 1 < _; omega)).trans HE.out.2.2.2.1
    have c2c := (hq ⟨w.heap.size + 1 + 1, 2, none⟩ (by show w.heap.size + 1 + 1 < _; omega)).trans HE.out.2.2.2.2.1
    have GV := Lib.hid (rooted_gives (n0 := w.heap.size) w2.heap.size (w2.heap.size + 1) w3 (HA.out.below b3) (HB.out.below b3) hn hn' hc hc' b3.size g1 g2)
    have hD : w.heap.size + 4 ≤ w3.heap.size := by omega
    have HC := Lib.hid (And.intro ca (And.intro cb (And.intro c2a (And.intro c2b (And.intro c2c (And.intro bx (And.intro b3 hD)))))))
    clear ca cb c2a c2b c2c bx hq b4 b3 g1 g2 sb s2 s3 f0 f1 hD HW3 HB2 HE HBB HSB HW
    refine wp_range (T := 77) (n0 := w.heap.size) (gf := 62) (lb := #[.pointer (some ⟨w2.heap.size, 0, none⟩), .pointer (some ⟨w2.heap.size + 1, 0, none⟩)]) (by have := HC.out.2.2.2.2.2.2.2; omega) rfl (enters_of Try.func62 (by kernel_rfl) rfl) GV.out (Below.refl _ _)
      (LI 3 (Am.out xs ys k (Am.all xs ys)) w3 w.heap.size (w.heap.size + 1 + 1 + 1)) (LI.frees (by have := HC.out.2.2.2.2.2.2.2; omega)) ⟨fun _ _ _ => rfl, HC.out.2.2.2.2.2.1, fun _ e => e.elim, Nat.le_refl _⟩
      (fun v => { tmps := #[.slice A n c, .slice A' n' c', .agg #[.slice K0 n0 c0, .slice K1 n1 c1, .slice K2 n2 c2], .pointer (some ⟨w.heap.size, 0, none⟩), .pointer (some ⟨w.heap.size + 1, 0, none⟩), .pointer (some ⟨w.heap.size + 1 + 1, 0, none⟩), .int .i64 0,
        .pointer (some ⟨w.heap.size + 1 + 1 + 1, 0, none⟩), v, undef, .agg #[.slice K0 n0 c0, .slice K1 n1 c1, .slice K2 n2 c2], .bool true, .bool false, undef, .slice A n c, .slice A' n' c',
        .func (.func 62) #[] #[.pointer (some ⟨w2.heap.size, 0, none⟩), .pointer (some ⟨w2.heap.size + 1, 0, none⟩)], v, undef, undef, undef, undef, undef, undef, undef, undef, undef, undef, undef, undef, undef, undef], defers := [] }) ?assign ?body ?done
    case assign =>
      intro l v W K hK
      gi_wp2
      exact hK
    case body =>
      rintro l pre x v b M W hI0 hin hpre ⟨c9, rfl, hrow, hnM⟩
      have hI := LI.frees (T := 3) (F := Am.out xs ys k (Am.all xs ys)) (W0 := w3) (n0 := w.heap.size) (BL := w.heap.size + 1 + 1 + 1) (by have := HC.out.2.2.2.2.2.2.2; omega) _ _ M _ _ none hI0 (Kit.grown_refl _ _) (fun r e => by cases e) (fun r e => .inl (.inl e))
      clear hI0
      obtain ⟨ca, cb, c2a, c2b, c2c, bx, b3, hD⟩ := HC.out
      have BL3 : w.heap.size + 1 + 1 + 1 < w3.heap.size := by omega
      have sW := hI.2.2.2
      have hA : NdIn W W.heap.size A n xs := ((HA.out.below b3).keep fun p hp => hI.cell (by omega) (by omega)).more (by omega)
      have hB : NdIn W W.heap.size A' n' ys := ((HB.out.below b3).keep fun p hp => hI.cell (by omega) (by omega)).more (by omega)
      have hk3 := HK.out.below b3
      have hK : CoIn W W.heap.size K0 K1 K2 n0 n1 n2 k := CoIn.more ⟨hk3.1.keep fun p hp => hI.cell (by omega) (by omega), hk3.2.1.keep fun p hp => hI.cell (by omega) (by omega), hk3.2.2.keep fun p hp => hI.cell (by omega) (by omega)⟩ (by omega)
      have hx : x ∈ Am.all xs ys := hpre.subset (by simp)
      have hx24 := Am.all_small hx
      have MC := Lib.hid (implMapCost_any A A' (some ⟨b, 0, none⟩) K0 K1 K2 n n' x.length n0 n1 n2 c c' c9 c0 c1 c2 xs ys x k W hA hB hK (NdIn.of_own hrow) hn hn' (by omega) h0 h1 h2 hc hc' (own_cap hrow))
      have d0 := (hI.cell (p := ⟨w.heap.size, 0, none⟩) (by show w.heap.size < _; omega) (by show w.heap.size ≠ _; omega)).trans ca
      have d1 := (hI.cell (p := ⟨w.heap.size + 1, 0, none⟩) (by show w.heap.size + 1 < _; omega) (by show w.heap.size + 1 ≠ _; omega)).trans cb
      have d2 := (hI.cell (p := ⟨w.heap.size + 1 + 1, 0, none⟩) (by show w.heap.size + 1 + 1 < _; omega) (by show w.heap.size + 1 + 1 ≠ _; omega)).trans c2a
      have d3 := (hI.cell (p := ⟨w.heap.size + 1 + 1, 1, none⟩) (by show w.heap.size + 1 + 1 < _; omega) (by show w.heap.size + 1 + 1 ≠ _; omega)).trans c2b
      have d4 := (hI.cell (p := ⟨w.heap.size + 1 + 1, 2, none⟩) (by show w.heap.size + 1 + 1 < _; omega) (by show w.heap.size + 1 + 1 ≠ _; omega)).trans c2c
      have nx := Am.out_next HO.out hpre
      obtain ⟨m, hm⟩ : ∃ m, m = Am.out xs ys k (Am.all xs ys) pre.length := ⟨_, rfl⟩
      obtain ⟨q, hq⟩ : ∃ q, q = Mp.cost xs ys k x := ⟨_, rfl⟩
      rw [← hm, ← hq] at nx
      rw [← hq] at MC
      have bW := hI.2.1
      rw [← hm] at bW
      have HBW := Lib.hid bW
      have HI := Lib.hid hI
      have HIn := Lib.hid hin
      have HM := Lib.hid hm
      have HBL := Lib.hid BL3
      have hlW := bW.lt
      clear hI hin hpre hx hx24 hA hB hK hk3 hrow hnM ca cb c2a c2b c2c bx bW hm hq b3
      by_cases c1 : m < 0
      · have hc1 : decide (m < 0) = true := decide_eq_true c1
        have HN := Lib.hid (nx.trans (if_pos (.inl c1)))
        clear nx c1
        gi_wp2_with (refine ⟨trivial, rfl, ?_⟩; gi_at_call 13; refine (CallsIn.inRound l (callsIn_wide.2 MC.out)).mono ?_; rintro e w5 ⟨rfl, hb5⟩; have e5 := (hb5.cell (p := ⟨w.heap.size + 1 + 1 + 1, 0, none⟩) hlW).trans HBW.out.cell; have e6 := (hb5.frozen (p := ⟨w.heap.size + 1 + 1 + 1, 0, none⟩) hlW).trans HBW.out.frozen; have HB5 := Lib.hid hb5; clear hb5)
        exact LI.set HI.out (by rw [HN.out]) HBL.out (by omega) HB5.out HIn.out (by omega)
      · have hc1 : decide (m < 0) = false := decide_eq_false c1
        by_cases c2 : q < m
        · have hc2 : decide (q < m) = true := decide_eq_true c2
          have HN := Lib.hid (nx.trans (if_pos (.inr c2)))
          clear nx c1 c2
          gi_wp2_with (refine ⟨trivial, rfl, ?_⟩; gi_at_call 13; refine (CallsIn.inRound l (callsIn_wide.2 MC.out)).mono ?_; rintro e w5 ⟨rfl, hb5⟩; have e5 := (hb5.cell (p := ⟨w.heap.size + 1 + 1 + 1, 0, none⟩) hlW).trans HBW.out.cell; have e6 := (hb5.frozen (p := ⟨w.heap.size + 1 + 1 + 1, 0, none⟩) hlW).trans HBW.out.frozen; have HB5 := Lib.hid hb5; clear hb5)
          exact LI.set HI.out (by rw [HN.out]) HBL.out (by omega) HB5.out HIn.out (by omega)
        · have hc2 : decide (q < m) = false := decide_eq_false c2
          have HN := Lib.hid (nx.trans (if_neg (by omega)))
          clear nx c1 c2
          gi_wp2_with (refine ⟨trivial, rfl, ?_⟩; gi_at_call 13; refine (CallsIn.inRound l (callsIn_wide.2 MC.out)).mono ?_; rintro e w5 ⟨rfl, hb5⟩; have e5 := (hb5.cell (p := ⟨w.heap.size + 1 + 1 + 1, 0, none⟩) hlW).trans HBW.out.cell; have e6 := (hb5.frozen (p := ⟨w.heap.size + 1 + 1 + 1, 0, none⟩) hlW).trans HBW.out.frozen; have HB5 := Lib.hid hb5; clear hb5)
          exact LI.keep HI.out (by rw [HN.out]; exact HM.out) HBL.out HB5.out HIn.out (by omega)
    case done =>
      rintro D W hD ⟨i1, i2, i3, i4⟩ hB hK
      have hc := i2.cell
      have HO2 := Lib.hid (Am.out_all (xs := xs) (ys := ys) (k := k))
      have HBe := Lib.hid (HC.out.2.2.2.2.2.2.1.trans hB)
      have hDw : w.heap.size ≤ D := by have := HC.out.2.2.2.2.2.2.2; omega
      have hlt : D < W.heap.size := (Array.getElem?_eq_some_iff.1 hK).1
      gi_wp2
      refine ⟨by simp, .inl ⟨_, _, rfl, run_takeDeferred hK, ?_⟩⟩
      exact ⟨_, results_tmp rfl _ _ _, by rw [HO2.out]; rfl, HBe.out.trans (below_putObj W _ hDw hlt)⟩

end Go.Proofs.Ytnfjdlocmdgefaa

/- Contracts (Rop). -/
namespace Go.Proofs.Ytnfjdlocmdgefaa
open Go.RowKit
set_option linter.unusedVariables false

set_option maxHeartbeats 800000 in
set_option maxRecDepth 100000 in
theorem specRootsPaired_any (A : Option Addr) (n c : Nat) (xs : Tr) (w : World) (h : NdIn w w.heap.size A n xs) (hn : n ≤ 1048576) :
    Calls Try.prog 15 #[.slice A n c] w fun e w' => e = .returned (.bool (Tr.rooted xs)) ∧ Drawn w w' := by
  have H := Lib.hid h
  have HL := Lib.hid h.1
  clear h
  by_cases hlt : 0 < n
  · obtain ⟨ad, rfl, hb, hl, hd⟩ := H.out.at_ hlt
    rw [Nat.zero_mul, Addr.add_zero'] at hl
    rw [Nat.zero_mul, Addr.add_zero'] at hd
    have hg : decide (0 < n) = true := decide_eq_true hlt
    by_cases h1 : Tr.l xs 0 = 0
    · by_cases h2 : Tr.d xs 0 = 0
      · have hf := Lib.hid (show Tr.rooted xs = true by unfold Tr.rooted; rw [HL.out]; simp [hlt, h1, h2])
        have q1 : (Tr.l xs 0 == 0) = true := by simpa using h1
        have q2 : (Tr.d xs 0 == 0) = true := by simpa using h2
        clear h1 h2
        go_enter Try.func15, Try.ntmps15
        go_wp2
        go_ret
        exact ⟨Kit.ret_bool hf.out.symm, Drawn.refl _⟩
      · have hf := Lib.hid (show Tr.rooted xs = false by unfold Tr.rooted; rw [HL.out]; simp [hlt, h1, h2])
        have q1 : (Tr.l xs 0 == 0) = true := by simpa using h1
        have q2 : (Tr.d xs 0 == 0) = false := by simpa using h2
        clear h1 h2
        go_enter Try.func15, Try.ntmps15
        go_wp2
        go_ret
        exact ⟨Kit.ret_bool hf.out.symm, Drawn.refl _⟩
    · have hf := Lib.hid (show Tr.rooted xs = false by unfold Tr.rooted; rw [HL.out]; simp [hlt, h1])
      have q1 : (Tr.l xs 0 == 0) = false := by simpa using h1
      clear h1
      go_enter Try.func15, Try.ntmps15
      go_wp2
      go_ret
      exact ⟨Kit.ret_bool hf.out.symm, Drawn.refl _⟩
  · obtain rfl : n = 0 := by omega
    have hf := Lib.hid (show Tr.rooted xs = false by unfold Tr.rooted; rw [HL.out]; rfl)
    go_enter Try.func15, Try.ntmps15
    go_wp2
    go_ret
    exact ⟨Kit.ret_bool hf.out.symm, Drawn.refl _⟩
end Go.Proofs.Ytnfjdlocmdgefaa
