/- Texts of one claim laid into one file, in build order: Match9. -/
import Derived.Test.YtlndaflhlkbedaaMg9
import Derived.Deep.RegionHeld3
import Derived.Outline
/- Contracts (Match9). -/
namespace Go.Proofs.Ytlndaflhlkbedaa
open Go.RowKit
set_option linter.unusedVariables false

/-- l9Dist of ranges that hold fewer than s places together -/
def Says9 (B N : Nat) (D : D9) (xs ys : Tr) (k : Co) (s : Nat) : Prop :=
  ∀ (i j p q : Nat) (w : World), i ≤ j → j ≤ xs.length → p ≤ q → q ≤ ys.length → (j - i) + (q - p) < s → (∃ K, M9 B N D xs ys k K w) →
    Calls Try.prog 90 #[.pointer (some ⟨D.g, 0, none⟩), .int .i64 i, .int .i64 j, .int .i64 p, .int .i64 q] w fun e w' => e = .returned (.int .i64 (RR xs ys k i j p q)) ∧ K9 B N D xs ys k w w'
section
variable {B N : Nat} {D : D9} {xs ys : Tr} {k : Co} {w0 w w' : World}
theorem K9.next (h : K9 B N D xs ys k w0 w) (h' : K9 B N D xs ys k w w') : K9 B N D xs ys k w0 w' := ⟨h'.1, h.2.trans h'.2⟩
theorem K9.drawn (h : K9 B N D xs ys k w0 w) (hd : Drawn w w') : K9 B N D xs ys k w0 w' := by
  obtain ⟨⟨K, hK⟩, hb⟩ := h
  exact ⟨⟨K, hK.drawn hd⟩, hb.drawn hd⟩
theorem m9_cells (h : K9 B N D xs ys k w0 w) {j1 q1 ua ub t6 : Nat} {rv : Int} (hj : j1 < xs.length) (hq : q1 < ys.length) (ht : t6 < 36) (ea : Tr.xa xs j1 = (ua : Int)) (eb : Tr.xa ys q1 = (ub : Int)) (er : rv = Zs.at k.r t6) : w.cell? ⟨D.g, 0, none⟩ = some (.slice (some D.ax) xs.length D.cx) ∧ w.cell? ⟨D.g, 1, none⟩ = some (.slice (some D.ay) ys.length D.cy) ∧ w.cell? ⟨D.g, 7, none⟩ = some (.slice (some D.k2) 36 D.e2) ∧ w.cell? (D.ax.add j1) = some (.int .i64 (ua : Int)) ∧ w.cell? (D.ay.add q1) = some (.int .i64 (ub : Int)) ∧ w.cell? (D.k2.add t6) = some (.int .i64 rv) ∧ K9 B N D xs ys k w0 w := by
  obtain ⟨⟨K, hK⟩, hb⟩ := h
  refine ⟨hK.h0, hK.h1, hK.h7, ?_, ?_, ?_, ⟨⟨K, hK⟩, hb⟩⟩
  · rw [hK.rx.at_ j1 hj, ← ea]; rfl
  · rw [hK.ry.at_ q1 hq, ← eb]; rfl
  · rw [hK.r2.at_ t6 ht, er]
theorem m9_k {j1 q1 ua ub t6 : Nat} {rv : Int} (h : w.cell? ⟨D.g, 0, none⟩ = some (.slice (some D.ax) xs.length D.cx) ∧ w.cell? ⟨D.g, 1, none⟩ = some (.slice (some D.ay) ys.length D.cy) ∧ w.cell? ⟨D.g, 7, none⟩ = some (.slice (some D.k2) 36 D.e2) ∧ w.cell? (D.ax.add j1) = some (.int .i64 (ua : Int)) ∧ w.cell? (D.ay.add q1) = some (.int .i64 (ub : Int)) ∧ w.cell? (D.k2.add t6) = some (.int .i64 rv) ∧ K9 B N D xs ys k w0 w) : K9 B N D xs ys k w0 w := h.2.2.2.2.2.2
end
set_option maxHeartbeats 3200000 in
set_option maxRecDepth 100000 in
theorem l9Match_any (B N : Nat) (D : D9) (xs ys : Tr) (k : Co) (s : Nat) (hx : Tr.ok xs = true) (hy : Tr.ok ys = true) (hk : Co.ok k = true) (hs : Says9 B N D xs ys k s) (i j p q : Nat) (w : World) (hij : i < j) (hj : j ≤ xs.length) (hpq : p < q) (hq : q ≤ ys.length) (hsum : (j - i) + (q - p) ≤ s) (hm : ∃ K, M9 B N D xs ys k K w) :
    Calls Try.prog 106 #[.pointer (some ⟨D.g, 0, none⟩), .int .i64 i, .int .i64 j, .int .i64 p, .int .i64 q] w fun e w' => e = .returned (.int .i64 (RR xs ys k i (max i (Tr.la xs (j - 1))) p (max p (Tr.la ys (q - 1))) + RR xs ys k (max i (Tr.la xs (j - 1))) (j - 1) (max p (Tr.la ys (q - 1))) (q - 1) + Co.rel k (Tr.xa xs (j - 1)) (Tr.xa ys (q - 1)))) ∧ K9 B N D xs ys k w w' := by
  obtain ⟨x1, x24⟩ := Tr.len24 hx
  obtain ⟨y1, y24⟩ := Tr.len24 hy
  obtain ⟨j1, hj1⟩ : ∃ z, z = j - 1 := ⟨_, rfl⟩
  obtain ⟨q1, hq1⟩ : ∃ z, z = q - 1 := ⟨_, rfl⟩
  rw [← hj1, ← hq1]
  obtain ⟨ua, hua, ea⟩ := Tr.xa_lab hx (p := j1) (by omega)
  obtain ⟨ub, hub, eb⟩ := Tr.xa_lab hy (p := q1) (by omega)
  have la1 := (Tr.la_nest hx j1 (by omega)).1
  have lb1 := (Tr.la_nest hy q1 (by omega)).1
  obtain ⟨l, hl⟩ : ∃ l, l = Tr.la xs j1 := ⟨_, rfl⟩
  obtain ⟨m, hmm⟩ : ∃ l, l = Tr.la ys q1 := ⟨_, rfl⟩
  rw [← hl, ← hmm]
  rw [← hl] at la1
  rw [← hmm] at lb1
  obtain ⟨a, ha⟩ : ∃ a, a = max i l := ⟨_, rfl⟩
  obtain ⟨b, hb⟩ : ∃ a, a = max p m := ⟨_, rfl⟩
  rw [← ha, ← hb]
  have ha1 : a ≤ j1 := by omega
  have hb1 : b ≤ q1 := by omega
  have ha0 : i ≤ a := by omega
  have hb0 : p ≤ b := by omega
  obtain ⟨a6, ha6⟩ : ∃ z, z = ua * 6 := ⟨_, rfl⟩
  obtain ⟨t6, ht6⟩ : ∃ z, z = a6 + ub := ⟨_, rfl⟩
  obtain ⟨rv, hrv⟩ : ∃ z, z = Zs.at k.r t6 := ⟨_, rfl⟩
  have ht36 : t6 < 36 := by omega
  have Erv : Co.rel k (Tr.xa xs j1) (Tr.xa ys q1) = rv := by rw [ea, eb, Co.rel_at hk hua hub, ← ha6, ← ht6, hrv]
  rw [Erv]
  have n3 := (Co.nonneg' k).2.2 (Tr.xa xs j1) (Tr.xa ys q1)
  rw [Erv] at n3
  obtain ⟨z1, hz1⟩ : ∃ z, z = RR xs ys k i a p b := ⟨_, rfl⟩
  obtain ⟨z2, hz2⟩ : ∃ z, z = RR xs ys k a j1 b q1 := ⟨_, rfl⟩
  have b1 := RR_bound (k := k) hx hy (p := i) (a := a) (q := p) (b := b) ha0 (by omega) hb0 (by omega)
  have b2 := RR_bound (k := k) hx hy (p := a) (a := j1) (q := b) (b := q1) ha1 (by omega) hb1 (by omega)
  rw [← hz1] at b1 ⊢
  rw [← hz2] at b2 ⊢
  have C1 := Lib.hid (show ∀ w, (∃ K, M9 B N D xs ys k K w) → Calls Try.prog 90 #[.pointer (some ⟨D.g, 0, none⟩), .int .i64 i, .int .i64 a, .int .i64 p, .int .i64 b] w fun e w' => e = .returned (.int .i64 z1) ∧ K9 B N D xs ys k w w' from fun w h => by rw [hz1]; exact hs i a p b w ha0 (by omega) hb0 (by omega) (by omega) h)
  have C2 := Lib.hid (show ∀ w, (∃ K, M9 B N D xs ys k K w) → Calls Try.prog 90 #[.pointer (some ⟨D.g, 0, none⟩), .int .i64 a, .int .i64 j1, .int .i64 b, .int .i64 q1] w fun e w' => e = .returned (.int .i64 z2) ∧ K9 B N D xs ys k w w' from fun w h => by rw [hz2]; exact hs a j1 b q1 w ha1 (by omega) hb1 (by omega) (by omega) h)
  obtain ⟨K, hK⟩ := hm
  have HK := Lib.hid hK
  have hl2 := (hK.ra.at_ j1 (by omega)).trans (by rw [Tr.la_up hx (by omega), ← hl])
  have hm2 := (hK.rb.at_ q1 (by omega)).trans (by rw [Tr.la_up hy (by omega), ← hmm])
  have h2 := hK.h2
  have h3 := hK.h3
  have HC := Lib.hid (fun (wq : World) (h : K9 B N D xs ys k w wq) => m9_cells h (j1 := j1) (q1 := q1) (ua := ua) (ub := ub) (t6 := t6) (rv := rv) (by omega) (by omega) ht36 ea eb hrv)
  have e1 : (j : Int) - 1 = (j1 : Int) := by omega
  have e2 : (q : Int) - 1 = (q1 : Int) := by omega
  have a1 : IntKind.i64.wrap ((j : Int) - 1) = (j1 : Int) := by rw [Kit.w64 (by omega) (by omega)]; exact e1
  have a2 : IntKind.i64.wrap ((q : Int) - 1) = (q1 : Int) := by rw [Kit.w64 (by omega) (by omega)]; exact e2
  have a3 : IntKind.i64.wrap (j1 : Int) = (j1 : Int) := Kit.w64 (by omega) (by omega)
  have a4 : IntKind.i64.wrap (q1 : Int) = (q1 : Int) := Kit.w64 (by omega) (by omega)
  have a5 : (ua : Int) * 6 = (a6 : Int) := by omega
  have a7 : (a6 : Int) + (ub : Int) = (t6 : Int) := by omega
  have a8 : IntKind.i64.wrap (a6 : Int) = (a6 : Int) := Kit.w64 (by omega) (by omega)
  have a9 : IntKind.i64.wrap (t6 : Int) = (t6 : Int) := Kit.w64 (by omega) (by omega)
  have c1 : IntKind.i64.wrap (z1 + z2) = z1 + z2 := Kit.w64 (by omega) (by omega)
  have c2 : IntKind.i64.wrap (z1 + z2 + rv) = z1 + z2 + rv := Kit.w64 (by omega) (by omega)
  have k1 : (0 : Int) ≤ (j1 : Int) := by omega
  have k2 : (j1 : Int) < (xs.length : Int) := by omega
  have k3 : (0 : Int) ≤ (q1 : Int) := by omega
  have k4 : (q1 : Int) < (ys.length : Int) := by omega
  have k5 : (0 : Int) ≤ (t6 : Int) := by omega
  have k6 : (t6 : Int) < 36 := by omega
  have m1 : max (i : Int) (l : Int) = (a : Int) := by omega
  have m2 : max (p : Int) (m : Int) = (b : Int) := by omega
  have BX := Lib.hid (And.intro x24 y24)
  clear hk hs hsum hK ea eb hj1 hq1 hl hmm ha hb ha6 ht6 hrv Erv hz1 hz2 x1 y1 x24 y24 la1 lb1 ha1 hb1 ha0 hb0 hua hub n3 b1 b2 ht36 hij hpq hj hq
  rcases (show (i < l ∧ l = a) ∨ (¬ i < l ∧ i = a) by omega) with ⟨f1, fa⟩ | ⟨f1, fa⟩
  · subst fa
    rcases (show (p < m ∧ m = b) ∨ (¬ p < m ∧ p = b) by omega) with ⟨f2, fb⟩ | ⟨f2, fb⟩
    · subst fb
      as_aux_lemma =>
        clear m1 m2
        go_enter Try.func106, Try.ntmps106
        go_wp2_with fail
        have S0 := Lib.hid (HC.out w.drew ⟨⟨K, HK.out.drawn (Drawn.refl _).drew⟩, GB.of_drawn (Drawn.refl _).drew⟩)
        clear hl2 hm2 h2 h3
        go_region_held3 (fun wq => wq.cell? ⟨D.g, 0, none⟩ = some (.slice (some D.ax) xs.length D.cx) ∧ wq.cell? ⟨D.g, 1, none⟩ = some (.slice (some D.ay) ys.length D.cy) ∧ wq.cell? ⟨D.g, 7, none⟩ = some (.slice (some D.k2) 36 D.e2) ∧ wq.cell? (D.ax.add j1) = some (.int .i64 (ua : Int)) ∧ wq.cell? (D.ay.add q1) = some (.int .i64 (ub : Int)) ∧ wq.cell? (D.k2.add t6) = some (.int .i64 rv) ∧ K9 B N D xs ys k w wq) (first | (with_reducible exact SC) | (with_reducible exact S0.out)) (first | (go_at_call 90; (fail_if_success (have := t1)); refine (C1.out _ (m9_k (by assumption)).1).mono ?_; rintro e w5 ⟨rfl, hk5⟩; have t1 := True.intro; have SC := HC.out w5 (K9.next (m9_k (by assumption)) hk5)) | (go_at_call 90; refine (C2.out _ (m9_k (by assumption)).1).mono ?_; rintro e w6 ⟨rfl, hk6⟩; have SC := HC.out w6 (K9.next (m9_k (by assumption)) hk6)))
        go_wp2
        go_ret
        exact ⟨rfl, m9_k SC⟩
    · subst fb
      as_aux_lemma =>
        clear m1 m2
        go_enter Try.func106, Try.ntmps106
        go_wp2_with fail
        have S0 := Lib.hid (HC.out w.drew ⟨⟨K, HK.out.drawn (Drawn.refl _).drew⟩, GB.of_drawn (Drawn.refl _).drew⟩)
        clear hl2 hm2 h2 h3
        go_region_held3 (fun wq => wq.cell? ⟨D.g, 0, none⟩ = some (.slice (some D.ax) xs.length D.cx) ∧ wq.cell? ⟨D.g, 1, none⟩ = some (.slice (some D.ay) ys.length D.cy) ∧ wq.cell? ⟨D.g, 7, none⟩ = some (.slice (some D.k2) 36 D.e2) ∧ wq.cell? (D.ax.add j1) = some (.int .i64 (ua : Int)) ∧ wq.cell? (D.ay.add q1) = some (.int .i64 (ub : Int)) ∧ wq.cell? (D.k2.add t6) = some (.int .i64 rv) ∧ K9 B N D xs ys k w wq) (first | (with_reducible exact SC) | (with_reducible exact S0.out)) (first | (go_at_call 90; (fail_if_success (have := t1)); refine (C1.out _ (m9_k (by assumption)).1).mono ?_; rintro e w5 ⟨rfl, hk5⟩; have t1 := True.intro; have SC := HC.out w5 (K9.next (m9_k (by assumption)) hk5)) | (go_at_call 90; refine (C2.out _ (m9_k (by assumption)).1).mono ?_; rintro e w6 ⟨rfl, hk6⟩; have SC := HC.out w6 (K9.next (m9_k (by assumption)) hk6)))
        go_wp2
        go_ret
        exact ⟨rfl, m9_k SC⟩
  · subst fa
    rcases (show (p < m ∧ m = b) ∨ (¬ p < m ∧ p = b) by omega) with ⟨f2, fb⟩ | ⟨f2, fb⟩
    · subst fb
      as_aux_lemma =>
        clear m1 m2
        go_enter Try.func106, Try.ntmps106
        go_wp2_with fail
        have S0 := Lib.hid (HC.out w.drew ⟨⟨K, HK.out.drawn (Drawn.refl _).drew⟩, GB.of_drawn (Drawn.refl _).drew⟩)
        clear hl2 hm2 h2 h3
        go_region_held3 (fun wq => wq.cell? ⟨D.g, 0, none⟩ = some (.slice (some D.ax) xs.length D.cx) ∧ wq.cell? ⟨D.g, 1, none⟩ = some (.slice (some D.ay) ys.length D.cy) ∧ wq.cell? ⟨D.g, 7, none⟩ = some (.slice (some D.k2) 36 D.e2) ∧ wq.cell? (D.ax.add j1) = some (.int .i64 (ua : Int)) ∧ wq.cell? (D.ay.add q1) = some (.int .i64 (ub : Int)) ∧ wq.cell? (D.k2.add t6) = some (.int .i64 rv) ∧ K9 B N D xs ys k w wq) (first | (with_reducible exact SC) | (with_reducible exact S0.out)) (first | (go_at_call 90; (fail_if_success (have := t1)); refine (C1.out _ (m9_k (by assumption)).1).mono ?_; rintro e w5 ⟨rfl, hk5⟩; have t1 := True.intro; have SC := HC.out w5 (K9.next (m9_k (by assumption)) hk5)) | (go_at_call 90; refine (C2.out _ (m9_k (by assumption)).1).mono ?_; rintro e w6 ⟨rfl, hk6⟩; have SC := HC.out w6 (K9.next (m9_k (by assumption)) hk6)))
        go_wp2
        go_ret
        exact ⟨rfl, m9_k SC⟩
    · subst fb
      as_aux_lemma =>
        clear m1 m2
        go_enter Try.func106, Try.ntmps106
        go_wp2_with fail
        have S0 := Lib.hid (HC.out w.drew ⟨⟨K, HK.out.drawn (Drawn.refl _).drew⟩, GB.of_drawn (Drawn.refl _).drew⟩)
        clear hl2 hm2 h2 h3
        go_region_held3 (fun wq => wq.cell? ⟨D.g, 0, none⟩ = some (.slice (some D.ax) xs.length D.cx) ∧ wq.cell? ⟨D.g, 1, none⟩ = some (.slice (some D.ay) ys.length D.cy) ∧ wq.cell? ⟨D.g, 7, none⟩ = some (.slice (some D.k2) 36 D.e2) ∧ wq.cell? (D.ax.add j1) = some (.int .i64 (ua : Int)) ∧ wq.cell? (D.ay.add q1) = some (.int .i64 (ub : Int)) ∧ wq.cell? (D.k2.add t6) = some (.int .i64 rv) ∧ K9 B N D xs ys k w wq) (first | (with_reducible exact SC) | (with_reducible exact S0.out)) (first | (go_at_call 90; (fail_if_success (have := t1)); refine (C1.out _ (m9_k (by assumption)).1).mono ?_; rintro e w5 ⟨rfl, hk5⟩; have t1 := True.intro; have SC := HC.out w5 (K9.next (m9_k (by assumption)) hk5)) | (go_at_call 90; refine (C2.out _ (m9_k (by assumption)).1).mono ?_; rintro e w6 ⟨rfl, hk6⟩; have SC := HC.out w6 (K9.next (m9_k (by assumption)) hk6)))
        go_wp2
        go_ret
        exact ⟨rfl, m9_k SC⟩

end Go.Proofs.Ytlndaflhlkbedaa
