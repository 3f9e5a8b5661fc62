/- Texts of one claim laid into one file, in build order: Dist9. -/
import Derived.Test.YtlndaflhlkbedaaMg10
import Derived.Outline
/- Contracts (Dist9). -/
namespace Go.Proofs.Ytlndaflhlkbedaa
open Go.RowKit
set_option linter.unusedVariables false

section
variable {B N : Nat} {D : D9} {xs ys : Tr} {k : Co} {w0 w : World}
theorem d9_x (h : K9 B N D xs ys k w0 w) {j1 ua : Nat} {dv : Int} (hj : j1 < xs.length) (hu : ua < 6) (ea : Tr.xa xs j1 = (ua : Int)) (ed : dv = Zs.at k.d ua) : w.cell? ⟨D.g, 0, none⟩ = some (.slice (some D.ax) xs.length D.cx) ∧ w.cell? ⟨D.g, 5, none⟩ = some (.slice (some D.k0) 6 D.e0) ∧ w.cell? (D.ax.add j1) = some (.int .i64 (ua : Int)) ∧ w.cell? (D.k0.add ua) = some (.int .i64 dv) ∧ K9 B N D xs ys k w0 w := by
  obtain ⟨⟨K, hK⟩, hb⟩ := h
  refine ⟨hK.h0, hK.h5, ?_, ?_, ⟨⟨K, hK⟩, hb⟩⟩
  · rw [hK.rx.at_ j1 hj, ← ea]; rfl
  · rw [hK.r0.at_ ua hu, ed]
theorem d9_y (h : K9 B N D xs ys k w0 w) {q1 ub : Nat} {iv : Int} (hj : q1 < ys.length) (hu : ub < 6) (ea : Tr.xa ys q1 = (ub : Int)) (ed : iv = Zs.at k.i ub) : w.cell? ⟨D.g, 1, none⟩ = some (.slice (some D.ay) ys.length D.cy) ∧ w.cell? ⟨D.g, 6, none⟩ = some (.slice (some D.k1) 6 D.e1) ∧ w.cell? (D.ay.add q1) = some (.int .i64 (ub : Int)) ∧ w.cell? (D.k1.add ub) = some (.int .i64 iv) ∧ K9 B N D xs ys k w0 w := by
  obtain ⟨⟨K, hK⟩, hb⟩ := h
  refine ⟨hK.h1, hK.h6, ?_, ?_, ⟨⟨K, hK⟩, hb⟩⟩
  · rw [hK.ry.at_ q1 hj, ← ea]; rfl
  · rw [hK.r1.at_ ub hu, ed]
theorem d9_kx {j1 ua : Nat} {dv : Int} (h : w.cell? ⟨D.g, 0, none⟩ = some (.slice (some D.ax) xs.length D.cx) ∧ w.cell? ⟨D.g, 5, none⟩ = some (.slice (some D.k0) 6 D.e0) ∧ w.cell? (D.ax.add j1) = some (.int .i64 (ua : Int)) ∧ w.cell? (D.k0.add ua) = some (.int .i64 dv) ∧ K9 B N D xs ys k w0 w) : K9 B N D xs ys k w0 w := h.2.2.2.2
theorem d9_ky {q1 ub : Nat} {iv : Int} (h : w.cell? ⟨D.g, 1, none⟩ = some (.slice (some D.ay) ys.length D.cy) ∧ w.cell? ⟨D.g, 6, none⟩ = some (.slice (some D.k1) 6 D.e1) ∧ w.cell? (D.ay.add q1) = some (.int .i64 (ub : Int)) ∧ w.cell? (D.k1.add ub) = some (.int .i64 iv) ∧ K9 B N D xs ys k w0 w) : K9 B N D xs ys k w0 w := h.2.2.2.2
end
/-- numbers of one place in the memo -/
theorem ix9_nums {n m i j p q : Nat} (hn : n ≤ 24) (hm : m ≤ 24) (hi : i ≤ n) (hj : j ≤ n) (hp : p ≤ m) (hq : q ≤ m) : ∃ u0 u1 u2 u3 u4 u5 : Nat, u5 = ix9 n m i j p q ∧ u5 ≤ 390625 ∧
    IntKind.i64.wrap ((i : Int) * ((n : Int) + 1)) = (u0 : Int) ∧ (u0 : Int) + (j : Int) = (u1 : Int) ∧ IntKind.i64.wrap (u1 : Int) = (u1 : Int) ∧ IntKind.i64.wrap ((u1 : Int) * ((m : Int) + 1)) = (u2 : Int) ∧ (u2 : Int) + (p : Int) = (u3 : Int) ∧ IntKind.i64.wrap (u3 : Int) = (u3 : Int) ∧ IntKind.i64.wrap ((u3 : Int) * ((m : Int) + 1)) = (u4 : Int) ∧ (u4 : Int) + (q : Int) = (u5 : Int) ∧ IntKind.i64.wrap (u5 : Int) = (u5 : Int) := by
  obtain ⟨u0, h0⟩ : ∃ u, u = i * (n + 1) := ⟨_, rfl⟩
  obtain ⟨u1, h1⟩ : ∃ u, u = u0 + j := ⟨_, rfl⟩
  obtain ⟨u2, h2⟩ : ∃ u, u = u1 * (m + 1) := ⟨_, rfl⟩
  obtain ⟨u3, h3⟩ : ∃ u, u = u2 + p := ⟨_, rfl⟩
  obtain ⟨u4, h4⟩ : ∃ u, u = u3 * (m + 1) := ⟨_, rfl⟩
  have b0 : u0 ≤ 24 * 25 := by rw [h0]; exact Nat.mul_le_mul (by omega) (by omega)
  have b2 : u2 ≤ 624 * 25 := by rw [h2]; exact Nat.mul_le_mul (by omega) (by omega)
  have b4 : u4 ≤ 15624 * 25 := by rw [h4]; exact Nat.mul_le_mul (by omega) (by omega)
  have e0 : (i : Int) * ((n : Int) + 1) = (u0 : Int) := by rw [h0]; push_cast; rfl
  have e2 : (u1 : Int) * ((m : Int) + 1) = (u2 : Int) := by rw [h2]; push_cast; rfl
  have e4 : (u3 : Int) * ((m : Int) + 1) = (u4 : Int) := by rw [h4]; push_cast; rfl
  refine ⟨u0, u1, u2, u3, u4, u4 + q, by unfold ix9; rw [h4, h3, h2, h1, h0], by omega, ?_, by omega, Kit.w64 (by omega) (by omega), ?_, by omega, Kit.w64 (by omega) (by omega), ?_, by omega, Kit.w64 (by omega) (by omega)⟩
  · rw [e0]; exact Kit.w64 (by omega) (by omega)
  · rw [e2]; exact Kit.w64 (by omega) (by omega)
  · rw [e4]; exact Kit.w64 (by omega) (by omega)
set_option maxHeartbeats 6400000 in
set_option maxRecDepth 100000 in
theorem l9Dist_step (B N : Nat) (D : D9) (xs ys : Tr) (k : Co) (s : Nat) (hx : Tr.ok xs = true) (hy : Tr.ok ys = true) (hk : Co.ok k = true) (hs : Says9 B N D xs ys k s) : Says9 B N D xs ys k (s + 1) := by
  intro i j p q w hij hj hpq hq hsum hm
  obtain ⟨x1, x24⟩ := Tr.len24 hx
  obtain ⟨y1, y24⟩ := Tr.len24 hy
  obtain ⟨K, hK⟩ := hm
  obtain ⟨R, hR⟩ : ∃ R, R = RR xs ys k i j p q := ⟨_, rfl⟩
  have bR := RR_bound (k := k) hx hy (p := i) (a := j) (q := p) (b := q) hij hj hpq hq
  rw [← hR] at bR ⊢
  have HR := Lib.hid hR
  have HX := Lib.hid hx
  have HY := Lib.hid hy
  have HO := Lib.hid hk
  have HS := Lib.hid hs
  have HK := Lib.hid hK
  by_cases hA : j = i ∧ q = p
  · have hR0 : R = 0 := by rw [hR]; exact RD_none (by omega) (by omega)
    have f1 : decide (j ≤ i) = true := decide_eq_true (by omega)
    have f2 : decide (q ≤ p) = true := decide_eq_true (by omega)
    have f3 : j ≤ i := by omega
    have f4 : q ≤ p := by omega
    subst hR0
    clear hR hx hy hk hs hK bR hA
    as_aux_lemma =>
      go_enter Try.func90, Try.ntmps90
      go_wp2
      go_ret
      exact ⟨rfl, ⟨⟨K, HK.out⟩, GB.refl _ _ _⟩⟩
  obtain ⟨u0, u1, u2, u3, u4, at9, hat, hat2, w0', d1, x1', w2', d3, x3', w4', d5, x5'⟩ := ix9_nums x24 y24 (i := i) (j := j) (p := p) (q := q) (by omega) hj (by omega) hq
  have hlt : at9 < N := by rw [hat, hK.hN]; exact ix9_lt (by omega) hj (by omega) hq
  have HAT := Lib.hid hat
  have h0 := hK.h0
  have h1 := hK.h1
  have h4 := hK.h4
  have hv := own_int hK.row (k := at9) (by rw [hK.klen]; exact hlt)
  have m1 : ¬ j < i := by omega
  have m2 : ¬ q < p := by omega
  have g1 : (0 : Int) ≤ (at9 : Int) := by omega
  have g2 : (at9 : Int) < (N : Int) := by omega
  have FG := Lib.hid (show (j = i → ¬ q = p) by intro h h2; exact hA ⟨h, h2⟩)
  rcases hK.kn i j p q hij hj hpq hq with hz | hz
  rotate_left
  · rw [← hat, ← hR] at hz
    rw [hz] at hv
    have f5 : decide (0 < R + 1) = true := decide_eq_true (by omega)
    have c1 : IntKind.i64.wrap (R + 1 - 1) = R := by rw [Kit.w64 (by omega) (by omega)]; omega
    clear hR hx hy hk hs hK hat hlt hz
    rcases (show (i < j ∧ p < q) ∨ (i < j ∧ q = p) ∨ (j = i ∧ p < q) by have := FG.out; omega) with ⟨gx, gy⟩ | ⟨gx, gy⟩ | ⟨gx, gy⟩
    · skip
      have n1 : decide (j ≤ i) = false := decide_eq_false (by omega)
      have n2 : decide (q ≤ p) = false := decide_eq_false (by omega)
      have n3 : decide (i < j) = true := decide_eq_true (by omega)
      have n4 : decide (p < q) = true := decide_eq_true (by omega)
      have GX := Lib.hid gx
      have GY := Lib.hid gy
      clear gx gy
      as_aux_lemma =>
        go_enter Try.func90, Try.ntmps90
        go_wp2
        go_ret
        exact ⟨rfl, ⟨⟨K, HK.out⟩, GB.refl _ _ _⟩⟩
    · skip
      have n1 : decide (j ≤ i) = false := decide_eq_false (by omega)
      have n2 : decide (q ≤ p) = true := decide_eq_true (by omega)
      have n3 : decide (i < j) = true := decide_eq_true (by omega)
      have n4 : decide (p < q) = false := decide_eq_false (by omega)
      have GX := Lib.hid gx
      have GY := Lib.hid gy
      clear gx gy
      as_aux_lemma =>
        go_enter Try.func90, Try.ntmps90
        go_wp2
        go_ret
        exact ⟨rfl, ⟨⟨K, HK.out⟩, GB.refl _ _ _⟩⟩
    · skip
      have n1 : decide (j ≤ i) = true := decide_eq_true (by omega)
      have n2 : decide (q ≤ p) = false := decide_eq_false (by omega)
      have n3 : decide (i < j) = false := decide_eq_false (by omega)
      have n4 : decide (p < q) = true := decide_eq_true (by omega)
      have GX := Lib.hid gx
      have GY := Lib.hid gy
      clear gx gy
      as_aux_lemma =>
        go_enter Try.func90, Try.ntmps90
        go_wp2
        go_ret
        exact ⟨rfl, ⟨⟨K, HK.out⟩, GB.refl _ _ _⟩⟩
  rw [← hat] at hz
  rw [hz] at hv
  rcases (show (i < j ∧ p < q) ∨ (i < j ∧ q = p) ∨ (j = i ∧ p < q) by have := FG.out; omega) with ⟨gx, gy⟩ | ⟨gx, gy⟩ | ⟨gx, gy⟩
  · skip
    have n1 : decide (j ≤ i) = false := decide_eq_false (by omega)
    have n2 : decide (q ≤ p) = false := decide_eq_false (by omega)
    have n3 : decide (i < j) = true := decide_eq_true (by omega)
    have n4 : decide (p < q) = true := decide_eq_true (by omega)
    have GX := Lib.hid gx
    have GY := Lib.hid gy
    clear gx gy
    as_aux_lemma =>
      have gx := GX.out
      have gy := GY.out
      have HLT := Lib.hid hlt
      have HIJ := Lib.hid (And.intro hij (And.intro hj (And.intro hpq hq)))
      obtain ⟨j1, hj1⟩ : ∃ z, z = j - 1 := ⟨_, rfl⟩
      obtain ⟨ua, hua, ea⟩ := Tr.xa_lab hx (p := j1) (by omega)
      obtain ⟨dv, hdv⟩ : ∃ z, z = Zs.at k.d ua := ⟨_, rfl⟩
      have Edv : Co.del k (Tr.xa xs j1) = dv := by rw [ea, Co.del_at hk hua, hdv]
      have nd := (Co.nonneg' k).1 (Tr.xa xs j1)
      rw [Edv] at nd
      obtain ⟨X, hX⟩ : ∃ z, z = RR xs ys k i j1 p q := ⟨_, rfl⟩
      have bX := RR_bound (k := k) hx hy (p := i) (a := j1) (q := p) (b := q) (by omega) (by omega) hpq hq
      rw [← hX] at bX
      have CX := Lib.hid (show ∀ w, (∃ K, M9 B N D xs ys k K w) → Calls Try.prog 90 #[.pointer (some ⟨D.g, 0, none⟩), .int .i64 i, .int .i64 j1, .int .i64 p, .int .i64 q] w fun e w' => e = .returned (.int .i64 X) ∧ K9 B N D xs ys k w w' from fun w h => by rw [hX]; exact hs i j1 p q w (by omega) (by omega) hpq hq (by omega) h)
      have HCX := Lib.hid (fun (wq : World) (h : K9 B N D xs ys k w wq) => d9_x h (j1 := j1) (ua := ua) (dv := dv) (by omega) hua ea hdv)
      have ej : (j : Int) - 1 = (j1 : Int) := by omega
      have aj : IntKind.i64.wrap ((j : Int) - 1) = (j1 : Int) := by rw [Kit.w64 (by omega) (by omega)]; exact ej
      have aj' : IntKind.i64.wrap (j1 : Int) = (j1 : Int) := Kit.w64 (by omega) (by omega)
      have kj1 : (0 : Int) ≤ (j1 : Int) := by omega
      have kj2 : (j1 : Int) < (xs.length : Int) := by omega
      have ku1 : (0 : Int) ≤ (ua : Int) := by omega
      have ku2 : (ua : Int) < 6 := by omega
      obtain ⟨q1, hq1⟩ : ∃ z, z = q - 1 := ⟨_, rfl⟩
      obtain ⟨ub, hub, eb⟩ := Tr.xa_lab hy (p := q1) (by omega)
      obtain ⟨iv, hiv⟩ : ∃ z, z = Zs.at k.i ub := ⟨_, rfl⟩
      have Eiv : Co.ins k (Tr.xa ys q1) = iv := by rw [eb, Co.ins_at hk hub, hiv]
      have ni := (Co.nonneg' k).2.1 (Tr.xa ys q1)
      rw [Eiv] at ni
      obtain ⟨Y, hY⟩ : ∃ z, z = RR xs ys k i j p q1 := ⟨_, rfl⟩
      have bY := RR_bound (k := k) hx hy (p := i) (a := j) (q := p) (b := q1) hij hj (by omega) (by omega)
      rw [← hY] at bY
      have CY := Lib.hid (show ∀ w, (∃ K, M9 B N D xs ys k K w) → Calls Try.prog 90 #[.pointer (some ⟨D.g, 0, none⟩), .int .i64 i, .int .i64 j, .int .i64 p, .int .i64 q1] w fun e w' => e = .returned (.int .i64 Y) ∧ K9 B N D xs ys k w w' from fun w h => by rw [hY]; exact hs i j p q1 w hij hj (by omega) (by omega) (by omega) h)
      have HCY := Lib.hid (fun (wq : World) (h : K9 B N D xs ys k w wq) => d9_y h (q1 := q1) (ub := ub) (iv := iv) (by omega) hub eb hiv)
      have eq' : (q : Int) - 1 = (q1 : Int) := by omega
      have aq : IntKind.i64.wrap ((q : Int) - 1) = (q1 : Int) := by rw [Kit.w64 (by omega) (by omega)]; exact eq'
      have aq' : IntKind.i64.wrap (q1 : Int) = (q1 : Int) := Kit.w64 (by omega) (by omega)
      have kq1 : (0 : Int) ≤ (q1 : Int) := by omega
      have kq2 : (q1 : Int) < (ys.length : Int) := by omega
      have kv1 : (0 : Int) ≤ (ub : Int) := by omega
      have kv2 : (ub : Int) < 6 := by omega
      obtain ⟨Mt, hMt⟩ : ∃ z, z = RR xs ys k i (max i (Tr.la xs (j - 1))) p (max p (Tr.la ys (q - 1))) + RR xs ys k (max i (Tr.la xs (j - 1))) (j - 1) (max p (Tr.la ys (q - 1))) (q - 1) + Co.rel k (Tr.xa xs (j - 1)) (Tr.xa ys (q - 1)) := ⟨_, rfl⟩
      have CM := Lib.hid (show ∀ w, (∃ K, M9 B N D xs ys k K w) → Calls Try.prog 106 #[.pointer (some ⟨D.g, 0, none⟩), .int .i64 i, .int .i64 j, .int .i64 p, .int .i64 q] w fun e w' => e = .returned (.int .i64 Mt) ∧ K9 B N D xs ys k w w' from fun w h => by rw [hMt]; exact l9Match_any B N D xs ys k s hx hy hk hs i j p q w gx hj gy hq (by omega) h)
      obtain ⟨L1, hL1⟩ : ∃ z, z = X + dv := ⟨_, rfl⟩
      obtain ⟨V, hV⟩ : ∃ z, z = Y + iv := ⟨_, rfl⟩
      have eR : R = min (min L1 V) Mt := by
        rw [HR.out, hL1, hV, hMt, hX, hY, ← Edv, ← Eiv, show j = j1 + 1 by omega, show q = q1 + 1 by omega]
        exact RD_both (Tr.la_nest hx) (Tr.la_nest hy) (by omega) (by omega) (by omega) (by omega)
      have cw1 : IntKind.i64.wrap (X + dv) = L1 := by rw [hL1]; exact Kit.w64 (by omega) (by omega)
      have cw2 : IntKind.i64.wrap (Y + iv) = V := by rw [hV]; exact Kit.w64 (by omega) (by omega)
      have HM3 := Lib.hid (show R ≤ Mt ∧ R ≤ V ∧ R ≤ L1 ∧ (R = Mt ∨ R = V ∨ R = L1) by omega)
      clear gx gy hR hx hy hk hs hK hat hlt hz hj1 ea hdv Edv nd hX bX hua hq1 eb hiv Eiv ni hY bY hub hMt hL1 hV
      by_cases hVL : V < L1
      · have e8 : decide (V < L1) = true := decide_eq_true hVL
        by_cases hM : Mt < V
        · obtain rfl : R = Mt := by omega
          clear eR
          go_enter Try.func90, Try.ntmps90
          go_wp2_with fail
          have S0x := Lib.hid (HCX.out w.drew ⟨⟨K, HK.out.drawn (Drawn.refl _).drew⟩, GB.of_drawn (Drawn.refl _).drew⟩)
          clear h0 h1 h4 hv
          go_region_held3 (fun wq => wq.cell? ⟨D.g, 0, none⟩ = some (.slice (some D.ax) xs.length D.cx) ∧ wq.cell? ⟨D.g, 5, none⟩ = some (.slice (some D.k0) 6 D.e0) ∧ wq.cell? (D.ax.add j1) = some (.int .i64 (ua : Int)) ∧ wq.cell? (D.k0.add ua) = some (.int .i64 dv) ∧ K9 B N D xs ys k w wq) (first | (with_reducible exact SCx) | (with_reducible exact S0x.out)) (first | (go_at_call 90; refine (CX.out _ (d9_kx (by assumption)).1).mono ?_; rintro e w5 ⟨rfl, hkx⟩; have SCx := HCX.out w5 (K9.next (d9_kx (by assumption)) hkx)))
          have S0y := Lib.hid (HCY.out w5.drew ((d9_kx SCx).drawn (Drawn.refl _).drew))
          have KX := Lib.hid (d9_kx SCx)
          clear SCx hkx
          (try clear t1)
          go_wp2_with fail
          go_region_held3 (fun wq => wq.cell? ⟨D.g, 1, none⟩ = some (.slice (some D.ay) ys.length D.cy) ∧ wq.cell? ⟨D.g, 6, none⟩ = some (.slice (some D.k1) 6 D.e1) ∧ wq.cell? (D.ay.add q1) = some (.int .i64 (ub : Int)) ∧ wq.cell? (D.k1.add ub) = some (.int .i64 iv) ∧ K9 B N D xs ys k w wq) (first | (with_reducible exact SCy) | (with_reducible exact S0y.out)) (first | (go_at_call 90; refine (CY.out _ (d9_ky (by assumption)).1).mono ?_; rintro e w6 ⟨rfl, hky⟩; have SCy := HCY.out w6 (K9.next (d9_ky (by assumption)) hky)))
          have KY := Lib.hid (d9_ky SCy)
          clear SCy hky
          go_wp2_with fail
          refine (CM.out w6 KY.out.1).mono ?_
          rintro e w7 ⟨rfl, hk7⟩
          have KZ := Lib.hid (K9.next KY.out hk7)
          clear hk7
          have aR : IntKind.i64.wrap (R + 1) = R + 1 := Kit.w64 (by omega) (by omega)
          obtain ⟨⟨K2, hK2⟩, hb2⟩ := KZ.out
          have p4 := hK2.h4
          have pv := own_int hK2.row (k := at9) (by rw [hK2.klen]; exact HLT.out)
          have pf := hK2.row.frozenAt at9
          have HK2 := Lib.hid hK2
          clear hK2
          go_wp2
          go_ret
          have hset := HK2.out.set HIJ.out.1 HIJ.out.2.1 HIJ.out.2.2.1 HIJ.out.2.2.2
          rw [← HAT.out, ← HR.out] at hset
          exact ⟨rfl, ⟨⟨_, hset⟩, hb2.setCell (show B ≤ D.gk from (HK2.out.row.lt D.gk rfl).1) _ _⟩⟩
        · obtain rfl : R = V := by omega
          clear eR
          go_enter Try.func90, Try.ntmps90
          go_wp2_with fail
          have S0x := Lib.hid (HCX.out w.drew ⟨⟨K, HK.out.drawn (Drawn.refl _).drew⟩, GB.of_drawn (Drawn.refl _).drew⟩)
          clear h0 h1 h4 hv
          go_region_held3 (fun wq => wq.cell? ⟨D.g, 0, none⟩ = some (.slice (some D.ax) xs.length D.cx) ∧ wq.cell? ⟨D.g, 5, none⟩ = some (.slice (some D.k0) 6 D.e0) ∧ wq.cell? (D.ax.add j1) = some (.int .i64 (ua : Int)) ∧ wq.cell? (D.k0.add ua) = some (.int .i64 dv) ∧ K9 B N D xs ys k w wq) (first | (with_reducible exact SCx) | (with_reducible exact S0x.out)) (first | (go_at_call 90; refine (CX.out _ (d9_kx (by assumption)).1).mono ?_; rintro e w5 ⟨rfl, hkx⟩; have SCx := HCX.out w5 (K9.next (d9_kx (by assumption)) hkx)))
          have S0y := Lib.hid (HCY.out w5.drew ((d9_kx SCx).drawn (Drawn.refl _).drew))
          have KX := Lib.hid (d9_kx SCx)
          clear SCx hkx
          (try clear t1)
          go_wp2_with fail
          go_region_held3 (fun wq => wq.cell? ⟨D.g, 1, none⟩ = some (.slice (some D.ay) ys.length D.cy) ∧ wq.cell? ⟨D.g, 6, none⟩ = some (.slice (some D.k1) 6 D.e1) ∧ wq.cell? (D.ay.add q1) = some (.int .i64 (ub : Int)) ∧ wq.cell? (D.k1.add ub) = some (.int .i64 iv) ∧ K9 B N D xs ys k w wq) (first | (with_reducible exact SCy) | (with_reducible exact S0y.out)) (first | (go_at_call 90; refine (CY.out _ (d9_ky (by assumption)).1).mono ?_; rintro e w6 ⟨rfl, hky⟩; have SCy := HCY.out w6 (K9.next (d9_ky (by assumption)) hky)))
          have KY := Lib.hid (d9_ky SCy)
          clear SCy hky
          go_wp2_with fail
          refine (CM.out w6 KY.out.1).mono ?_
          rintro e w7 ⟨rfl, hk7⟩
          have KZ := Lib.hid (K9.next KY.out hk7)
          clear hk7
          have aR : IntKind.i64.wrap (R + 1) = R + 1 := Kit.w64 (by omega) (by omega)
          obtain ⟨⟨K2, hK2⟩, hb2⟩ := KZ.out
          have p4 := hK2.h4
          have pv := own_int hK2.row (k := at9) (by rw [hK2.klen]; exact HLT.out)
          have pf := hK2.row.frozenAt at9
          have HK2 := Lib.hid hK2
          clear hK2
          go_wp2
          go_ret
          have hset := HK2.out.set HIJ.out.1 HIJ.out.2.1 HIJ.out.2.2.1 HIJ.out.2.2.2
          rw [← HAT.out, ← HR.out] at hset
          exact ⟨rfl, ⟨⟨_, hset⟩, hb2.setCell (show B ≤ D.gk from (HK2.out.row.lt D.gk rfl).1) _ _⟩⟩
      · have e8 : decide (V < L1) = false := decide_eq_false hVL
        by_cases hM : Mt < L1
        · obtain rfl : R = Mt := by omega
          clear eR
          go_enter Try.func90, Try.ntmps90
          go_wp2_with fail
          have S0x := Lib.hid (HCX.out w.drew ⟨⟨K, HK.out.drawn (Drawn.refl _).drew⟩, GB.of_drawn (Drawn.refl _).drew⟩)
          clear h0 h1 h4 hv
          go_region_held3 (fun wq => wq.cell? ⟨D.g, 0, none⟩ = some (.slice (some D.ax) xs.length D.cx) ∧ wq.cell? ⟨D.g, 5, none⟩ = some (.slice (some D.k0) 6 D.e0) ∧ wq.cell? (D.ax.add j1) = some (.int .i64 (ua : Int)) ∧ wq.cell? (D.k0.add ua) = some (.int .i64 dv) ∧ K9 B N D xs ys k w wq) (first | (with_reducible exact SCx) | (with_reducible exact S0x.out)) (first | (go_at_call 90; refine (CX.out _ (d9_kx (by assumption)).1).mono ?_; rintro e w5 ⟨rfl, hkx⟩; have SCx := HCX.out w5 (K9.next (d9_kx (by assumption)) hkx)))
          have S0y := Lib.hid (HCY.out w5.drew ((d9_kx SCx).drawn (Drawn.refl _).drew))
          have KX := Lib.hid (d9_kx SCx)
          clear SCx hkx
          (try clear t1)
          go_wp2_with fail
          go_region_held3 (fun wq => wq.cell? ⟨D.g, 1, none⟩ = some (.slice (some D.ay) ys.length D.cy) ∧ wq.cell? ⟨D.g, 6, none⟩ = some (.slice (some D.k1) 6 D.e1) ∧ wq.cell? (D.ay.add q1) = some (.int .i64 (ub : Int)) ∧ wq.cell? (D.k1.add ub) = some (.int .i64 iv) ∧ K9 B N D xs ys k w wq) (first | (with_reducible exact SCy) | (with_reducible exact S0y.out)) (first | (go_at_call 90; refine (CY.out _ (d9_ky (by assumption)).1).mono ?_; rintro e w6 ⟨rfl, hky⟩; have SCy := HCY.out w6 (K9.next (d9_ky (by assumption)) hky)))
          have KY := Lib.hid (d9_ky SCy)
          clear SCy hky
          go_wp2_with fail
          refine (CM.out w6 KY.out.1).mono ?_
          rintro e w7 ⟨rfl, hk7⟩
          have KZ := Lib.hid (K9.next KY.out hk7)
          clear hk7
          have aR : IntKind.i64.wrap (R + 1) = R + 1 := Kit.w64 (by omega) (by omega)
          obtain ⟨⟨K2, hK2⟩, hb2⟩ := KZ.out
          have p4 := hK2.h4
          have pv := own_int hK2.row (k := at9) (by rw [hK2.klen]; exact HLT.out)
          have pf := hK2.row.frozenAt at9
          have HK2 := Lib.hid hK2
          clear hK2
          go_wp2
          go_ret
          have hset := HK2.out.set HIJ.out.1 HIJ.out.2.1 HIJ.out.2.2.1 HIJ.out.2.2.2
          rw [← HAT.out, ← HR.out] at hset
          exact ⟨rfl, ⟨⟨_, hset⟩, hb2.setCell (show B ≤ D.gk from (HK2.out.row.lt D.gk rfl).1) _ _⟩⟩
        · obtain rfl : R = L1 := by omega
          clear eR
          go_enter Try.func90, Try.ntmps90
          go_wp2_with fail
          have S0x := Lib.hid (HCX.out w.drew ⟨⟨K, HK.out.drawn (Drawn.refl _).drew⟩, GB.of_drawn (Drawn.refl _).drew⟩)
          clear h0 h1 h4 hv
          go_region_held3 (fun wq => wq.cell? ⟨D.g, 0, none⟩ = some (.slice (some D.ax) xs.length D.cx) ∧ wq.cell? ⟨D.g, 5, none⟩ = some (.slice (some D.k0) 6 D.e0) ∧ wq.cell? (D.ax.add j1) = some (.int .i64 (ua : Int)) ∧ wq.cell? (D.k0.add ua) = some (.int .i64 dv) ∧ K9 B N D xs ys k w wq) (first | (with_reducible exact SCx) | (with_reducible exact S0x.out)) (first | (go_at_call 90; refine (CX.out _ (d9_kx (by assumption)).1).mono ?_; rintro e w5 ⟨rfl, hkx⟩; have SCx := HCX.out w5 (K9.next (d9_kx (by assumption)) hkx)))
          have S0y := Lib.hid (HCY.out w5.drew ((d9_kx SCx).drawn (Drawn.refl _).drew))
          have KX := Lib.hid (d9_kx SCx)
          clear SCx hkx
          (try clear t1)
          go_wp2_with fail
          go_region_held3 (fun wq => wq.cell? ⟨D.g, 1, none⟩ = some (.slice (some D.ay) ys.length D.cy) ∧ wq.cell? ⟨D.g, 6, none⟩ = some (.slice (some D.k1) 6 D.e1) ∧ wq.cell? (D.ay.add q1) = some (.int .i64 (ub : Int)) ∧ wq.cell? (D.k1.add ub) = some (.int .i64 iv) ∧ K9 B N D xs ys k w wq) (first | (with_reducible exact SCy) | (with_reducible exact S0y.out)) (first | (go_at_call 90; refine (CY.out _ (d9_ky (by assumption)).1).mono ?_; rintro e w6 ⟨rfl, hky⟩; have SCy := HCY.out w6 (K9.next (d9_ky (by assumption)) hky)))
          have KY := Lib.hid (d9_ky SCy)
          clear SCy hky
          go_wp2_with fail
          refine (CM.out w6 KY.out.1).mono ?_
          rintro e w7 ⟨rfl, hk7⟩
          have KZ := Lib.hid (K9.next KY.out hk7)
          clear hk7
          have aR : IntKind.i64.wrap (R + 1) = R + 1 := Kit.w64 (by omega) (by omega)
          obtain ⟨⟨K2, hK2⟩, hb2⟩ := KZ.out
          have p4 := hK2.h4
          have pv := own_int hK2.row (k := at9) (by rw [hK2.klen]; exact HLT.out)
          have pf := hK2.row.frozenAt at9
          have HK2 := Lib.hid hK2
          clear hK2
          go_wp2
          go_ret
          have hset := HK2.out.set HIJ.out.1 HIJ.out.2.1 HIJ.out.2.2.1 HIJ.out.2.2.2
          rw [← HAT.out, ← HR.out] at hset
          exact ⟨rfl, ⟨⟨_, hset⟩, hb2.setCell (show B ≤ D.gk from (HK2.out.row.lt D.gk rfl).1) _ _⟩⟩
  · skip
    have n1 : decide (j ≤ i) = false := decide_eq_false (by omega)
    have n2 : decide (q ≤ p) = true := decide_eq_true (by omega)
    have n3 : decide (i < j) = true := decide_eq_true (by omega)
    have n4 : decide (p < q) = false := decide_eq_false (by omega)
    have GX := Lib.hid gx
    have GY := Lib.hid gy
    clear gx gy
    as_aux_lemma =>
      have gx := GX.out
      have gy := GY.out
      have HLT := Lib.hid hlt
      have HIJ := Lib.hid (And.intro hij (And.intro hj (And.intro hpq hq)))
      obtain ⟨j1, hj1⟩ : ∃ z, z = j - 1 := ⟨_, rfl⟩
      obtain ⟨ua, hua, ea⟩ := Tr.xa_lab hx (p := j1) (by omega)
      obtain ⟨dv, hdv⟩ : ∃ z, z = Zs.at k.d ua := ⟨_, rfl⟩
      have Edv : Co.del k (Tr.xa xs j1) = dv := by rw [ea, Co.del_at hk hua, hdv]
      have nd := (Co.nonneg' k).1 (Tr.xa xs j1)
      rw [Edv] at nd
      obtain ⟨X, hX⟩ : ∃ z, z = RR xs ys k i j1 p q := ⟨_, rfl⟩
      have bX := RR_bound (k := k) hx hy (p := i) (a := j1) (q := p) (b := q) (by omega) (by omega) hpq hq
      rw [← hX] at bX
      have CX := Lib.hid (show ∀ w, (∃ K, M9 B N D xs ys k K w) → Calls Try.prog 90 #[.pointer (some ⟨D.g, 0, none⟩), .int .i64 i, .int .i64 j1, .int .i64 p, .int .i64 q] w fun e w' => e = .returned (.int .i64 X) ∧ K9 B N D xs ys k w w' from fun w h => by rw [hX]; exact hs i j1 p q w (by omega) (by omega) hpq hq (by omega) h)
      have HCX := Lib.hid (fun (wq : World) (h : K9 B N D xs ys k w wq) => d9_x h (j1 := j1) (ua := ua) (dv := dv) (by omega) hua ea hdv)
      have ej : (j : Int) - 1 = (j1 : Int) := by omega
      have aj : IntKind.i64.wrap ((j : Int) - 1) = (j1 : Int) := by rw [Kit.w64 (by omega) (by omega)]; exact ej
      have aj' : IntKind.i64.wrap (j1 : Int) = (j1 : Int) := Kit.w64 (by omega) (by omega)
      have kj1 : (0 : Int) ≤ (j1 : Int) := by omega
      have kj2 : (j1 : Int) < (xs.length : Int) := by omega
      have ku1 : (0 : Int) ≤ (ua : Int) := by omega
      have ku2 : (ua : Int) < 6 := by omega
      have eR : X + dv = R := by
        rw [HR.out, hX, ← Edv, show j = j1 + 1 by omega]
        exact (RD_left (Tr.la_nest hx) (by omega) (by omega) (by omega)).symm
      have cw : IntKind.i64.wrap (X + dv) = R := by rw [Kit.w64 (by omega) (by omega)]; exact eR
      clear gx gy hR hx hy hk hs hK hat hlt hz hj1 ea hdv Edv nd hX bX eR hua
      go_enter Try.func90, Try.ntmps90
      go_wp2_with fail
      have S0x := Lib.hid (HCX.out w.drew ⟨⟨K, HK.out.drawn (Drawn.refl _).drew⟩, GB.of_drawn (Drawn.refl _).drew⟩)
      clear h0 h1 h4 hv
      go_region_held3 (fun wq => wq.cell? ⟨D.g, 0, none⟩ = some (.slice (some D.ax) xs.length D.cx) ∧ wq.cell? ⟨D.g, 5, none⟩ = some (.slice (some D.k0) 6 D.e0) ∧ wq.cell? (D.ax.add j1) = some (.int .i64 (ua : Int)) ∧ wq.cell? (D.k0.add ua) = some (.int .i64 dv) ∧ K9 B N D xs ys k w wq) (first | (with_reducible exact SCx) | (with_reducible exact S0x.out)) (first | (go_at_call 90; refine (CX.out _ (d9_kx (by assumption)).1).mono ?_; rintro e w5 ⟨rfl, hkx⟩; have SCx := HCX.out w5 (K9.next (d9_kx (by assumption)) hkx)))
      have aR : IntKind.i64.wrap (R + 1) = R + 1 := Kit.w64 (by omega) (by omega)
      obtain ⟨⟨K2, hK2⟩, hb2⟩ := d9_kx SCx
      have p4 := hK2.h4
      have pv := own_int hK2.row (k := at9) (by rw [hK2.klen]; exact HLT.out)
      have pf := hK2.row.frozenAt at9
      have HK2 := Lib.hid hK2
      clear hK2
      go_wp2
      go_ret
      have hset := HK2.out.set HIJ.out.1 HIJ.out.2.1 HIJ.out.2.2.1 HIJ.out.2.2.2
      rw [← HAT.out, ← HR.out] at hset
      exact ⟨rfl, ⟨⟨_, hset⟩, hb2.setCell (show B ≤ D.gk from (HK2.out.row.lt D.gk rfl).1) _ _⟩⟩
  · skip
    have n1 : decide (j ≤ i) = true := decide_eq_true (by omega)
    have n2 : decide (q ≤ p) = false := decide_eq_false (by omega)
    have n3 : decide (i < j) = false := decide_eq_false (by omega)
    have n4 : decide (p < q) = true := decide_eq_true (by omega)
    have GX := Lib.hid gx
    have GY := Lib.hid gy
    clear gx gy
    as_aux_lemma =>
      have gx := GX.out
      have gy := GY.out
      have HLT := Lib.hid hlt
      have HIJ := Lib.hid (And.intro hij (And.intro hj (And.intro hpq hq)))
      obtain ⟨q1, hq1⟩ : ∃ z, z = q - 1 := ⟨_, rfl⟩
      obtain ⟨ub, hub, eb⟩ := Tr.xa_lab hy (p := q1) (by omega)
      obtain ⟨iv, hiv⟩ : ∃ z, z = Zs.at k.i ub := ⟨_, rfl⟩
      have Eiv : Co.ins k (Tr.xa ys q1) = iv := by rw [eb, Co.ins_at hk hub, hiv]
      have ni := (Co.nonneg' k).2.1 (Tr.xa ys q1)
      rw [Eiv] at ni
      obtain ⟨Y, hY⟩ : ∃ z, z = RR xs ys k i j p q1 := ⟨_, rfl⟩
      have bY := RR_bound (k := k) hx hy (p := i) (a := j) (q := p) (b := q1) hij hj (by omega) (by omega)
      rw [← hY] at bY
      have CY := Lib.hid (show ∀ w, (∃ K, M9 B N D xs ys k K w) → Calls Try.prog 90 #[.pointer (some ⟨D.g, 0, none⟩), .int .i64 i, .int .i64 j, .int .i64 p, .int .i64 q1] w fun e w' => e = .returned (.int .i64 Y) ∧ K9 B N D xs ys k w w' from fun w h => by rw [hY]; exact hs i j p q1 w hij hj (by omega) (by omega) (by omega) h)
      have HCY := Lib.hid (fun (wq : World) (h : K9 B N D xs ys k w wq) => d9_y h (q1 := q1) (ub := ub) (iv := iv) (by omega) hub eb hiv)
      have eq' : (q : Int) - 1 = (q1 : Int) := by omega
      have aq : IntKind.i64.wrap ((q : Int) - 1) = (q1 : Int) := by rw [Kit.w64 (by omega) (by omega)]; exact eq'
      have aq' : IntKind.i64.wrap (q1 : Int) = (q1 : Int) := Kit.w64 (by omega) (by omega)
      have kq1 : (0 : Int) ≤ (q1 : Int) := by omega
      have kq2 : (q1 : Int) < (ys.length : Int) := by omega
      have kv1 : (0 : Int) ≤ (ub : Int) := by omega
      have kv2 : (ub : Int) < 6 := by omega
      have eR : Y + iv = R := by
        rw [HR.out, hY, ← Eiv, show q = q1 + 1 by omega]
        exact (RD_right (Tr.la_nest hy) (by omega) (by omega) (by omega)).symm
      have cw : IntKind.i64.wrap (Y + iv) = R := by rw [Kit.w64 (by omega) (by omega)]; exact eR
      clear gx gy hR hx hy hk hs hK hat hlt hz hq1 eb hiv Eiv ni hY bY eR hub
      go_enter Try.func90, Try.ntmps90
      go_wp2_with fail
      have S0y := Lib.hid (HCY.out w.drew ⟨⟨K, HK.out.drawn (Drawn.refl _).drew⟩, GB.of_drawn (Drawn.refl _).drew⟩)
      clear h0 h1 h4 hv
      go_region_held3 (fun wq => wq.cell? ⟨D.g, 1, none⟩ = some (.slice (some D.ay) ys.length D.cy) ∧ wq.cell? ⟨D.g, 6, none⟩ = some (.slice (some D.k1) 6 D.e1) ∧ wq.cell? (D.ay.add q1) = some (.int .i64 (ub : Int)) ∧ wq.cell? (D.k1.add ub) = some (.int .i64 iv) ∧ K9 B N D xs ys k w wq) (first | (with_reducible exact SCy) | (with_reducible exact S0y.out)) (first | (go_at_call 90; refine (CY.out _ (d9_ky (by assumption)).1).mono ?_; rintro e w5 ⟨rfl, hky⟩; have SCy := HCY.out w5 (K9.next (d9_ky (by assumption)) hky)))
      have aR : IntKind.i64.wrap (R + 1) = R + 1 := Kit.w64 (by omega) (by omega)
      obtain ⟨⟨K2, hK2⟩, hb2⟩ := d9_ky SCy
      have p4 := hK2.h4
      have pv := own_int hK2.row (k := at9) (by rw [hK2.klen]; exact HLT.out)
      have pf := hK2.row.frozenAt at9
      have HK2 := Lib.hid hK2
      clear hK2
      go_wp2
      go_ret
      have hset := HK2.out.set HIJ.out.1 HIJ.out.2.1 HIJ.out.2.2.1 HIJ.out.2.2.2
      rw [← HAT.out, ← HR.out] at hset
      exact ⟨rfl, ⟨⟨_, hset⟩, hb2.setCell (show B ≤ D.gk from (HK2.out.row.lt D.gk rfl).1) _ _⟩⟩
theorem l9Dist_any (B N : Nat) (D : D9) (xs ys : Tr) (k : Co) (hx : Tr.ok xs = true) (hy : Tr.ok ys = true) (hk : Co.ok k = true) : ∀ s, Says9 B N D xs ys k s := by
  intro s
  induction s with
  | zero => intro i j p q w _ _ _ _ h; omega
  | succ s ih => exact l9Dist_step B N D xs ys k s hx hy hk ih

end Go.Proofs.Ytlndaflhlkbedaa
