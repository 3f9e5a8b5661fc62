/- Texts of one claim laid into one file, in build order: TrJ. -/
import Derived.Test.YtgkkeejhfofcaaaHd33
/- Contracts (TrJ). -/
namespace Go.Proofs.Ytgkkeejhfofcaaa
open Go.RowKit
set_option linter.unusedVariables false

section
variable {D : D10} {oa ob : Addr} {ca cb : Nat} {wB : World} {xs ys : Tr} {k : Co} {L : Tr} {w0 wq wx : World} {b i j p q : Nat}
theorem mq_dist (h : (wq.cell? ⟨b, 0, none⟩ = some (.int .i64 (i : Int)) ∧ wq.cell? ⟨b, 1, none⟩ = some (.int .i64 (j : Int)) ∧ wq.cell? ⟨b, 2, none⟩ = some (.int .i64 (p : Int)) ∧ wq.cell? ⟨b, 3, none⟩ = some (.int .i64 (q : Int)) ∧ wq.cell? ⟨wB.heap.size, 0, none⟩ = some (.pointer (some ⟨D.g, 0, none⟩))) ∧ MQ D oa ob ca cb wB xs ys k L w0 b i j p q wq) (h' : PG D xs ys k wq wx) : (wx.cell? ⟨b, 0, none⟩ = some (.int .i64 (i : Int)) ∧ wx.cell? ⟨b, 1, none⟩ = some (.int .i64 (j : Int)) ∧ wx.cell? ⟨b, 2, none⟩ = some (.int .i64 (p : Int)) ∧ wx.cell? ⟨b, 3, none⟩ = some (.int .i64 (q : Int)) ∧ wx.cell? ⟨wB.heap.size, 0, none⟩ = some (.pointer (some ⟨D.g, 0, none⟩))) ∧ MQ D oa ob ca cb wB xs ys k L w0 b i j p q wx := (h.2.dist h').on
theorem mq_drawn (h : (wq.cell? ⟨b, 0, none⟩ = some (.int .i64 (i : Int)) ∧ wq.cell? ⟨b, 1, none⟩ = some (.int .i64 (j : Int)) ∧ wq.cell? ⟨b, 2, none⟩ = some (.int .i64 (p : Int)) ∧ wq.cell? ⟨b, 3, none⟩ = some (.int .i64 (q : Int)) ∧ wq.cell? ⟨wB.heap.size, 0, none⟩ = some (.pointer (some ⟨D.g, 0, none⟩))) ∧ MQ D oa ob ca cb wB xs ys k L w0 b i j p q wq) (h' : Drawn wq wx) : (wx.cell? ⟨b, 0, none⟩ = some (.int .i64 (i : Int)) ∧ wx.cell? ⟨b, 1, none⟩ = some (.int .i64 (j : Int)) ∧ wx.cell? ⟨b, 2, none⟩ = some (.int .i64 (p : Int)) ∧ wx.cell? ⟨b, 3, none⟩ = some (.int .i64 (q : Int)) ∧ wx.cell? ⟨wB.heap.size, 0, none⟩ = some (.pointer (some ⟨D.g, 0, none⟩))) ∧ MQ D oa ob ca cb wB xs ys k L w0 b i j p q wx := (h.2.drawn h').on
theorem MQ.over (h : MQ D oa ob ca cb wB xs ys k L w0 b i j p q wq) (hB : wB.heap.size ≤ b) (hw : w0.heap.size ≤ b) (i' j' p' q' : Nat) : MQ D oa ob ca cb wB xs ys k L w0 b i' j' p' q' ((((wq.setCell ⟨b, 0, none⟩ (.int .i64 (i' : Int))).setCell ⟨b, 1, none⟩ (.int .i64 (j' : Int))).setCell ⟨b, 2, none⟩ (.int .i64 (p' : Int))).setCell ⟨b, 3, none⟩ (.int .i64 (q' : Int))) := by
  have hg := grown_set4 wq b (.int .i64 (i' : Int)) (.int .i64 (j' : Int)) (.int .i64 (p' : Int)) (.int .i64 (q' : Int))
  refine ⟨h.1.box h.2.2 hB _ _ _ _, ⟨Nat.le_trans h.2.1.size hg.size, fun b' cur t hb h1 h2 => ?_⟩, h.2.2.set _ _ _ _⟩
  have hb2 := h.2.1.blk b' cur t hb h1 h2
  exact (hg.block _ (hp_lt hb2) (fun e => by have := hp_lt hb; have := Option.some.inj e; omega)).trans hb2
end
set_option maxHeartbeats 3200000 in
set_option maxRecDepth 100000 in
theorem trace_step (D : D10) (oa ob : Addr) (ca cb : Nat) (wB : World) (xs ys : Tr) (k : Co) (s : Nat) (hx : Tr.ok xs = true) (hy : Tr.ok ys = true) (hk : Co.ok k = true) (hs : SaysT D oa ob ca cb wB xs ys k s) : SaysT D oa ob ca cb wB xs ys k (s + 1) := by
  intro i0 j0 p0 q0 L w hij0 hj0 hpq0 hq0 hsum0 hL0 h
  obtain ⟨w1, hw1⟩ : ∃ w1, w1 = w.alloc (.cells #[.int .i64 (i0 : Int), .int .i64 (j0 : Int), .int .i64 (p0 : Int), .int .i64 (q0 : Int)] 105) := ⟨_, rfl⟩
  have hb1 : Below w.heap.size w w1 := by rw [hw1]; exact (Below.refl _ _).alloc (Nat.le_refl _) _
  obtain ⟨bb, hbb⟩ : ∃ x, x = w.heap.size := ⟨_, rfl⟩
  have M1 := Lib.hid (show MQ D oa ob ca cb wB xs ys k L w bb i0 j0 p0 q0 w1 from ⟨h.below hb1, Stay.below hb1, by rw [hw1, hbb]; exact Rb.made _ _ _ _ _⟩)
  have SB := Lib.hid (show wB.heap.size ≤ bb ∧ w.heap.size ≤ bb from ⟨by have := h.len; omega, by omega⟩)
  obtain ⟨G, hG⟩ : ∃ x, x = Bm.go (Bm.cP xs ys) xs ys k i0 j0 p0 q0 := ⟨_, rfl⟩
  rw [← hG]
  have HGG := Lib.hid hG
  have HBB := Lib.hid hbb
  have HW1 := Lib.hid hw1
  have HS := Lib.hid hs
  have HX := Lib.hid hx
  have HY := Lib.hid hy
  have HK := Lib.hid hk
  have BI0 := Lib.hid (show i0 ≤ j0 ∧ j0 ≤ xs.length ∧ p0 ≤ q0 ∧ q0 ≤ ys.length ∧ (j0 - i0) + (q0 - p0) ≤ s ∧ L.length + (q0 - p0) ≤ 1000 by omega)
  clear hG hbb hw1 hs hx hy hk hb1 h hij0 hj0 hpq0 hq0 hsum0 hL0
  go_enter Try.func129, Try.ntmps129
  go_wp2_with fail
  rw [← HW1.out, ← HBB.out]
  go_loopg [] (s + 1) (fun g wr => ∃ i j p q : Nat, i ≤ j ∧ j ≤ xs.length ∧ p ≤ q ∧ q ≤ ys.length ∧ (j - i) + (q - p) < g ∧ g ≤ s + 1 ∧ L.length + (q - p) ≤ 1000 ∧ Bm.go (Bm.cP xs ys) xs ys k i j p q = G ∧ MQ D oa ob ca cb wB xs ys k L w bb i j p q wr)
  case atStart => exact ⟨i0, j0, p0, q0, BI0.out.1, BI0.out.2.1, BI0.out.2.2.1, BI0.out.2.2.2.1, by have := BI0.out; omega, Nat.le_refl _, BI0.out.2.2.2.2.2, HGG.out.symm, M1.out⟩
  case round =>
    clear M1 HW1 HGG BI0
    obtain ⟨i, j, p, q, hij, hj, hpq, hq, hsum, hgs, hL, hgo, hM⟩ := hrel
    have M := Lib.hid hM
    have HGO := Lib.hid hgo
    clear hM hgo
    obtain ⟨y0, y1, y2, y3⟩ := M.out.2.2.cells
    by_cases e : j ≤ i ∨ q ≤ p
    · have HE := Lib.hid (show G = [] from HGO.out.symm.trans (Bm.go_none e))
      have FT := Lib.hid (show TG D oa ob ca cb wB xs ys k (L ++ G) wr by rw [HE.out, List.append_nil]; exact M.out.1)
      by_cases e1 : i < j
      · have e2 : ¬ p < q := by omega
        clear hij hj hpq hq hsum hgs hL e
        go_wp2
        refine bodyPost_end (results_none rfl _ _ _) rfl ?_
        exact ⟨rfl, FT.out, M.out.2.1⟩
      · clear hij hj hpq hq hsum hgs hL e
        go_wp2
        refine bodyPost_end (results_none rfl _ _ _) rfl ?_
        exact ⟨rfl, FT.out, M.out.2.1⟩
    · have e1 : i < j := by omega
      have e2 : p < q := by omega
      have x24 := (Tr.len24 HX.out).2
      have y24 := (Tr.len24 HY.out).2
      obtain ⟨j1, ej⟩ : ∃ z, z = j - 1 := ⟨_, rfl⟩
      obtain ⟨q1, eq⟩ : ∃ z, z = q - 1 := ⟨_, rfl⟩
      have EJ := Lib.hid ej
      have EQ := Lib.hid eq
      have bX := RR_bound (k := k) HX.out HY.out (p := i) (a := j1) (q := p) (b := q) (by omega) (by omega) (by omega) hq
      have bY := RR_bound (k := k) HX.out HY.out (p := i) (a := j) (q := p) (b := q1) (by omega) hj (by omega) (by omega)
      obtain ⟨D0, hD0⟩ : ∃ z, z = RR xs ys k i j p q := ⟨_, rfl⟩
      obtain ⟨X, hX⟩ : ∃ z, z = RR xs ys k i j1 p q := ⟨_, rfl⟩
      obtain ⟨Y, hY⟩ : ∃ z, z = RR xs ys k i j p q1 := ⟨_, rfl⟩
      obtain ⟨dv, hdv⟩ : ∃ z, z = Co.del k (Tr.xa xs j1) := ⟨_, rfl⟩
      obtain ⟨iv, hiv⟩ : ∃ z, z = Co.ins k (Tr.xa ys q1) := ⟨_, rfl⟩
      have bD := (Co.nonneg' k).1 (Tr.xa xs j1)
      have bI := (Co.nonneg' k).2.1 (Tr.xa ys q1)
      have CD := Lib.hid (fun (wq : World) (hp : TG D oa ob ca cb wB xs ys k L wq) => rangeDist_any D xs ys k HX.out HY.out HK.out (xs.length + ys.length + 1) i j p q wq hij hj hpq hq (by omega) hp.pt)
      have CX := Lib.hid (fun (wq : World) (hp : TG D oa ob ca cb wB xs ys k L wq) => rangeDist_any D xs ys k HX.out HY.out HK.out (xs.length + ys.length + 1) i j1 p q wq (by omega) (by omega) hpq hq (by omega) hp.pt)
      have CY := Lib.hid (fun (wq : World) (hp : TG D oa ob ca cb wB xs ys k L wq) => rangeDist_any D xs ys k HX.out HY.out HK.out (xs.length + ys.length + 1) i j p q1 wq hij hj (by omega) (by omega) (by omega) hp.pt)
      have CE := Lib.hid (fun (wq : World) (hp : TG D oa ob ca cb wB xs ys k L wq) => sidesDel_any D.g D.a0 D.a1 D.b0 D.b1 D.k0 D.k1 D.k2 D.ca0 D.ca1 D.cb0 D.cb1 D.ck0 D.ck1 D.ck2 xs ys k wq hp.pt.sd HX.out HK.out j1 (by omega))
      have CI := Lib.hid (fun (wq : World) (hp : TG D oa ob ca cb wB xs ys k L wq) => sidesIns_any D.g D.a0 D.a1 D.b0 D.b1 D.k0 D.k1 D.k2 D.ca0 D.ca1 D.cb0 D.cb1 D.ck0 D.ck1 D.ck2 xs ys k wq hp.pt.sd HY.out HK.out q1 (by omega))
      have HW := Lib.hid (show ∀ wq : World, TG D oa ob ca cb wB xs ys k L wq → Calls Try.prog 163 #[(.agg #[.int .i64 (i : Int), .int .i64 (j : Int), .int .i64 (p : Int), .int .i64 (q : Int)])] wq fun e w' => e = .returned (.agg #[.int .i64 (i : Int), .int .i64 (j1 : Int), .int .i64 (p : Int), .int .i64 (q : Int)]) ∧ Below wq.heap.size wq w' by
        intro wq _; have := withoutA_any i j p q wq (by omega) (by omega); rw [← EJ.out] at this; exact this)
      have HV := Lib.hid (show ∀ wq : World, TG D oa ob ca cb wB xs ys k L wq → Calls Try.prog 164 #[(.agg #[.int .i64 (i : Int), .int .i64 (j : Int), .int .i64 (p : Int), .int .i64 (q : Int)])] wq fun e w' => e = .returned (.agg #[.int .i64 (i : Int), .int .i64 (j : Int), .int .i64 (p : Int), .int .i64 (q1 : Int)]) ∧ Below wq.heap.size wq w' by
        intro wq _; have := withoutB_any i j p q wq (by omega) (by omega); rw [← EQ.out] at this; exact this)
      have CM := Lib.hid (fun (wq : World) (hp : TG D oa ob ca cb wB xs ys k L wq) => match_any D oa ob ca cb wB xs ys k s HX.out HY.out HS.out i j p q L wq e1 hj e2 hq (by omega) hL hp)
      rw [← hD0] at CD
      rw [← hX] at bX CX
      rw [← hY] at bY CY
      rw [← hdv] at bD CE
      rw [← hiv] at bI CI
      have QA := Lib.hid (show (D0 = X + dv) ↔ RR xs ys k i j p q = RR xs ys k i (j - 1) p q + Co.del k (Tr.xa xs (j - 1)) by rw [hD0, hX, hdv, EJ.out])
      have QB := Lib.hid (show (D0 = Y + iv) ↔ RR xs ys k i j p q = RR xs ys k i j p (q - 1) + Co.ins k (Tr.xa ys (q - 1)) by rw [hD0, hY, hiv, EQ.out])
      have a1 : IntKind.i64.wrap ((j : Int) - 1) = (j1 : Int) := by rw [Kit.w64 (by omega) (by omega)]; omega
      have a2 : IntKind.i64.wrap ((q : Int) - 1) = (q1 : Int) := by rw [Kit.w64 (by omega) (by omega)]; omega
      have s1 : IntKind.i64.wrap (X + dv) = X + dv := Kit.w64 (by omega) (by omega)
      have s2 : IntKind.i64.wrap (Y + iv) = Y + iv := Kit.w64 (by omega) (by omega)
      have BI := Lib.hid (show i < j ∧ p < q ∧ j ≤ xs.length ∧ q ≤ ys.length ∧ (j - i) + (q - p) < gk ∧ gk ≤ s + 1 ∧ L.length + (q - p) ≤ 1000 by omega)
      clear hD0 hX hY hdv hiv ej eq x24 y24 bX bY bD bI hij hj hpq hq hsum hgs hL e
      go_wp2_with fail
      clear y0 y1 y2 y3
      obtain ⟨wn, hwn⟩ : ∃ x, x = wr.drew := ⟨_, rfl⟩
      have M := Lib.hid (show MQ D oa ob ca cb wB xs ys k L w bb i j p q wn by rw [hwn]; exact M.out.drawn (Drawn.refl _).drew)
      refine wp_region_held_drew (S := (fun wq => (wq.cell? ⟨bb, 0, none⟩ = some (.int .i64 (i : Int)) ∧ wq.cell? ⟨bb, 1, none⟩ = some (.int .i64 (j : Int)) ∧ wq.cell? ⟨bb, 2, none⟩ = some (.int .i64 (p : Int)) ∧ wq.cell? ⟨bb, 3, none⟩ = some (.int .i64 (q : Int)) ∧ wq.cell? ⟨wB.heap.size, 0, none⟩ = some (.pointer (some ⟨D.g, 0, none⟩))) ∧ MQ D oa ob ca cb wB xs ys k L w bb i j p q wq)) (by kernel_rfl) (by rw [← hwn]; exact M.out.on) (fun hHeld => ?_)
      rw [← hwn] at hHeld ⊢
      clear hwn e1 e2 hHeld
      have hHeld := M.out.on
      refine rg_take (i := 0) (v := ?_) rfl (by kernel_rfl) (by kernel_rfl) (by kernel_rfl) (fun _ _ _ h => h) (by rfl) ?_ (by assumption) ?_
      rotate_left
      · intro w hSw
        (try dsimp only at hSw)
        go_simp
        (try with_reducible rfl)
      (try simp only [Act.put, List.setIfInBounds_toArray, List.set_cons_zero, List.set_cons_succ])
      refine rg_take (i := 1) (v := ?_) rfl (by kernel_rfl) (by kernel_rfl) (by kernel_rfl) (fun _ _ _ h => h) (by rfl) ?_ (by assumption) ?_
      rotate_left
      · intro w hSw
        (try dsimp only at hSw)
        go_simp
        (try with_reducible rfl)
      (try simp only [Act.put, List.setIfInBounds_toArray, List.set_cons_zero, List.set_cons_succ])
      refine rg_take (i := 2) (v := ?_) rfl (by kernel_rfl) (by kernel_rfl) (by kernel_rfl) (fun _ _ _ h => h) (by rfl) ?_ (by assumption) ?_
      rotate_left
      · intro w hSw
        (try dsimp only at hSw)
        go_simp
        (try with_reducible rfl)
      (try simp only [Act.put, List.setIfInBounds_toArray, List.set_cons_zero, List.set_cons_succ])
      refine rg_take (i := 3) (v := ?_) rfl (by kernel_rfl) (by kernel_rfl) (by kernel_rfl) (fun _ _ _ h => h) (by rfl) ?_ (by assumption) ?_
      rotate_left
      · intro w hSw
        (try dsimp only at hSw)
        go_simp
        (try with_reducible rfl)
      (try simp only [Act.put, List.setIfInBounds_toArray, List.set_cons_zero, List.set_cons_succ])
      refine rg_take (i := 4) (v := ?_) rfl (by kernel_rfl) (by kernel_rfl) (by kernel_rfl) (fun _ _ _ h => h) (by rfl) ?_ (by assumption) ?_
      rotate_left
      · intro w hSw
        (try dsimp only at hSw)
        go_simp
        (try with_reducible rfl)
      (try simp only [Act.put, List.setIfInBounds_toArray, List.set_cons_zero, List.set_cons_succ])
      refine wpAnyH_ready (rs := [5]) (by kernel_rfl) (by simp) ?_
      refine AllReadyH.cons rfl (fun K hK => ?_) ?_
      · go_simp
        go_at_call 162
        refine (CD.out _ M.out.1).mono ?_
        rintro e wz ⟨rfl, hk5⟩
        have M := Lib.hid (M.out.dist hk5)
        clear hk5
        go_wp2_with fail
        refine hK.out _ _ M.out.on (fun hHeld => ?_)
        clear hK K
        (try simp only [Act.put, List.setIfInBounds_toArray, List.set_cons_zero, List.set_cons_succ])
        refine wpAnyH_done (by kernel_rfl) ?_ _
        go_wp2_with fail
        have S0 := Lib.hid (show (wz.drew.cell? ⟨bb, 0, none⟩ = some (.int .i64 (i : Int)) ∧ wz.drew.cell? ⟨bb, 1, none⟩ = some (.int .i64 (j : Int)) ∧ wz.drew.cell? ⟨bb, 2, none⟩ = some (.int .i64 (p : Int)) ∧ wz.drew.cell? ⟨bb, 3, none⟩ = some (.int .i64 (q : Int)) ∧ wz.drew.cell? ⟨wB.heap.size, 0, none⟩ = some (.pointer (some ⟨D.g, 0, none⟩))) ∧ MQ D oa ob ca cb wB xs ys k L w bb i j p q wz.drew from (M.out.drawn (Drawn.refl _).drew).on)
        have A2 := Lib.hid a2
        have S2 := Lib.hid s2
        clear a2 s2
        (try clear hHeld)
        by_cases ca : D0 = X + dv
        · have c1 : (D0 == X + dv) = true := by simpa using ca
          have HN := Lib.hid (show Bm.go (Bm.cP xs ys) xs ys k i j1 p q = G from by rw [← HGO.out, EJ.out]; exact (Bm.go_del BI.out.1 BI.out.2.1 (QA.out.1 ca)).symm)
          clear ca
          go_region_held3 (fun wq => (wq.cell? ⟨bb, 0, none⟩ = some (.int .i64 (i : Int)) ∧ wq.cell? ⟨bb, 1, none⟩ = some (.int .i64 (j : Int)) ∧ wq.cell? ⟨bb, 2, none⟩ = some (.int .i64 (p : Int)) ∧ wq.cell? ⟨bb, 3, none⟩ = some (.int .i64 (q : Int)) ∧ wq.cell? ⟨wB.heap.size, 0, none⟩ = some (.pointer (some ⟨D.g, 0, none⟩))) ∧ MQ D oa ob ca cb wB xs ys k L w bb i j p q wq) (first | (with_reducible exact SC) | (with_reducible exact S0.out)) (first | ((go_at_call 163; with_reducible refine (HW.out _ (mq_tg (by assumption))).mono ?_); rintro e w5 ⟨rfl, hk5⟩; have SC := mq_next (by assumption) hk5) | ((go_at_call 152; with_reducible refine (CE.out _ (mq_tg (by assumption))).mono ?_); rintro e w5 ⟨rfl, hk5⟩; have SC := mq_drawn (by assumption) hk5) | ((go_at_call 162; with_reducible refine (CX.out _ (mq_tg (by assumption))).mono ?_); rintro e w5 ⟨rfl, hk5⟩; have SC := mq_dist (by assumption) hk5))
          clear a1 s1
          obtain ⟨wv, hwv⟩ : ∃ x, x = w5 := ⟨_, rfl⟩
          rw [← hwv] at SC ⊢
          clear hwv
          have M := Lib.hid (mq_of SC)
          clear SC S0
          obtain ⟨y0, y1, y2, y3⟩ := M.out.2.2.cells
          go_wp2_with fail
          clear y0 y1 y2 y3
          refine (HW.out _ M.out.1).mono ?_
          rintro e w6 ⟨rfl, hk6⟩
          have M := Lib.hid (M.out.below hk6)
          clear hk6
          obtain ⟨y0, y1, y2, y3⟩ := M.out.2.2.cells
          obtain ⟨f0, f1, f2, f3⟩ := M.out.2.2.froz
          go_wp2
          go_roundg (gk - 1)
          case measure => have := BI.out; omega
          case rel => exact ⟨i, j1, p, q, by have := BI.out; have := EJ.out; omega, by have := BI.out; have := EJ.out; omega, by have := BI.out; omega, BI.out.2.2.2.1, by have := BI.out; have := EJ.out; omega, by have := BI.out; omega, BI.out.2.2.2.2.2.2, HN.out, M.out.over SB.out.1 SB.out.2 _ _ _ _⟩
        · have c1 : (D0 == X + dv) = false := by simpa using ca
          have HCA := Lib.hid (fun h => ca (QA.out.2 h))
          clear ca
          by_cases cb : D0 = Y + iv
          · have c2 : (D0 == Y + iv) = true := by simpa using cb
            have HN := Lib.hid (show Bm.go (Bm.cP xs ys) xs ys k i j p q1 = G from by rw [← HGO.out, EQ.out]; exact (Bm.go_ins BI.out.1 BI.out.2.1 HCA.out (QB.out.1 cb)).symm)
            clear cb
            go_region_held3 (fun wq => (wq.cell? ⟨bb, 0, none⟩ = some (.int .i64 (i : Int)) ∧ wq.cell? ⟨bb, 1, none⟩ = some (.int .i64 (j : Int)) ∧ wq.cell? ⟨bb, 2, none⟩ = some (.int .i64 (p : Int)) ∧ wq.cell? ⟨bb, 3, none⟩ = some (.int .i64 (q : Int)) ∧ wq.cell? ⟨wB.heap.size, 0, none⟩ = some (.pointer (some ⟨D.g, 0, none⟩))) ∧ MQ D oa ob ca cb wB xs ys k L w bb i j p q wq) (first | (with_reducible exact SC) | (with_reducible exact S0.out)) (first | ((go_at_call 163; with_reducible refine (HW.out _ (mq_tg (by assumption))).mono ?_); rintro e w5 ⟨rfl, hk5⟩; have SC := mq_next (by assumption) hk5) | ((go_at_call 152; with_reducible refine (CE.out _ (mq_tg (by assumption))).mono ?_); rintro e w5 ⟨rfl, hk5⟩; have SC := mq_drawn (by assumption) hk5) | ((go_at_call 162; with_reducible refine (CX.out _ (mq_tg (by assumption))).mono ?_); rintro e w5 ⟨rfl, hk5⟩; have SC := mq_dist (by assumption) hk5))
            clear a1 s1
            obtain ⟨wv, hwv⟩ : ∃ x, x = w5 := ⟨_, rfl⟩
            rw [← hwv] at SC ⊢
            clear hwv
            have M := Lib.hid (mq_of SC)
            clear SC S0
            have a2 := A2.out
            have s2 := S2.out
            go_wp2_with fail
            have S0 := Lib.hid (show (wv.drew.cell? ⟨bb, 0, none⟩ = some (.int .i64 (i : Int)) ∧ wv.drew.cell? ⟨bb, 1, none⟩ = some (.int .i64 (j : Int)) ∧ wv.drew.cell? ⟨bb, 2, none⟩ = some (.int .i64 (p : Int)) ∧ wv.drew.cell? ⟨bb, 3, none⟩ = some (.int .i64 (q : Int)) ∧ wv.drew.cell? ⟨wB.heap.size, 0, none⟩ = some (.pointer (some ⟨D.g, 0, none⟩))) ∧ MQ D oa ob ca cb wB xs ys k L w bb i j p q wv.drew from (M.out.drawn (Drawn.refl _).drew).on)
            go_region_held3 (fun wq => (wq.cell? ⟨bb, 0, none⟩ = some (.int .i64 (i : Int)) ∧ wq.cell? ⟨bb, 1, none⟩ = some (.int .i64 (j : Int)) ∧ wq.cell? ⟨bb, 2, none⟩ = some (.int .i64 (p : Int)) ∧ wq.cell? ⟨bb, 3, none⟩ = some (.int .i64 (q : Int)) ∧ wq.cell? ⟨wB.heap.size, 0, none⟩ = some (.pointer (some ⟨D.g, 0, none⟩))) ∧ MQ D oa ob ca cb wB xs ys k L w bb i j p q wq) (first | (with_reducible exact SC) | (with_reducible exact S0.out)) (first | ((go_at_call 164; with_reducible refine (HV.out _ (mq_tg (by assumption))).mono ?_); rintro e w5 ⟨rfl, hk5⟩; have SC := mq_next (by assumption) hk5) | ((go_at_call 153; with_reducible refine (CI.out _ (mq_tg (by assumption))).mono ?_); rintro e w5 ⟨rfl, hk5⟩; have SC := mq_drawn (by assumption) hk5) | ((go_at_call 162; with_reducible refine (CY.out _ (mq_tg (by assumption))).mono ?_); rintro e w5 ⟨rfl, hk5⟩; have SC := mq_dist (by assumption) hk5))
            clear a2 s2
            obtain ⟨wv, hwv⟩ : ∃ x, x = w5 := ⟨_, rfl⟩
            rw [← hwv] at SC ⊢
            clear hwv
            have M := Lib.hid (mq_of SC)
            clear SC S0
            obtain ⟨y0, y1, y2, y3⟩ := M.out.2.2.cells
            go_wp2_with fail
            clear y0 y1 y2 y3
            refine (HV.out _ M.out.1).mono ?_
            rintro e w6 ⟨rfl, hk6⟩
            have M := Lib.hid (M.out.below hk6)
            clear hk6
            obtain ⟨y0, y1, y2, y3⟩ := M.out.2.2.cells
            obtain ⟨f0, f1, f2, f3⟩ := M.out.2.2.froz
            go_wp2
            go_roundg (gk - 1)
            case measure => have := BI.out; omega
            case rel => exact ⟨i, j, p, q1, by have := BI.out; omega, BI.out.2.2.1, by have := BI.out; have := EQ.out; omega, by have := BI.out; have := EQ.out; omega, by have := BI.out; have := EQ.out; omega, by have := BI.out; omega, by have := BI.out; have := EQ.out; omega, HN.out, M.out.over SB.out.1 SB.out.2 _ _ _ _⟩
          · have c2 : (D0 == Y + iv) = false := by simpa using cb
            have HN := Lib.hid (show Bm.mt (Bm.cP xs ys) xs ys k i j p q = G from by rw [← HGO.out]; exact (Bm.go_both HX.out HY.out BI.out.1 BI.out.2.1 BI.out.2.2.1 BI.out.2.2.2.1 HCA.out (fun h => cb (QB.out.2 h))).symm)
            clear cb
            go_region_held3 (fun wq => (wq.cell? ⟨bb, 0, none⟩ = some (.int .i64 (i : Int)) ∧ wq.cell? ⟨bb, 1, none⟩ = some (.int .i64 (j : Int)) ∧ wq.cell? ⟨bb, 2, none⟩ = some (.int .i64 (p : Int)) ∧ wq.cell? ⟨bb, 3, none⟩ = some (.int .i64 (q : Int)) ∧ wq.cell? ⟨wB.heap.size, 0, none⟩ = some (.pointer (some ⟨D.g, 0, none⟩))) ∧ MQ D oa ob ca cb wB xs ys k L w bb i j p q wq) (first | (with_reducible exact SC) | (with_reducible exact S0.out)) (first | ((go_at_call 163; with_reducible refine (HW.out _ (mq_tg (by assumption))).mono ?_); rintro e w5 ⟨rfl, hk5⟩; have SC := mq_next (by assumption) hk5) | ((go_at_call 152; with_reducible refine (CE.out _ (mq_tg (by assumption))).mono ?_); rintro e w5 ⟨rfl, hk5⟩; have SC := mq_drawn (by assumption) hk5) | ((go_at_call 162; with_reducible refine (CX.out _ (mq_tg (by assumption))).mono ?_); rintro e w5 ⟨rfl, hk5⟩; have SC := mq_dist (by assumption) hk5))
            clear a1 s1
            obtain ⟨wv, hwv⟩ : ∃ x, x = w5 := ⟨_, rfl⟩
            rw [← hwv] at SC ⊢
            clear hwv
            have M := Lib.hid (mq_of SC)
            clear SC S0
            have a2 := A2.out
            have s2 := S2.out
            go_wp2_with fail
            have S0 := Lib.hid (show (wv.drew.cell? ⟨bb, 0, none⟩ = some (.int .i64 (i : Int)) ∧ wv.drew.cell? ⟨bb, 1, none⟩ = some (.int .i64 (j : Int)) ∧ wv.drew.cell? ⟨bb, 2, none⟩ = some (.int .i64 (p : Int)) ∧ wv.drew.cell? ⟨bb, 3, none⟩ = some (.int .i64 (q : Int)) ∧ wv.drew.cell? ⟨wB.heap.size, 0, none⟩ = some (.pointer (some ⟨D.g, 0, none⟩))) ∧ MQ D oa ob ca cb wB xs ys k L w bb i j p q wv.drew from (M.out.drawn (Drawn.refl _).drew).on)
            go_region_held3 (fun wq => (wq.cell? ⟨bb, 0, none⟩ = some (.int .i64 (i : Int)) ∧ wq.cell? ⟨bb, 1, none⟩ = some (.int .i64 (j : Int)) ∧ wq.cell? ⟨bb, 2, none⟩ = some (.int .i64 (p : Int)) ∧ wq.cell? ⟨bb, 3, none⟩ = some (.int .i64 (q : Int)) ∧ wq.cell? ⟨wB.heap.size, 0, none⟩ = some (.pointer (some ⟨D.g, 0, none⟩))) ∧ MQ D oa ob ca cb wB xs ys k L w bb i j p q wq) (first | (with_reducible exact SC) | (with_reducible exact S0.out)) (first | ((go_at_call 164; with_reducible refine (HV.out _ (mq_tg (by assumption))).mono ?_); rintro e w5 ⟨rfl, hk5⟩; have SC := mq_next (by assumption) hk5) | ((go_at_call 153; with_reducible refine (CI.out _ (mq_tg (by assumption))).mono ?_); rintro e w5 ⟨rfl, hk5⟩; have SC := mq_drawn (by assumption) hk5) | ((go_at_call 162; with_reducible refine (CY.out _ (mq_tg (by assumption))).mono ?_); rintro e w5 ⟨rfl, hk5⟩; have SC := mq_dist (by assumption) hk5))
            clear a2 s2
            obtain ⟨wv, hwv⟩ : ∃ x, x = w5 := ⟨_, rfl⟩
            rw [← hwv] at SC ⊢
            clear hwv
            have M := Lib.hid (mq_of SC)
            clear SC S0
            obtain ⟨y0, y1, y2, y3⟩ := M.out.2.2.cells
            go_wp2_with fail
            clear y0 y1 y2 y3
            refine (CM.out _ M.out.1).mono ?_
            rintro e w6 ⟨rfl, hT6, hS6⟩
            have FT := Lib.hid (show TG D oa ob ca cb wB xs ys k (L ++ G) w6 by rw [← HN.out]; exact hT6)
            have FS := Lib.hid (M.out.2.1.trans hS6)
            clear hT6 hS6
            go_wp2
            refine bodyPost_ret (results_none rfl _ _ _) rfl ?_
            exact ⟨rfl, FT.out, FS.out⟩

      exact AllReadyH.nil
theorem trace_any (D : D10) (oa ob : Addr) (ca cb : Nat) (wB : World) (xs ys : Tr) (k : Co) (hx : Tr.ok xs = true) (hy : Tr.ok ys = true) (hk : Co.ok k = true) : ∀ s, SaysT D oa ob ca cb wB xs ys k s := by
  intro s
  induction s with
  | zero => intro i j p q L w _ _ _ _ h; omega
  | succ s ih => exact trace_step D oa ob ca cb wB xs ys k s hx hy hk ih

end Go.Proofs.Ytgkkeejhfofcaaa
