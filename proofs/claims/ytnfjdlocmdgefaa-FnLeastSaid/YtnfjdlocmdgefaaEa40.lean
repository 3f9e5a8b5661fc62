/- Texts of one claim laid into one file, in build order: Lea, ExLea. -/
import Derived.Test.YtnfjdlocmdgefaaEa39
/- Contracts (Lea). -/
namespace Go.Proofs.Ytnfjdlocmdgefaa
open Go.RowKit
set_option linter.unusedVariables false


set_option maxHeartbeats 800000 in
set_option maxRecDepth 100000 in
theorem least_any (k : Code) (w : World) (hcode : CodeIn w w.heap.size k.a k.cs) (hlen : k.cs.length ≤ 1048576) :
    Calls Try.prog 3 #[.slice k.a k.cs.length k.cap] w fun e w' => e = .returned (.bool true) ∧ Below w.heap.size w w' := by
  have HC := Lib.hid hcode
  clear hcode
  go_enter Try.func3, Try.ntmps3
  go_wp2_with fail
  refine (big_small _ _ _ (by omega) _).mono ?_
  rintro e w0 ⟨rfl, rfl⟩
  go_wp2_with fail
  refine (l8DrawLeastCost_ex w k HC.out hlen).mono ?_
  rintro e w1 ⟨xs, ys, A, A', n, n', cp, cp', h0, h2, c0, c2, A1, n1, q1, K, rfl, ha, hb, hcp, hcp', hn, hn', hn1, hk, hbl⟩
  obtain ⟨wa, hwa⟩ : ∃ wb, wb = w1.alloc (.cells #[.slice (some ⟨h0, 0, none⟩) 6 c0, .slice A1 n1 q1, .slice (some ⟨h2, 0, none⟩) 36 c2] 27) := ⟨_, rfl⟩
  have hba : Below w1.heap.size w1 wa := by rw [hwa]; exact (Below.refl _ _).alloc (Nat.le_refl _) _
  have hN1 : n1 ≤ 1048576 := by rcases hn1 with h | h <;> omega
  have hs0 : n ≤ 1048576 := by omega
  have hs1 : n' ≤ 1048576 := by omega
  have HQ := Lib.hid (show Box3 wa w1.heap.size (.slice (some ⟨h0, 0, none⟩) 6 c0) (.slice A1 n1 q1) (.slice (some ⟨h2, 0, none⟩) 36 c2) by rw [hwa]; exact Box3.made _ _ _ _ _)
  have hsz : w1.heap.size < wa.heap.size := by rw [hwa]; simp
  obtain ⟨R, hR⟩ : ∃ R, R = Am.all xs ys := ⟨_, rfl⟩
  have hR1 : R.length ≤ 3125 := by rw [hR]; exact Am.all_len
  have CM := Lib.hid ((implMapsOf_rows (c := cp) (c' := cp') R hR wa (ha.to_below hba) (hb.to_below hba) hs0 hs1 hcp hcp').mono (R' := fun e w' => ∃ Av cv, e = .returned (.slice Av R.length cv) ∧ Hid (∃ vs, Lst A A' A1 n n' h0 h2 c0 c2 n1 q1 xs ys K w1.heap.size (.slice Av R.length cv) vs R w w')) (by
    rintro e w' ⟨Av, cv, rfl, ho, hb'⟩
    obtain ⟨vs, ho⟩ := ho.out
    exact ⟨Av, cv, rfl, Lib.hid ⟨vs, (ha.to_below hba).to_below hb', (hb.to_below hba).to_below hb', (hk.to_below hba).to_below hb', HQ.out.below hb' hsz, Nat.lt_of_lt_of_le hsz hb'.size, ho.1.lower (Nat.zero_le _), (hbl.trans (hba.mono hbl.size)).trans (hb'.mono (hbl.trans (hba.mono hbl.size)).size)⟩⟩))
  have L0 := Lib.hid ha.1
  have L1 := Lib.hid hb.1
  have Hwa := Lib.hid hwa
  have HR := Lib.hid hR
  have HR1 := Lib.hid hR1
  clear ha hb hk hbl hba hwa hR hR1 hsz HC
  obtain ⟨r0, r1, r2⟩ := HQ.out
  rw [Hwa.out] at r0 r1 r2
  go_wp2_with fail
  clear r0 r1 r2
  rw [← Hwa.out]
  refine CM.out.mono ?_
  rintro e wb ⟨Av, cv, rfl, hst⟩
  obtain ⟨vs, hst⟩ := hst.out
  have HS := Lib.hid hst
  clear hst CM Hwa HQ
  obtain ⟨r0, r1, r2⟩ := HS.out.2.2.2.1
  go_wp2_with fail
  clear r0 r1 r2
  obtain ⟨lv, hlv⟩ : ∃ lv, lv = Am.least xs ys K := ⟨_, rfl⟩
  have CL := Lib.hid ((implLeastCost_any A A' (some ⟨h0, 0, none⟩) A1 (some ⟨h2, 0, none⟩) n n' 6 n1 36 cp cp' c0 q1 c2 xs ys K _ HS.out.1 HS.out.2.1 HS.out.2.2.1 hs0 hs1 (by decide) hN1 (by decide) hcp hcp').mono (R' := fun e w' => e = .returned (.int .i64 lv) ∧ Hid (Lst A A' A1 n n' h0 h2 c0 c2 n1 q1 xs ys K w1.heap.size (.slice Av R.length cv) vs R w w')) (by
    rintro e wc ⟨rfl, hbb⟩
    exact ⟨by rw [hlv], Lib.hid (HS.out.below hbb)⟩))
  have T1 := Lib.hid (fun (wq : World) (h : Lst A A' A1 n n' h0 h2 c0 c2 n1 q1 xs ys K w1.heap.size (.slice Av R.length cv) vs R w wq) => (specTreeOk_any A n cp xs wq h.1 hs0).mono (R' := fun e w' => e = .returned (.bool (Tr.ok xs)) ∧ Hid (Lst A A' A1 n n' h0 h2 c0 c2 n1 q1 xs ys K w1.heap.size (.slice Av R.length cv) vs R w w')) (by
    rintro e w' ⟨rfl, hd⟩
    exact ⟨rfl, Lib.hid (h.below hd.toBelow)⟩))
  have T2 := Lib.hid (fun (wq : World) (h : Lst A A' A1 n n' h0 h2 c0 c2 n1 q1 xs ys K w1.heap.size (.slice Av R.length cv) vs R w wq) => (specTreeOk_any A' n' cp' ys wq h.2.1 hs1).mono (R' := fun e w' => e = .returned (.bool (Tr.ok ys)) ∧ Hid (Lst A A' A1 n n' h0 h2 c0 c2 n1 q1 xs ys K w1.heap.size (.slice Av R.length cv) vs R w w')) (by
    rintro e w' ⟨rfl, hd⟩
    exact ⟨rfl, Lib.hid (h.below hd.toBelow)⟩))
  have C3 := Lib.hid (fun (wq : World) (h : Lst A A' A1 n n' h0 h2 c0 c2 n1 q1 xs ys K w1.heap.size (.slice Av R.length cv) vs R w wq) => (specCostOk_any (some ⟨h0, 0, none⟩) A1 (some ⟨h2, 0, none⟩) 6 n1 36 c0 q1 c2 K wq h.2.2.1 (by decide) hN1 (by decide)).mono (R' := fun e w' => e = .returned (.bool (Co.ok K)) ∧ Hid (Lst A A' A1 n n' h0 h2 c0 c2 n1 q1 xs ys K w1.heap.size (.slice Av R.length cv) vs R w w')) (by
    rintro e w' ⟨rfl, hd⟩
    exact ⟨rfl, Lib.hid (h.below hd)⟩))
  obtain ⟨d, hd⟩ : ∃ d, d = Tr.rootDist xs ys K := ⟨_, rfl⟩
  have C4r := Lib.hid (fun (wq : World) (h : Lst A A' A1 n n' h0 h2 c0 c2 n1 q1 xs ys K w1.heap.size (.slice Av R.length cv) vs R w wq) => (implRootDist_any (c := cp) (c' := cp') (c0 := c0) (c1 := q1) (c2 := c2) (ha := h.1) (hb := h.2.1) (hk := h.2.2.1) (hn := hs0) (hn' := hs1) (h0 := (by decide)) (h1 := hN1) (h2 := (by decide)) (hc := hcp) (hc' := hcp')).mono (R' := fun e w' => e = .returned (.int .i64 d) ∧ Hid (Lst A A' A1 n n' h0 h2 c0 c2 n1 q1 xs ys K w1.heap.size (.slice Av R.length cv) vs R w w')) (by
    rintro e w' ⟨rfl, hb⟩
    exact ⟨by rw [hd], Lib.hid (h.below hb)⟩))
  refine CL.out.mono ?_
  rintro e wc ⟨rfl, HS2⟩
  clear CL HS
  have HLV := Lib.hid hlv
  have HD := Lib.hid hd
  have FX := Lib.hid (show few xs = (decide (n ≤ 5) && Tr.ok xs) by unfold few; rw [L0.out])
  have FY := Lib.hid (show few ys = (decide (n' ≤ 5) && Tr.ok ys) by unfold few; rw [L1.out])
  clear hlv hd
  cases hcx : Tr.ok xs with
  | false =>
    have fx : few xs = false := by rw [FX.out, hcx, Bool.and_false]
    have y0 : R.length = 0 := by rw [HR.out, Am.all_few_a fx]; rfl
    have y2 : ((R.length : Int) == 0) = true := by rw [y0]; rfl
    have y1 : (lv == -1) = true := by rw [HLV.out, least_no (by rw [fx]; rfl)]; rfl
    clear y0
    rw [hcx] at T1
    clear hcx fx T2 C3 C4r
    go_wp2_with (go_at_call 10; refine (T1.out _ HS2.out).mono ?_; rintro e wx ⟨rfl, HS3⟩)
    go_ret
    exact ⟨rfl, HS3.out.2.2.2.2.2.2⟩
  | true =>
    cases hcy : Tr.ok ys with
    | false =>
      have fy : few ys = false := by rw [FY.out, hcy, Bool.and_false]
      have y0 : R.length = 0 := by rw [HR.out, Am.all_few_b fy]; rfl
      have y2 : ((R.length : Int) == 0) = true := by rw [y0]; rfl
      have y1 : (lv == -1) = true := by rw [HLV.out, least_no (by rw [fy, Bool.and_false]; rfl)]; rfl
      clear y0
      rw [hcx] at T1
      rw [hcy] at T2
      clear hcx hcy fy C3 C4r
      go_wp2_with (go_at_call 10; first | (refine (T1.out _ HS2.out).mono ?_; clear T1; rintro e wx ⟨rfl, HS3⟩) | (refine (T2.out _ HS3.out).mono ?_; rintro e wy ⟨rfl, HS4⟩; obtain ⟨r0, r1, r2⟩ := HS4.out.2.2.2.1))
      go_ret
      exact ⟨rfl, HS4.out.2.2.2.2.2.2⟩
    | true =>
      by_cases h5 : n ≤ 5
      rotate_left
      · have fx : few xs = false := by rw [FX.out, decide_eq_false h5]; rfl
        have y0 : R.length = 0 := by rw [HR.out, Am.all_few_a fx]; rfl
        have y2 : ((R.length : Int) == 0) = true := by rw [y0]; rfl
        have y1 : (lv == -1) = true := by rw [HLV.out, least_no (by rw [fx]; rfl)]; rfl
        clear y0
        have z1 : decide ((5 : Int) < (n : Int)) = true := by simp; omega
        rw [hcx] at T1
        rw [hcy] at T2
        clear hcx hcy fx C3 C4r
        go_wp2_with (go_at_call 10; first | (refine (T1.out _ HS2.out).mono ?_; clear T1; rintro e wx ⟨rfl, HS3⟩) | (refine (T2.out _ HS3.out).mono ?_; rintro e wy ⟨rfl, HS4⟩; obtain ⟨r0, r1, r2⟩ := HS4.out.2.2.2.1))
        go_ret
        exact ⟨rfl, HS4.out.2.2.2.2.2.2⟩
      by_cases h6 : n' ≤ 5
      rotate_left
      · have fy : few ys = false := by rw [FY.out, decide_eq_false h6]; rfl
        have y0 : R.length = 0 := by rw [HR.out, Am.all_few_b fy]; rfl
        have y2 : ((R.length : Int) == 0) = true := by rw [y0]; rfl
        have y1 : (lv == -1) = true := by rw [HLV.out, least_no (by rw [fy, Bool.and_false]; rfl)]; rfl
        clear y0
        have z1 : decide ((5 : Int) < (n : Int)) = false := by simp; omega
        have z2 : decide ((5 : Int) < (n' : Int)) = true := by simp; omega
        rw [hcx] at T1
        rw [hcy] at T2
        clear hcx hcy fy C3 C4r
        go_wp2_with (go_at_call 10; first | (refine (T1.out _ HS2.out).mono ?_; clear T1; rintro e wx ⟨rfl, HS3⟩) | (refine (T2.out _ HS3.out).mono ?_; rintro e wy ⟨rfl, HS4⟩; obtain ⟨r0, r1, r2⟩ := HS4.out.2.2.2.1))
        go_ret
        exact ⟨rfl, HS4.out.2.2.2.2.2.2⟩
      have fx : few xs = true := by rw [FX.out, hcx, decide_eq_true h5]; rfl
      have fy : few ys = true := by rw [FY.out, hcy, decide_eq_true h6]; rfl
      have z1 : decide ((5 : Int) < (n : Int)) = false := by simp; omega
      have z2 : decide ((5 : Int) < (n' : Int)) = false := by simp; omega
      rw [hcx] at T1
      rw [hcy] at T2
      have hpos : 1 ≤ R.length := by rw [HR.out]; exact all_pos fx fy
      cases hcok : Co.ok K with
      | false =>
        have y1 : (lv == -1) = true := by rw [HLV.out, least_no (by rw [hcok, Bool.and_false])]; rfl
        have y2 : decide ((0 : Int) < (R.length : Int)) = true := by simp; omega
        have y3 : decide (0 < R.length) = true := by simp; omega
        rw [hcok] at C3
        clear hcx hcy hcok C4r fx fy
        go_wp2_with (first
          | (go_at_call 10; first | (refine (T1.out _ HS2.out).mono ?_; clear T1; rintro e wx ⟨rfl, HS3⟩) | (refine (T2.out _ HS3.out).mono ?_; rintro e wy ⟨rfl, HS4⟩; obtain ⟨r0, r1, r2⟩ := HS4.out.2.2.2.1))
          | (go_at_call 11; refine (C3.out _ HS4.out).mono ?_; rintro e wz ⟨rfl, HS5⟩))
        go_ret
        exact ⟨rfl, HS5.out.2.2.2.2.2.2⟩
      | true =>
        have hld : lv = d := by rw [HLV.out, HD.out]; exact least_yes fx fy hcok
        subst hld
        have EA := Lib.hid (fun i (hi : i < R.length) => show Mp.ok xs ys (R.getD i []) = true ∧ Tr.rooted (R.getD i []) = true ∧ lv ≤ Mp.cost xs ys K (R.getD i []) ∧ (R.getD i []).length ≤ 24 by
          rw [HD.out]
          have := least_each (xs := xs) (ys := ys) (K := K) (i := i) (by rw [← HR.out]; exact hi) hcok
          rw [← HR.out] at this
          exact this)
        have EM := Lib.hid (show Am.met xs ys K lv R R.length = true by
          obtain ⟨i, hi, e⟩ := least_met fx fy hcok
          rw [← HR.out] at hi e
          exact Am.met_of (by rw [HD.out]; exact e) _ hi)
        have CS := Lib.hid (fun (wq : World) (h : Lst A A' A1 n n' h0 h2 c0 c2 n1 q1 xs ys K w1.heap.size (.slice Av R.length cv) vs R w wq) => (specMapsOf_rows (c := cp) (c' := cp') R HR.out wq h.1 h.2.1 hs0 hs1).mono (R' := fun e w' => ∃ Av2 cv2, e = .returned (.slice Av2 R.length cv2) ∧ Hid (Below w.heap.size w w')) (by
          rintro e w' ⟨Av2, cv2, rfl, _, hb⟩
          exact ⟨Av2, cv2, rfl, Lib.hid (h.2.2.2.2.2.2.trans (hb.mono h.2.2.2.2.2.2.size))⟩))
        have HCK := Lib.hid hcok
        rw [hcok] at C3
        have hR3 := HR1.out
        clear hcx hcy hcok fx fy
        go_wp2_with (first
          | (go_at_call 10; first | (refine (T1.out _ HS2.out).mono ?_; clear T1; rintro e wx ⟨rfl, HS3⟩) | (refine (T2.out _ HS3.out).mono ?_; rintro e wy ⟨rfl, HS4⟩; obtain ⟨r0, r1, r2⟩ := HS4.out.2.2.2.1))
          | (go_at_call 11; refine (C3.out _ HS4.out).mono ?_; rintro e wz ⟨rfl, HS5⟩; obtain ⟨r3, r4, r5⟩ := HS5.out.2.2.2.1)
          | (go_at_call 12; refine (C4r.out _ HS5.out).mono ?_; clear r3 r4 r5; rintro e wd ⟨rfl, HS6⟩))
        go_loopw [10, 9] (fun iv mv wr => ∃ i : Nat, i ≤ R.length ∧ iv = .int .i64 (i : Int) ∧ Hid (mv = .bool (Am.met xs ys K lv R i) ∧ Lst A A' A1 n n' h0 h2 c0 c2 n1 q1 xs ys K w1.heap.size (.slice Av R.length cv) vs R w wr)) (fun iv _ _ => R.length - (intOf iv).toNat)
        case atStart => exact ⟨0, Nat.zero_le _, rfl, Lib.hid ⟨rfl, HS6.out⟩⟩
        case round =>
          obtain ⟨i, hi, hiv, hr⟩ := hrel
          subst hiv
          have hmv := hr.out.1
          by_cases hlt : i < R.length
          · obtain ⟨o1, o2, o3, o4⟩ := EA.out i hlt
            have HT := hr.out.2
            obtain ⟨g, Ai, ci, rfl, _, _, k3, r1⟩ := HT.2.2.2.2.2.1.cell rfl hlt
            obtain ⟨b0, b1, b2⟩ := HT.2.2.2.1
            obtain ⟨q, hq⟩ : ∃ q, q = Mp.cost xs ys K (R.getD i []) := ⟨_, rfl⟩
            obtain ⟨li, hli⟩ : ∃ li, li = (R.getD i []).length := ⟨_, rfl⟩
            have QM := Lib.hid (fun (wq : World) (hb : Below wr.heap.size wr wq) => show Calls Try.prog 13 #[.slice A n cp, .slice A' n' cp', .agg #[.slice (some ⟨h0, 0, none⟩) 6 c0, .slice A1 n1 q1, .slice (some ⟨h2, 0, none⟩) 36 c2], .slice Ai li ci] wq fun e w' => e = .returned (.int .i64 q) ∧ Below wq.heap.size wq w' from by
              rw [hli, hq]
              exact implMapCost_any A A' Ai (some ⟨h0, 0, none⟩) A1 (some ⟨h2, 0, none⟩) n n' (R.getD i []).length 6 n1 36 cp cp' ci c0 q1 c2 xs ys _ K wq (HT.1.to_below hb) (HT.2.1.to_below hb) (HT.2.2.1.to_below hb) ((NdIn.of_own r1).to_below hb) hs0 hs1 (by omega) (by decide) hN1 (by decide) hcp hcp' (own_cap r1))
            have QO := Lib.hid (fun (wq : World) (hb : Below wr.heap.size wr wq) => show Calls Try.prog 14 #[.slice A n cp, .slice A' n' cp', .slice Ai li ci] wq fun e w' => e = .returned (.bool true) ∧ Below wr.heap.size wr w' ∧ w'.cell? ⟨g, i, none⟩ = some (.slice Ai li ci) from by
              rw [hli]
              refine (specMapOk_any A A' Ai n n' (R.getD i []).length cp cp' ci xs ys _ wq (HT.1.to_below hb) (HT.2.1.to_below hb) ((NdIn.of_own r1).to_below hb) hs0 hs1 (by omega)).mono ?_
              rintro e w' ⟨rfl, hdr⟩
              rw [o1]
              have hb2 : Below wr.heap.size wr w' := hb.trans (hdr.toBelow.mono hb.size)
              exact ⟨rfl, hb2, (hb2.cell (World.block_lt_of_cell? _ _ k3)).trans k3⟩)
            have QR := Lib.hid (fun (wq : World) (hb : Below wr.heap.size wr wq) => show Calls Try.prog 15 #[.slice Ai li ci] wq fun e w' => e = .returned (.bool true) ∧ Below wr.heap.size wr w' from by
              rw [hli]
              refine (specRootsPaired_any Ai (R.getD i []).length ci _ wq ((NdIn.of_own r1).to_below hb) (by omega)).mono ?_
              rintro e w' ⟨rfl, hdr⟩
              rw [o2]
              exact ⟨rfl, hb.trans (hdr.toBelow.mono hb.size)⟩)
            rw [← hli] at k3
            have S0 := Lib.hid (show ((wr.drew.cell? ⟨w1.heap.size, 0, none⟩ = some (.slice (some ⟨h0, 0, none⟩) 6 c0) ∧ wr.drew.cell? ⟨w1.heap.size, 1, none⟩ = some (.slice A1 n1 q1) ∧ wr.drew.cell? ⟨w1.heap.size, 2, none⟩ = some (.slice (some ⟨h2, 0, none⟩) 36 c2)) ∧ wr.drew.cell? ⟨g, i, none⟩ = some (.slice Ai li ci)) ∧ BelA wr wr.drew from ⟨⟨⟨b0, b1, b2⟩, k3⟩, (Drawn.refl _).drew.toBelow⟩)
            have nlt : decide (q < lv) = false := decide_eq_false (by rw [hq]; omega)
            have HQE := Lib.hid hq
            have HTT := Lib.hid HT
            obtain ⟨mb, hmb⟩ : ∃ mb, mb = Am.met xs ys K lv R i := ⟨_, rfl⟩
            rw [← hmb] at hmv
            have HMB := Lib.hid hmb
            clear hmb
            subst hmv
            clear o1 o2 o3 o4 HT k3 r1 b0 b1 b2 hq hli hr HS6
            have hiI : (i : Int) < (R.length : Int) := by omega
            have hi0 : (0 : Int) ≤ (i : Int) := by omega
            go_wp2_with fail
            go_region_held3 (fun wq => ((wq.cell? ⟨w1.heap.size, 0, none⟩ = some (.slice (some ⟨h0, 0, none⟩) 6 c0) ∧ wq.cell? ⟨w1.heap.size, 1, none⟩ = some (.slice A1 n1 q1) ∧ wq.cell? ⟨w1.heap.size, 2, none⟩ = some (.slice (some ⟨h2, 0, none⟩) 36 c2)) ∧ wq.cell? ⟨g, i, none⟩ = some (.slice Ai li ci)) ∧ BelA wr wq) (first | (with_reducible exact SC) | (with_reducible exact S0.out)) (first | ((go_at_call 13; with_reducible refine (QM.out _ (c4_below (by assumption))).mono ?_); rintro e w5 ⟨rfl, hb5⟩; have SC := c4_keep (by assumption) hb5))
            have HB5 := Lib.hid (c4_below SC)
            have k5 := SC.1.2
            clear SC S0 QM
            cases mb with
            | true =>
              have HNX := Lib.hid (show Am.met xs ys K lv R (i + 1) = true by unfold Am.met; rw [← HMB.out]; rfl)
              go_wp2_with (first
                | (go_at_call 14; refine (QO.out _ HB5.out).mono ?_; rintro e w6 ⟨rfl, hb6, k6⟩; have HB6 := Lib.hid hb6; clear hb6)
                | (go_at_call 15; refine (QR.out _ HB6.out).mono ?_; rintro e w7 ⟨rfl, hb7⟩; have HB7 := Lib.hid hb7; clear hb7))
              go_roundw
              case rel => exact ⟨i + 1, by omega, by go_num, Lib.hid ⟨by rw [HNX.out], HTT.out.below HB7.out⟩⟩
              case measure => simp [intOf]; omega
            | false =>
              have HNX := Lib.hid (show Am.met xs ys K lv R (i + 1) = (q == lv) by unfold Am.met; rw [← HMB.out, HQE.out]; rfl)
              go_wp2_with (first
                | (go_at_call 14; refine (QO.out _ HB5.out).mono ?_; rintro e w6 ⟨rfl, hb6, k6⟩; have HB6 := Lib.hid hb6; clear hb6)
                | (go_at_call 15; refine (QR.out _ HB6.out).mono ?_; rintro e w7 ⟨rfl, hb7⟩; have HB7 := Lib.hid hb7; clear hb7))
              go_roundw
              case rel => exact ⟨i + 1, by omega, by go_num, Lib.hid ⟨by rw [HNX.out], HTT.out.below HB7.out⟩⟩
              case measure => simp [intOf]; omega
          · obtain rfl : i = R.length := by omega
            rw [EM.out] at hmv
            subst hmv
            have HS7 := Lib.hid hr.out.2
            clear hr
            go_wp2_with (go_at_call 16; refine (CS.out _ HS7.out).mono ?_; rintro e wy ⟨Av2, cv2, rfl, hw⟩)
            go_ret
            exact ⟨by simp, hw.out⟩

end Go.Proofs.Ytnfjdlocmdgefaa

/- Contracts (ExLea). -/
namespace Go.Proofs.Ytnfjdlocmdgefaa
open Go.RowKit
set_option linter.unusedVariables false

set_option maxHeartbeats 400000 in
theorem fnLeast_walk (a : Option Addr) (n cap : Nat) (zs : List Int) (w : World) (hz : Kit.BytesIn w a n cap zs) :
    Calls Try.prog 3 #[.slice a n cap] w fun e w' => e = .returned (.bool true) ∧ Below w.heap.size w w' := by
  by_cases hb : (1048576 : Int) < n
  · clear hz
    go_enter Try.func3, Try.ntmps3
    go_wp2_with fail
    refine (big_big _ _ _ hb _).mono ?_
    rintro e w0 ⟨rfl, rfl⟩
    go_wp2
    go_ret
    exact ⟨rfl, Below.refl _ _⟩
  · obtain ⟨hl, hcode⟩ := code_of hz
    have h := least_any ⟨a, zs.take n, cap⟩ w hcode (by simp only; omega)
    simp only [hl] at h
    exact h

end Go.Proofs.Ytnfjdlocmdgefaa
