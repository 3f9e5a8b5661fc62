/- Texts of one claim laid into one file, in build order: InsI13. -/
import Derived.Test.YtgkkeejhfofcaaaHf17
import Derived.Test.YtgkkeejhfofcaaaHf18
import Derived.Test.YtgkkeejhfofcaaaHf22
/- Contracts (InsI13). -/
namespace Go.Proofs.Ytgkkeejhfofcaaa
open Go.RowKit
set_option linter.unusedVariables false

theorem Tr.cut_at {xs : Tr} {i q : Nat} (hh : Tr.has xs i = true) (hq : q ≤ (Tr.kidsTo xs i (Tr.endN xs i)).length) : Zs.at (Tr.kidsI xs i ++ [((Tr.endN xs i : Nat) : Int)]) q = ((Tr.cut xs i q : Nat) : Int) := by
  rw [Tr.kidsI_yes hh]
  unfold Tr.kidsZ Tr.cut
  have e : (Tr.kidsTo xs i (Tr.endN xs i)).map (fun (m : Nat) => (m : Int)) ++ [((Tr.endN xs i : Nat) : Int)] = (Tr.kidsTo xs i (Tr.endN xs i) ++ [Tr.endN xs i]).map (fun (m : Nat) => (m : Int)) := by simp
  rw [e]
  have hl : q < (Tr.kidsTo xs i (Tr.endN xs i) ++ [Tr.endN xs i]).length := by simp; omega
  show List.getD _ q 0 = _
  rw [List.getD_eq_getElem?_getD, List.getD_eq_getElem?_getD, List.getElem?_map, List.getElem?_eq_getElem hl]
  rfl
theorem nd_lit {w : World} {a d : Int} {T : TypeId} : NdIn (w.alloc (.cells #[.int .i64 a, .int .i64 d] T)) (w.alloc (.cells #[.int .i64 a, .int .i64 d] T)).heap.size (some ⟨w.heap.size, 0, none⟩) 1 [(a, d)] :=
  NdIn.of_own (c := 1) (World.ownsRow_lit w #[.int .i64 a, .int .i64 d] 1 (Nat.le_refl _) (by decide) rfl)
set_option maxHeartbeats 800000 in
set_option maxRecDepth 100000 in
theorem implInsert_any (ad : Addr) (n c : Nat) (xs : Tr) (i : Nat) (k a : Int) (P : Option Addr) (m q f z : Nat) (w : World) (h : NdIn w w.heap.size (some ad) n xs) (hn : n ≤ 1048576) (hnc : n ≤ c) (hok : Tr.ok xs = true) (hi : i < n) (hr : f + z ≤ (Tr.kidsTo xs i (Tr.endN xs i)).length) :
    Calls Try.prog 78 #[.slice (some ad) n c, .int .i64 (i : Int), .agg #[.int .i64 k, .slice P m q, .int .i64 a, .int .i64 (f : Int), .int .i64 (z : Int)]] w (OwnNodes 47 (Oc.ins xs i a (Tr.cut xs i f) (Tr.cut xs i (f + z))) w) := by
  have H := Lib.hid h
  clear h
  have HL := Lib.hid H.out.1
  have hix : i < xs.length := by rw [HL.out]; exact hi
  have hbd := Lib.hid fun k => Tr.ok_at (xs := xs) hok (k := k)
  have hh : Tr.has xs (i : Int) = true := Tr.has_iff.2 ⟨hok, by omega, by omega⟩
  have hE := Tr.endN_spec xs i hix
  have n24 := Tr.len24 hok
  have HCA := Lib.hid (fun (x : Nat) (hx : x ≤ f + z) => Tr.cut_at hh (q := x) (by omega))
  have hkl := Tr.kidsI_length hh
  have hFT := Tr.cut_mono hok hix (q := f) (r := f + z) (by omega) hr
  have hF1 := (Tr.cut_bound hok hix f (by omega)).1.1
  have hT1 := (Tr.cut_bound hok hix (f + z) hr).1.2.1
  obtain ⟨F, hFF⟩ : ∃ F, F = Tr.cut xs i f := ⟨_, rfl⟩
  obtain ⟨T, hTT⟩ : ∃ T, T = Tr.cut xs i (f + z) := ⟨_, rfl⟩
  have HC0 := Lib.hid (HCA.out f (by omega))
  have HC1 := Lib.hid (HCA.out (f + z) (by omega))
  rw [← hFF, ← hTT] at hFT ⊢
  rw [← hFF] at HC0 hF1
  rw [← hTT] at HC1 hT1
  have He := Lib.hid (show Tr.endOf xs (i : Int) = (Tr.endN xs i : Int) from Tr.endOf_yes hh)
  obtain ⟨E, hEE⟩ : ∃ E, E = Tr.endN xs i := ⟨_, rfl⟩
  rw [← hEE] at He HC0 HC1 hT1 hE hkl hr
  rw [HL.out] at hE n24
  have hE2 := hE.2.1
  have bi := (hbd.out i hix).2.1
  obtain ⟨d, hd⟩ : ∃ d, d = Tr.d xs i + 1 := ⟨_, rfl⟩
  have HF := Lib.hid (show [Tr.sh xs 0 F 0, [(a, d)], Tr.sh xs F T 1, Tr.sh xs T n 0].flatten = Oc.ins xs i a F T by unfold Oc.ins; rw [HL.out, hd]; simp)
  have HP := Lib.hid (show 0 < (Oc.ins xs i a F T).length ∧ (Oc.ins xs i a F T).length ≤ 1048576 by rw [Oc.ins_len hFT (by rw [HL.out]; omega), HL.out]; omega)
  have a5 : IntKind.i64.wrap (Tr.d xs i + 1) = d := by rw [hd]; exact Kit.w64 (by omega) (by omega)
  obtain ⟨K, hK⟩ : ∃ K, K = (Tr.kidsI xs (i : Int)).length := ⟨_, rfl⟩
  have hkn : K ≤ n := by rw [hK, ← HL.out]; exact Tr.kidsI_len xs i
  rw [← hK] at hkl
  rw [← hkl] at hr
  have HKI := Lib.hid hK
  obtain ⟨i0, hi', hz0, hz1, hz2⟩ := info_parts info_intI
  obtain ⟨wz, hwz⟩ : ∃ wz, wz = w.alloc (.cells #[.int .i64 k, .slice P m q, .int .i64 a, .int .i64 (f : Int), .int .i64 (z : Int)] 39) := ⟨_, rfl⟩
  obtain ⟨s, hs⟩ : ∃ s, s = w.heap.size := ⟨_, rfl⟩
  have HBz := Lib.hid (show Below w.heap.size w wz by rw [hwz]; exact (Below.refl _ _).alloc (Nat.le_refl _) _)
  have HX := Lib.hid (show wz.cell? ⟨s, 2, none⟩ = some (.int .i64 a) ∧ wz.cell? ⟨s, 3, none⟩ = some (.int .i64 (f : Int)) ∧ wz.cell? ⟨s, 4, none⟩ = some (.int .i64 (z : Int)) ∧ BelA wz wz by rw [hwz, hs]; exact ⟨by simp, by simp, by simp, Below.refl _ _⟩)
  have HW := Lib.hid hwz
  have HS := Lib.hid hs
  have Hz := Lib.hid (H.out.to_below HBz.out)
  clear hwz hs hFF hTT hEE hd hK hok hh hE hix bi hkl
  go_enter Try.func78, Try.ntmps78
  go_wp2_with fail
  rw [← HW.out, ← HS.out]
  refine (implKidsOf_any _ _ _ xs _ _ Hz.out hn hnc).mono ?_
  rintro e w1 ⟨A1, c1, rfl, ho1, hb1⟩
  rw [← HKI.out] at ho1 ⊢
  have HB := Lib.hid hb1
  have HO := Lib.hid ho1
  have H1 := Lib.hid (Hz.out.to_below HB.out)
  clear hb1 ho1
  go_wp2_with fail
  refine (implEndOf_any _ _ _ xs _ _ H1.out hn hnc).mono ?_
  rintro e w2 ⟨rfl, hb2⟩
  rw [He.out]
  have HB := Lib.hid (HB.out.trans (hb2.mono HB.out.size))
  have HO := Lib.hid (own_below HO.out hb2)
  have hs2 := HB.out.size
  have HKI2 := Lib.hid (show (Tr.kidsI xs (i : Int)).length = K from HKI.out.symm)
  clear hb2
  go_wp2_with (at_builtin; go_loud (refine append_int w2 rfl _ _ 29 rfl wz.heap.size 3 i0 Try.underlying29 hi' hz0 hz1 hz2 (.slice A1 K c1) K (Tr.kidsI xs (i : Int)) rfl HO.out HKI.out (E : Int) rfl (by rw [HKI2.out]; omega) hs2 ?_; intro v3 w3 hown3 hgrow3))
  have hb3 := Kit.below_own HB.out HO.out hgrow3
  rw [List.length_append, HKI2.out, List.length_singleton] at hown3
  have HX := Lib.hid (c3_keep HX.out hb3)
  have H3 := Lib.hid (Hz.out.to_below hb3)
  have HB3 := Lib.hid hb3
  obtain ⟨A3, c3, rfl⟩ := own_slice hown3
  obtain ⟨g, rfl, hg1, hg2⟩ := own_form hown3 (by simp)
  have r0 := own_int hown3 (k := f) (by simp [HKI2.out]; omega)
  have r1 := own_int hown3 (k := f + z) (by simp [HKI2.out]; omega)
  rw [HC0.out] at r0
  rw [HC1.out] at r1
  have R := Lib.hid (And.intro r0 r1)
  clear hb3 hown3 hgrow3 r0 r1 hg1 hg2
  obtain ⟨x2, x3, x4, -⟩ := HX.out
  obtain ⟨r0, r1⟩ := R.out
  have b0 : (0 : Int) ≤ (f : Int) := by omega
  have b1 : (0 : Int) ≤ ((f + z : Nat) : Int) := by omega
  have b2 : (f : Int) < ((K + 1 : Nat) : Int) := by omega
  have b3 : ((f + z : Nat) : Int) < ((K + 1 : Nat) : Int) := by omega
  have a6 : IntKind.i64.wrap ((f : Int) + (z : Int)) = ((f + z : Nat) : Int) := by rw [Kit.w64 (by omega) (by omega)]; omega
  go_wp2
  go_quiet (fail)
  clear x3 x4 r0 r1 b0 b1 b2 b3 a6
  have x2 : (w3.drewN nq).cell? ⟨s, 2, none⟩ = some (.int .i64 a) := x2
  have H3 := Lib.hid (H3.out : NdIn (w3.drewN nq) (w3.drewN nq).heap.size (some ad) n xs)
  obtain ⟨hl', hd'⟩ := H3.out.here hi
  have b2 : (0 : Int) ≤ (i : Int) := by omega
  have b3 : (i : Int) < (n : Int) := by omega
  clear hl' R HX
  go_wp2
  go_region
  obtain ⟨w5, hw5⟩ : ∃ w5, w5 = ((w3.drewN (nq + 1)).alloc (.cells #[.int .i64 a, .int .i64 d] 47)) := ⟨_, rfl⟩
  have h35 : Below w3.heap.size w3 w5 := by rw [hw5]; exact Below.alloc (below_drewN (Below.refl _ _) _) (Nat.le_refl _) _
  have HB5 := Lib.hid (show Below w.heap.size w w5 from HBz.out.trans ((HB3.out.trans (h35.mono HB3.out.size)).mono HBz.out.size))
  have H5 := Lib.hid (H.out.to_below HB5.out)
  have hs5 := HB5.out.size
  have HN := Lib.hid (show NdIn w5 w5.heap.size (some ⟨w3.heap.size, 0, none⟩) 1 [(a, d)] by rw [hw5]; exact nd_lit)
  have HW5 := Lib.hid hw5
  have S0 := Lib.hid (show BelA w5 w5.drew from (Drawn.refl _).drew.toBelow)
  have e1 : ((F : Nat) : Int) ≤ (c : Int) := by omega
  have e2 : (0 : Int) ≤ (F : Int) := by omega
  have e4 : (F : Int) ≤ (T : Int) := by omega
  have e5 : (T : Int) ≤ (c : Int) := by omega
  have e6 : (0 : Int) ≤ (T : Int) := by omega
  have e7 : (T : Int) ≤ (n : Int) := by omega
  clear hw5 h35 a5 x2 hd' b2 b3 HO
  by_cases h1 : c = F
  · have z1 : n = c := by omega
    have z2 : n = F := by omega
    have z3 : n = T := by omega
    subst z1 z2 z3
    have C1 := Lib.hid (fun (wq : World) (hb : Below w5.heap.size w5 wq) => show Calls Try.prog 135 #[.slice (some ad) 0 0, .int .i64 1] wq (OwnNodes 47 (Tr.sh xs n n 1) wq) from by
      have hs : Tr.sh xs n n 1 = [] := Tr.sh_nil _ _ _
      have := shifted_any ad 0 0 [] 1 wq NdIn.none (by decide) (by decide) (fun k hk => absurd hk (Nat.not_lt_zero k))
      rw [hs]
      exact this)
    have C2 := Lib.hid (fun (wq : World) (hb : Below w5.heap.size w5 wq) (A5 : Option Addr) (m5 c5 b5 : Nat) (hm5 : m5 = (Tr.sh xs n n 1).length) (ho : wq.ownsRow b5 47 2 (.slice A5 m5 c5) m5 (Tr.cells (Tr.sh xs n n 1))) => show Calls Try.prog 134 #[.slice (some ⟨wq.heap.size, 0, none⟩) 4 4] (wq.alloc (.cells #[.slice (some ad) n n, .slice (some ⟨w3.heap.size, 0, none⟩) 1 1, .slice A5 m5 c5, .slice (some ad) 0 0] 24)) (OwnNodes 47 (Oc.ins xs i a n n) (wq.alloc (.cells #[.slice (some ad) n n, .slice (some ⟨w3.heap.size, 0, none⟩) 1 1, .slice A5 m5 c5, .slice (some ad) 0 0] 24))) from by
      have hal : Below wq.heap.size wq (wq.alloc (.cells #[.slice (some ad) n n, .slice (some ⟨w3.heap.size, 0, none⟩) 1 1, .slice A5 m5 c5, .slice (some ad) 0 0] 24)) := (Below.refl _ _).alloc (Nat.le_refl _) _
      have hz := H5.out.to_below hb
      rw [← HF.out]
      have key : SlsIn (wq.alloc (.cells #[.slice (some ad) n n, .slice (some ⟨w3.heap.size, 0, none⟩) 1 1, .slice A5 m5 c5, .slice (some ad) 0 0] 24)) wq.heap.size 4 [.slice (some ad) n n, .slice (some ⟨w3.heap.size, 0, none⟩) 1 1, .slice A5 m5 c5, .slice (some ad) 0 0] [Tr.sh xs 0 n 0, [(a, d)], Tr.sh xs n n 1, Tr.sh xs n n 0] := by
        refine ⟨rfl, fun k hk => ?_⟩
        rcases (show k = 0 ∨ k = 1 ∨ k = 2 ∨ k = 3 by omega) with rfl | rfl | rfl | rfl
        · refine ⟨by simp, some ad, n, by simp [Tr.sh_len], ?_, fun e => by cases e⟩
          have := (hz.cut0 (m := n) (by omega)).to_below hal
          rw [Tr.take_sh xs (by rw [HL.out]; omega)] at this
          simpa [Tr.sh_len] using this
        · refine ⟨by simp, some ⟨w3.heap.size, 0, none⟩, 1, by simp, ?_, fun e => by cases e⟩
          exact (HN.out.to_below hb).to_below hal
        · refine ⟨by simp, A5, c5, by simp [hm5], ?_, fun e => ?_⟩
          · have := (NdIn.of_own ho).to_below hal
            show NdIn _ _ A5 (Tr.sh xs n n 1).length (Tr.sh xs n n 1)
            rw [← hm5]
            exact this
          · subst e
            rcases ho.2 with ⟨e1, e2⟩ | ⟨_, _, _, e1, _⟩
            · injection e1 with _ e3 e4
              exact ⟨by show (Tr.sh xs n n 1).length = 0; omega, e4⟩
            · cases e1
        · refine ⟨by simp, some ad, 0, by simp [Tr.sh_len], ?_, fun e => by cases e⟩
          show NdIn _ _ (some ad) (Tr.sh xs n n 0).length (Tr.sh xs n n 0)
          rw [Tr.sh_nil]
          exact NdIn.none
      exact concatNodes_any _ 4 4 _ _ _ key (by decide) (by rw [HF.out]; exact HP.out.1) (by rw [HF.out]; exact HP.out.2))
    go_wp2_with fail
    rw [← HW5.out]
    go_region_held3 (fun wq => BelA w5 wq) (first | (with_reducible exact SD) | (with_reducible exact SA _) | (with_reducible exact SC) | (with_reducible exact S0.out)) (first | (go_at_call 135; refine (C1.out _ (bel_of (by assumption))).mono ?_; rintro e w6 ⟨A5, c5, rfl, ho5, hb5⟩; have SC := bel_trans (by assumption) hb5; have SA := bel_alloc SC) | (go_loud (go_at_call 134; refine (C2.out _ (bel_of SC) _ _ _ _ rfl ho5).mono ?_; rintro e w7 ⟨A6, c6, rfl, ho6, hb6⟩; have SD := bel_trans (SA _) hb6)))
    have s5 := (bel_of SC).size
    have HE := Lib.hid (HB5.out.trans ((bel_of SD).mono hs5))
    go_wp2
    go_ret
    exact ⟨A6, c6, rfl, own_base ho6 (by simp; omega), HE.out⟩
  · by_cases h2 : c = T
    · have z1 : n = c := by omega
      have z3 : n = T := by omega
      subst z1 z3
      have C1 := Lib.hid (fun (wq : World) (hb : Below w5.heap.size w5 wq) => show Calls Try.prog 135 #[.slice (some (ad.add (F * 2))) (n - F) (n - F), .int .i64 1] wq (OwnNodes 47 (Tr.sh xs F n 1) wq) from by
        have hz : NdIn wq wq.heap.size (some (ad.add (F * 2))) (n - F) ((xs.drop F).take (n - F)) := (H5.out.to_below hb).cut (by omega)
        have := shifted_any _ (n - F) (n - F) _ 1 wq hz (by omega) (by decide) (fun k hk => by
          have hg : ((xs.drop F).take (n - F)).getD k (0, 0) = xs.getD (F + k) (0, 0) := by simp [List.getD_eq_getElem?_getD, hk]
          have := (hbd.out (F + k) (by rw [HL.out]; omega)).2.1
          simp only [Tr.d, hg] at this ⊢
          omega)
        rw [Tr.sh_up xs _ (by rw [HL.out]; omega), show F + (n - F) = n by omega] at this
        exact this)
      have C2 := Lib.hid (fun (wq : World) (hb : Below w5.heap.size w5 wq) (A5 : Option Addr) (m5 c5 b5 : Nat) (hm5 : m5 = (Tr.sh xs F n 1).length) (ho : wq.ownsRow b5 47 2 (.slice A5 m5 c5) m5 (Tr.cells (Tr.sh xs F n 1))) => show Calls Try.prog 134 #[.slice (some ⟨wq.heap.size, 0, none⟩) 4 4] (wq.alloc (.cells #[.slice (some ad) F n, .slice (some ⟨w3.heap.size, 0, none⟩) 1 1, .slice A5 m5 c5, .slice (some ad) 0 0] 24)) (OwnNodes 47 (Oc.ins xs i a F n) (wq.alloc (.cells #[.slice (some ad) F n, .slice (some ⟨w3.heap.size, 0, none⟩) 1 1, .slice A5 m5 c5, .slice (some ad) 0 0] 24))) from by
        have hal : Below wq.heap.size wq (wq.alloc (.cells #[.slice (some ad) F n, .slice (some ⟨w3.heap.size, 0, none⟩) 1 1, .slice A5 m5 c5, .slice (some ad) 0 0] 24)) := (Below.refl _ _).alloc (Nat.le_refl _) _
        have hz := H5.out.to_below hb
        rw [← HF.out]
        have key : SlsIn (wq.alloc (.cells #[.slice (some ad) F n, .slice (some ⟨w3.heap.size, 0, none⟩) 1 1, .slice A5 m5 c5, .slice (some ad) 0 0] 24)) wq.heap.size 4 [.slice (some ad) F n, .slice (some ⟨w3.heap.size, 0, none⟩) 1 1, .slice A5 m5 c5, .slice (some ad) 0 0] [Tr.sh xs 0 F 0, [(a, d)], Tr.sh xs F n 1, Tr.sh xs n n 0] := by
          refine ⟨rfl, fun k hk => ?_⟩
          rcases (show k = 0 ∨ k = 1 ∨ k = 2 ∨ k = 3 by omega) with rfl | rfl | rfl | rfl
          · refine ⟨by simp, some ad, n, by simp [Tr.sh_len], ?_, fun e => by cases e⟩
            have := (hz.cut0 (m := F) (by omega)).to_below hal
            rw [Tr.take_sh xs (by rw [HL.out]; omega)] at this
            simpa [Tr.sh_len] using this
          · refine ⟨by simp, some ⟨w3.heap.size, 0, none⟩, 1, by simp, ?_, fun e => by cases e⟩
            exact (HN.out.to_below hb).to_below hal
          · refine ⟨by simp, A5, c5, by simp [hm5], ?_, fun e => ?_⟩
            · have := (NdIn.of_own ho).to_below hal
              show NdIn _ _ A5 (Tr.sh xs F n 1).length (Tr.sh xs F n 1)
              rw [← hm5]
              exact this
            · subst e
              rcases ho.2 with ⟨e1, e2⟩ | ⟨_, _, _, e1, _⟩
              · injection e1 with _ e3 e4
                exact ⟨by show (Tr.sh xs F n 1).length = 0; omega, e4⟩
              · cases e1
          · refine ⟨by simp, some ad, 0, by simp [Tr.sh_len], ?_, fun e => by cases e⟩
            show NdIn _ _ (some ad) (Tr.sh xs n n 0).length (Tr.sh xs n n 0)
            rw [Tr.sh_nil]
            exact NdIn.none
        exact concatNodes_any _ 4 4 _ _ _ key (by decide) (by rw [HF.out]; exact HP.out.1) (by rw [HF.out]; exact HP.out.2))
      go_wp2_with fail
      rw [← HW5.out]
      go_region_held3 (fun wq => BelA w5 wq) (first | (with_reducible exact SD) | (with_reducible exact SA _) | (with_reducible exact SC) | (with_reducible exact S0.out)) (first | (go_at_call 135; refine (C1.out _ (bel_of (by assumption))).mono ?_; rintro e w6 ⟨A5, c5, rfl, ho5, hb5⟩; have SC := bel_trans (by assumption) hb5; have SA := bel_alloc SC) | (go_loud (go_at_call 134; refine (C2.out _ (bel_of SC) _ _ _ _ rfl ho5).mono ?_; rintro e w7 ⟨A6, c6, rfl, ho6, hb6⟩; have SD := bel_trans (SA _) hb6)))
      have s5 := (bel_of SC).size
      have HE := Lib.hid (HB5.out.trans ((bel_of SD).mono hs5))
      go_wp2
      go_ret
      exact ⟨A6, c6, rfl, own_base ho6 (by simp; omega), HE.out⟩
    · have C1 := Lib.hid (fun (wq : World) (hb : Below w5.heap.size w5 wq) => show Calls Try.prog 135 #[.slice (some (ad.add (F * 2))) (T - F) (c - F), .int .i64 1] wq (OwnNodes 47 (Tr.sh xs F T 1) wq) from by
        have hz : NdIn wq wq.heap.size (some (ad.add (F * 2))) (T - F) ((xs.drop F).take (T - F)) := (H5.out.to_below hb).cut (by omega)
        have := shifted_any _ (T - F) (c - F) _ 1 wq hz (by omega) (by decide) (fun k hk => by
          have hg : ((xs.drop F).take (T - F)).getD k (0, 0) = xs.getD (F + k) (0, 0) := by simp [List.getD_eq_getElem?_getD, hk]
          have := (hbd.out (F + k) (by rw [HL.out]; omega)).2.1
          simp only [Tr.d, hg] at this ⊢
          omega)
        rw [Tr.sh_up xs _ (by rw [HL.out]; omega), show F + (T - F) = T by omega] at this
        exact this)
      have C2 := Lib.hid (fun (wq : World) (hb : Below w5.heap.size w5 wq) (A5 : Option Addr) (m5 c5 b5 : Nat) (hm5 : m5 = (Tr.sh xs F T 1).length) (ho : wq.ownsRow b5 47 2 (.slice A5 m5 c5) m5 (Tr.cells (Tr.sh xs F T 1))) => show Calls Try.prog 134 #[.slice (some ⟨wq.heap.size, 0, none⟩) 4 4] (wq.alloc (.cells #[.slice (some ad) F c, .slice (some ⟨w3.heap.size, 0, none⟩) 1 1, .slice A5 m5 c5, .slice (some (ad.add (T * 2))) (n - T) (c - T)] 24)) (OwnNodes 47 (Oc.ins xs i a F T) (wq.alloc (.cells #[.slice (some ad) F c, .slice (some ⟨w3.heap.size, 0, none⟩) 1 1, .slice A5 m5 c5, .slice (some (ad.add (T * 2))) (n - T) (c - T)] 24))) from by
        have hal : Below wq.heap.size wq (wq.alloc (.cells #[.slice (some ad) F c, .slice (some ⟨w3.heap.size, 0, none⟩) 1 1, .slice A5 m5 c5, .slice (some (ad.add (T * 2))) (n - T) (c - T)] 24)) := (Below.refl _ _).alloc (Nat.le_refl _) _
        have hz := H5.out.to_below hb
        rw [← HF.out]
        have key : SlsIn (wq.alloc (.cells #[.slice (some ad) F c, .slice (some ⟨w3.heap.size, 0, none⟩) 1 1, .slice A5 m5 c5, .slice (some (ad.add (T * 2))) (n - T) (c - T)] 24)) wq.heap.size 4 [.slice (some ad) F c, .slice (some ⟨w3.heap.size, 0, none⟩) 1 1, .slice A5 m5 c5, .slice (some (ad.add (T * 2))) (n - T) (c - T)] [Tr.sh xs 0 F 0, [(a, d)], Tr.sh xs F T 1, Tr.sh xs T n 0] := by
          refine ⟨rfl, fun k hk => ?_⟩
          rcases (show k = 0 ∨ k = 1 ∨ k = 2 ∨ k = 3 by omega) with rfl | rfl | rfl | rfl
          · refine ⟨by simp, some ad, c, by simp [Tr.sh_len], ?_, fun e => by cases e⟩
            have := (hz.cut0 (m := F) (by omega)).to_below hal
            rw [Tr.take_sh xs (by rw [HL.out]; omega)] at this
            simpa [Tr.sh_len] using this
          · refine ⟨by simp, some ⟨w3.heap.size, 0, none⟩, 1, by simp, ?_, fun e => by cases e⟩
            exact (HN.out.to_below hb).to_below hal
          · refine ⟨by simp, A5, c5, by simp [hm5], ?_, fun e => ?_⟩
            · have := (NdIn.of_own ho).to_below hal
              show NdIn _ _ A5 (Tr.sh xs F T 1).length (Tr.sh xs F T 1)
              rw [← hm5]
              exact this
            · subst e
              rcases ho.2 with ⟨e1, e2⟩ | ⟨_, _, _, e1, _⟩
              · injection e1 with _ e3 e4
                exact ⟨by show (Tr.sh xs F T 1).length = 0; omega, e4⟩
              · cases e1
          · refine ⟨by simp, some (ad.add (T * 2)), c - T, by simp [Tr.sh_len], ?_, fun e => by cases e⟩
            have h2 : NdIn wq wq.heap.size (some (ad.add (T * 2))) (n - T) ((xs.drop T).take (n - T)) := hz.cut (by omega)
            have := h2.to_below hal
            rw [Tr.sh_cut xs (by rw [HL.out]; omega), show T + (n - T) = n by omega] at this
            simpa [Tr.sh_len] using this
        exact concatNodes_any _ 4 4 _ _ _ key (by decide) (by rw [HF.out]; exact HP.out.1) (by rw [HF.out]; exact HP.out.2))
      go_wp2_with fail
      rw [← HW5.out]
      go_region_held3 (fun wq => BelA w5 wq) (first | (with_reducible exact SD) | (with_reducible exact SA _) | (with_reducible exact SC) | (with_reducible exact S0.out)) (first | (go_at_call 135; refine (C1.out _ (bel_of (by assumption))).mono ?_; rintro e w6 ⟨A5, c5, rfl, ho5, hb5⟩; have SC := bel_trans (by assumption) hb5; have SA := bel_alloc SC) | (go_loud (go_at_call 134; refine (C2.out _ (bel_of SC) _ _ _ _ rfl ho5).mono ?_; rintro e w7 ⟨A6, c6, rfl, ho6, hb6⟩; have SD := bel_trans (SA _) hb6)))
      have s5 := (bel_of SC).size
      have HE := Lib.hid (HB5.out.trans ((bel_of SD).mono hs5))
      go_wp2
      go_ret
      exact ⟨A6, c6, rfl, own_base ho6 (by simp; omega), HE.out⟩

end Go.Proofs.Ytgkkeejhfofcaaa
