/- Texts of one claim laid into one file, in build order: RmvI, KidI. -/
import Derived.Test.YtgkkeejhfofcaaaHf11
import Derived.Test.YtgkkeejhfofcaaaHf2
import Derived.Test.YtgkkeejhfofcaaaHf21
import Derived.Outline
/- Contracts (RmvI). -/
namespace Go.Proofs.Ytgkkeejhfofcaaa
open Go.RowKit
set_option linter.unusedVariables false

theorem Tr.take_sh (xs : Tr) {m : Nat} (h : m ≤ xs.length) : xs.take m = Tr.sh xs 0 m 0 := by
  have := Tr.sh_cut xs (f := 0) (m := m) (by omega)
  rw [Nat.zero_add] at this
  rw [← this]; rfl
theorem NdIn.cut0 {w : World} {B n : Nat} {ad : Addr} {xs : Tr} (h : NdIn w B (some ad) n xs) {m : Nat} (hjm : m ≤ n) : NdIn w B (some ad) m (xs.take m) := by
  have := h.cut (j := 0) (m := m) (by omega)
  simpa [Addr.add] using this
theorem bel_of {wa wx : World} (h : BelA wa wx) : Below wa.heap.size wa wx := h
theorem bel_trans {wa wx wy : World} (h : BelA wa wx) (hb : Below wx.heap.size wx wy) : BelA wa wy := Below.trans h (hb.mono (Below.size h))
theorem bel_alloc {wa wx : World} (h : BelA wa wx) (o : Obj) : BelA wa (wx.alloc o) := Below.alloc h (Below.size h) o
set_option maxHeartbeats 800000 in
set_option maxRecDepth 100000 in
theorem implRemove_any (ad : Addr) (n c : Nat) (xs : Tr) (i : Nat) (w : World) (h : NdIn w w.heap.size (some ad) n xs) (hn : n ≤ 1048576) (hnc : n ≤ c) (hok : Tr.ok xs = true) (hi : i < n) (hi0 : 0 < i) :
    Calls Try.prog 77 #[.slice (some ad) n c, .int .i64 (i : Int)] w (OwnNodes 47 (Oc.del xs i) w) := by
  have H := Lib.hid h
  clear h
  have HL := Lib.hid H.out.1
  have hix : i < xs.length := by rw [HL.out]; exact hi
  have hbd := Lib.hid fun k => Tr.ok_at (xs := xs) hok (k := k)
  have hE := Tr.endN_spec xs i hix
  obtain ⟨E, hEE⟩ : ∃ E, E = Tr.endN xs i := ⟨_, rfl⟩
  have He := Lib.hid (show Tr.endOf xs (i : Int) = (E : Int) by rw [hEE]; exact Tr.endOf_yes (Tr.has_iff.2 ⟨hok, by omega, by omega⟩))
  rw [← hEE, HL.out] at hE
  have hE1 := hE.1
  have hE2 := hE.2.1
  obtain ⟨j, hj⟩ : ∃ j, j = i + 1 := ⟨_, rfl⟩
  have HF := Lib.hid (show [Tr.sh xs 0 i 0, Tr.sh xs j E (-1), Tr.sh xs E n 0].flatten = Oc.del xs i by unfold Oc.del; rw [← hEE, hj, HL.out]; simp)
  have HP := Lib.hid (show 0 < (Oc.del xs i).length ∧ (Oc.del xs i).length ≤ 1048576 by rw [Oc.del_len hix, HL.out]; omega)
  have a5 : IntKind.i64.wrap ((i : Int) + 1) = (j : Int) := by rw [Kit.w64 (by omega) (by omega)]; omega
  clear hEE hix hok
  go_enter Try.func77, Try.ntmps77
  go_wp2_with fail
  refine (implEndOf_any _ _ _ xs _ _ H.out hn hnc).mono ?_
  rintro e w1 ⟨rfl, hb1⟩
  rw [He.out]
  have H1 := Lib.hid (H.out.to_below hb1)
  have HB1 := Lib.hid hb1
  have S0 := Lib.hid (show BelA w1 w1.drew from (Drawn.refl _).drew.toBelow)
  have hs1 := HB1.out.size
  have hji : i < j := by omega
  have hjE : j ≤ E := by omega
  have HE := Lib.hid hE
  clear hb1 hE1 hj hE He
  have e1 : ((i : Nat) : Int) ≤ (c : Int) := by omega
  have e2 : (0 : Int) ≤ (i : Int) := by omega
  have e3 : (0 : Int) ≤ (j : Int) := by omega
  have e4 : (j : Int) ≤ (E : Int) := by omega
  have e5 : (E : Int) ≤ (c : Int) := by omega
  have e6 : (0 : Int) ≤ (E : Int) := by omega
  have e7 : (E : Int) ≤ (n : Int) := by omega
  by_cases h1 : c = j
  · have z1 : n = c := by omega
    have z2 : n = j := by omega
    have z3 : n = E := by omega
    subst z1 z2 z3
    have C1 := Lib.hid (fun (wq : World) (hb : Below w1.heap.size w1 wq) => show Calls Try.prog 135 #[.slice (some ad) 0 0, .int .i64 (-1)] wq (OwnNodes 47 (Tr.sh xs n n (-1)) wq) from by
      have hs : Tr.sh xs n n (-1) = [] := Tr.sh_nil _ _ _
      have := shifted_any ad 0 0 [] (-1) wq NdIn.none (by decide) (by decide) (fun k hk => absurd hk (Nat.not_lt_zero k))
      rw [hs]
      exact this)
    have C2 := Lib.hid (fun (wq : World) (hb : Below w1.heap.size w1 wq) (A5 : Option Addr) (m5 c5 b5 : Nat) (hm5 : m5 = (Tr.sh xs n n (-1)).length) (ho : wq.ownsRow b5 47 2 (.slice A5 m5 c5) m5 (Tr.cells (Tr.sh xs n n (-1)))) => show Calls Try.prog 134 #[.slice (some ⟨wq.heap.size, 0, none⟩) 3 3] (wq.alloc (.cells #[.slice (some ad) i n, .slice A5 m5 c5, .slice (some ad) 0 0] 24)) (OwnNodes 47 (Oc.del xs i) (wq.alloc (.cells #[.slice (some ad) i n, .slice A5 m5 c5, .slice (some ad) 0 0] 24))) from by
      have hal : Below wq.heap.size wq (wq.alloc (.cells #[.slice (some ad) i n, .slice A5 m5 c5, .slice (some ad) 0 0] 24)) := (Below.refl _ _).alloc (Nat.le_refl _) _
      have hz := H1.out.to_below hb
      rw [← HF.out]
      have key : SlsIn (wq.alloc (.cells #[.slice (some ad) i n, .slice A5 m5 c5, .slice (some ad) 0 0] 24)) wq.heap.size 3 [.slice (some ad) i n, .slice A5 m5 c5, .slice (some ad) 0 0] [Tr.sh xs 0 i 0, Tr.sh xs n n (-1), Tr.sh xs n n 0] := by
        refine ⟨rfl, fun k hk => ?_⟩
        rcases (show k = 0 ∨ k = 1 ∨ k = 2 by omega) with rfl | rfl | rfl
        · refine ⟨by simp, some ad, n, by simp [Tr.sh_len], ?_, fun e => by cases e⟩
          have := (hz.cut0 (m := i) (by omega)).to_below hal
          rw [Tr.take_sh xs (by rw [HL.out]; omega)] at this
          simpa [Tr.sh_len] using this
        · refine ⟨by simp, A5, c5, by simp [hm5], ?_, fun e => ?_⟩
          · have := (NdIn.of_own ho).to_below hal
            show NdIn _ _ A5 (Tr.sh xs n n (-1)).length (Tr.sh xs n n (-1))
            rw [← hm5]
            exact this
          · subst e
            rcases ho.2 with ⟨e1, e2⟩ | ⟨_, _, _, e1, _⟩
            · injection e1 with _ e3 e4
              exact ⟨by show (Tr.sh xs n n (-1)).length = 0; omega, e4⟩
            · cases e1
        · refine ⟨by simp, some ad, 0, by simp [Tr.sh_len], ?_, fun e => by cases e⟩
          show NdIn _ _ (some ad) (Tr.sh xs n n 0).length (Tr.sh xs n n 0)
          rw [Tr.sh_nil]
          exact NdIn.none
      exact concatNodes_any _ 3 3 _ _ _ key (by decide) (by rw [HF.out]; exact HP.out.1) (by rw [HF.out]; exact HP.out.2))
    clear HE
    go_wp2_with fail
    go_region_held3 (fun wq => BelA w1 wq) (first | (with_reducible exact SD) | (with_reducible exact SA _) | (with_reducible exact SC) | (with_reducible exact S0.out)) (first | (go_at_call 135; refine (C1.out _ (bel_of (by assumption))).mono ?_; rintro e w5 ⟨A5, c5, rfl, ho5, hb5⟩; have SC := bel_trans (by assumption) hb5; have SA := bel_alloc SC) | (go_loud (go_at_call 134; refine (C2.out _ (bel_of SC) _ _ _ _ rfl ho5).mono ?_; rintro e w6 ⟨A6, c6, rfl, ho6, hb6⟩; have SD := bel_trans (SA _) hb6)))
    have s5 := (bel_of SC).size
    have HE := Lib.hid (HB1.out.trans ((bel_of SD).mono hs1))
    go_wp2
    go_ret
    exact ⟨A6, c6, rfl, own_base ho6 (by simp; omega), HE.out⟩
  · by_cases h2 : c = E
    · have z1 : n = c := by omega
      have z3 : n = E := by omega
      subst z1 z3
      have C1 := Lib.hid (fun (wq : World) (hb : Below w1.heap.size w1 wq) => show Calls Try.prog 135 #[.slice (some (ad.add (j * 2))) (n - j) (n - j), .int .i64 (-1)] wq (OwnNodes 47 (Tr.sh xs j n (-1)) wq) from by
        have hz : NdIn wq wq.heap.size (some (ad.add (j * 2))) (n - j) ((xs.drop j).take (n - j)) := (H1.out.to_below hb).cut (by omega)
        have := shifted_any _ (n - j) (n - j) _ (-1) wq hz (by omega) (by decide) (fun k hk => by
          have hg : ((xs.drop j).take (n - j)).getD k (0, 0) = xs.getD (j + k) (0, 0) := by simp [List.getD_eq_getElem?_getD, hk]
          have := (hbd.out (j + k) (by rw [HL.out]; omega)).2.1
          simp only [Tr.d, hg] at this ⊢
          omega)
        rw [Tr.sh_up xs _ (by rw [HL.out]; omega), show j + (n - j) = n by omega] at this
        exact this)
      have C2 := Lib.hid (fun (wq : World) (hb : Below w1.heap.size w1 wq) (A5 : Option Addr) (m5 c5 b5 : Nat) (hm5 : m5 = (Tr.sh xs j n (-1)).length) (ho : wq.ownsRow b5 47 2 (.slice A5 m5 c5) m5 (Tr.cells (Tr.sh xs j n (-1)))) => show Calls Try.prog 134 #[.slice (some ⟨wq.heap.size, 0, none⟩) 3 3] (wq.alloc (.cells #[.slice (some ad) i n, .slice A5 m5 c5, .slice (some ad) 0 0] 24)) (OwnNodes 47 (Oc.del xs i) (wq.alloc (.cells #[.slice (some ad) i n, .slice A5 m5 c5, .slice (some ad) 0 0] 24))) from by
        have hal : Below wq.heap.size wq (wq.alloc (.cells #[.slice (some ad) i n, .slice A5 m5 c5, .slice (some ad) 0 0] 24)) := (Below.refl _ _).alloc (Nat.le_refl _) _
        have hz := H1.out.to_below hb
        rw [← HF.out]
        have key : SlsIn (wq.alloc (.cells #[.slice (some ad) i n, .slice A5 m5 c5, .slice (some ad) 0 0] 24)) wq.heap.size 3 [.slice (some ad) i n, .slice A5 m5 c5, .slice (some ad) 0 0] [Tr.sh xs 0 i 0, Tr.sh xs j n (-1), Tr.sh xs n n 0] := by
          refine ⟨rfl, fun k hk => ?_⟩
          rcases (show k = 0 ∨ k = 1 ∨ k = 2 by omega) with rfl | rfl | rfl
          · refine ⟨by simp, some ad, n, by simp [Tr.sh_len], ?_, fun e => by cases e⟩
            have := (hz.cut0 (m := i) (by omega)).to_below hal
            rw [Tr.take_sh xs (by rw [HL.out]; omega)] at this
            simpa [Tr.sh_len] using this
          · refine ⟨by simp, A5, c5, by simp [hm5], ?_, fun e => ?_⟩
            · have := (NdIn.of_own ho).to_below hal
              show NdIn _ _ A5 (Tr.sh xs j n (-1)).length (Tr.sh xs j n (-1))
              rw [← hm5]
              exact this
            · subst e
              rcases ho.2 with ⟨e1, e2⟩ | ⟨_, _, _, e1, _⟩
              · injection e1 with _ e3 e4
                exact ⟨by show (Tr.sh xs j n (-1)).length = 0; omega, e4⟩
              · cases e1
          · refine ⟨by simp, some ad, 0, by simp [Tr.sh_len], ?_, fun e => by cases e⟩
            show NdIn _ _ (some ad) (Tr.sh xs n n 0).length (Tr.sh xs n n 0)
            rw [Tr.sh_nil]
            exact NdIn.none
        exact concatNodes_any _ 3 3 _ _ _ key (by decide) (by rw [HF.out]; exact HP.out.1) (by rw [HF.out]; exact HP.out.2))
      clear HE
      go_wp2_with fail
      go_region_held3 (fun wq => BelA w1 wq) (first | (with_reducible exact SD) | (with_reducible exact SA _) | (with_reducible exact SC) | (with_reducible exact S0.out)) (first | (go_at_call 135; refine (C1.out _ (bel_of (by assumption))).mono ?_; rintro e w5 ⟨A5, c5, rfl, ho5, hb5⟩; have SC := bel_trans (by assumption) hb5; have SA := bel_alloc SC) | (go_loud (go_at_call 134; refine (C2.out _ (bel_of SC) _ _ _ _ rfl ho5).mono ?_; rintro e w6 ⟨A6, c6, rfl, ho6, hb6⟩; have SD := bel_trans (SA _) hb6)))
      have s5 := (bel_of SC).size
      have HE := Lib.hid (HB1.out.trans ((bel_of SD).mono hs1))
      go_wp2
      go_ret
      exact ⟨A6, c6, rfl, own_base ho6 (by simp; omega), HE.out⟩
    · have C1 := Lib.hid (fun (wq : World) (hb : Below w1.heap.size w1 wq) => show Calls Try.prog 135 #[.slice (some (ad.add (j * 2))) (E - j) (c - j), .int .i64 (-1)] wq (OwnNodes 47 (Tr.sh xs j E (-1)) wq) from by
        have hz : NdIn wq wq.heap.size (some (ad.add (j * 2))) (E - j) ((xs.drop j).take (E - j)) := (H1.out.to_below hb).cut (by omega)
        have := shifted_any _ (E - j) (c - j) _ (-1) wq hz (by omega) (by decide) (fun k hk => by
          have hg : ((xs.drop j).take (E - j)).getD k (0, 0) = xs.getD (j + k) (0, 0) := by simp [List.getD_eq_getElem?_getD, hk]
          have := (hbd.out (j + k) (by rw [HL.out]; omega)).2.1
          simp only [Tr.d, hg] at this ⊢
          omega)
        rw [Tr.sh_up xs _ (by rw [HL.out]; omega), show j + (E - j) = E by omega] at this
        exact this)
      have C2 := Lib.hid (fun (wq : World) (hb : Below w1.heap.size w1 wq) (A5 : Option Addr) (m5 c5 b5 : Nat) (hm5 : m5 = (Tr.sh xs j E (-1)).length) (ho : wq.ownsRow b5 47 2 (.slice A5 m5 c5) m5 (Tr.cells (Tr.sh xs j E (-1)))) => show Calls Try.prog 134 #[.slice (some ⟨wq.heap.size, 0, none⟩) 3 3] (wq.alloc (.cells #[.slice (some ad) i c, .slice A5 m5 c5, .slice (some (ad.add (E * 2))) (n - E) (c - E)] 24)) (OwnNodes 47 (Oc.del xs i) (wq.alloc (.cells #[.slice (some ad) i c, .slice A5 m5 c5, .slice (some (ad.add (E * 2))) (n - E) (c - E)] 24))) from by
        have hal : Below wq.heap.size wq (wq.alloc (.cells #[.slice (some ad) i c, .slice A5 m5 c5, .slice (some (ad.add (E * 2))) (n - E) (c - E)] 24)) := (Below.refl _ _).alloc (Nat.le_refl _) _
        have hz := H1.out.to_below hb
        rw [← HF.out]
        have key : SlsIn (wq.alloc (.cells #[.slice (some ad) i c, .slice A5 m5 c5, .slice (some (ad.add (E * 2))) (n - E) (c - E)] 24)) wq.heap.size 3 [.slice (some ad) i c, .slice A5 m5 c5, .slice (some (ad.add (E * 2))) (n - E) (c - E)] [Tr.sh xs 0 i 0, Tr.sh xs j E (-1), Tr.sh xs E n 0] := by
          refine ⟨rfl, fun k hk => ?_⟩
          rcases (show k = 0 ∨ k = 1 ∨ k = 2 by omega) with rfl | rfl | rfl
          · refine ⟨by simp, some ad, c, by simp [Tr.sh_len], ?_, fun e => by cases e⟩
            have := (hz.cut0 (m := i) (by omega)).to_below hal
            rw [Tr.take_sh xs (by rw [HL.out]; omega)] at this
            simpa [Tr.sh_len] using this
          · refine ⟨by simp, A5, c5, by simp [hm5], ?_, fun e => ?_⟩
            · have := (NdIn.of_own ho).to_below hal
              show NdIn _ _ A5 (Tr.sh xs j E (-1)).length (Tr.sh xs j E (-1))
              rw [← hm5]
              exact this
            · subst e
              rcases ho.2 with ⟨e1, e2⟩ | ⟨_, _, _, e1, _⟩
              · injection e1 with _ e3 e4
                exact ⟨by show (Tr.sh xs j E (-1)).length = 0; omega, e4⟩
              · cases e1
          · refine ⟨by simp, some (ad.add (E * 2)), c - E, by simp [Tr.sh_len], ?_, fun e => by cases e⟩
            have h2 : NdIn wq wq.heap.size (some (ad.add (E * 2))) (n - E) ((xs.drop E).take (n - E)) := hz.cut (by omega)
            have := h2.to_below hal
            rw [Tr.sh_cut xs (by rw [HL.out]; omega), show E + (n - E) = n by omega] at this
            simpa [Tr.sh_len] using this
        exact concatNodes_any _ 3 3 _ _ _ key (by decide) (by rw [HF.out]; exact HP.out.1) (by rw [HF.out]; exact HP.out.2))
      clear HE
      go_wp2_with fail
      go_region_held3 (fun wq => BelA w1 wq) (first | (with_reducible exact SD) | (with_reducible exact SA _) | (with_reducible exact SC) | (with_reducible exact S0.out)) (first | (go_at_call 135; refine (C1.out _ (bel_of (by assumption))).mono ?_; rintro e w5 ⟨A5, c5, rfl, ho5, hb5⟩; have SC := bel_trans (by assumption) hb5; have SA := bel_alloc SC) | (go_loud (go_at_call 134; refine (C2.out _ (bel_of SC) _ _ _ _ rfl ho5).mono ?_; rintro e w6 ⟨A6, c6, rfl, ho6, hb6⟩; have SD := bel_trans (SA _) hb6)))
      have s5 := (bel_of SC).size
      have HE := Lib.hid (HB1.out.trans ((bel_of SD).mono hs1))
      go_wp2
      go_ret
      exact ⟨A6, c6, rfl, own_base ho6 (by simp; omega), HE.out⟩

end Go.Proofs.Ytgkkeejhfofcaaa

/- Contracts (KidI). -/
namespace Go.Proofs.Ytgkkeejhfofcaaa
open Go.RowKit
set_option linter.unusedVariables false

theorem info_intI : (Try.prog.info? 3).map (fun i => (i.zero, i.size, i.bytes)) = some (some (.int .i64 0), 1, 8) := by kernel_rfl

set_option maxHeartbeats 800000 in
set_option maxRecDepth 100000 in
theorem implKidsOf_any (A : Option Addr) (n c : Nat) (xs : Tr) (i : Int) (w : World) (h : NdIn w w.heap.size A n xs) (hn : n ≤ 1048576) (hnc : n ≤ c) :
    Calls Try.prog 124 #[.slice A n c, .int .i64 i] w (OwnInts 3 (Tr.kidsI xs i) w) := by
  have H := Lib.hid h
  clear h
  have HL := Lib.hid H.out.1
  obtain ⟨i0, hi, hz0, hz1, hz2⟩ := info_parts info_intI
  rcases hok : Tr.has xs i with _ | _
  · have Hf := Lib.hid (Tr.kidsI_no hok)
    have Hok := Lib.hid hok
    clear hok
    go_enter Try.func124, Try.ntmps124
    go_wp2_with fail
    refine (hasNode_any _ _ _ xs _ _ H.out hn hnc).mono ?_
    rintro e w1 ⟨rfl, hb1⟩
    have HB := Lib.hid hb1
    clear hb1
    rw [Hok.out]
    go_wp2
    go_ret
    exact ⟨_, _, by rw [Hf.out]; rfl, by rw [Hf.out]; exact own_nil, HB.out⟩
  · have h1 := (Tr.has_iff.1 hok).2
    have h0 := (Tr.has_iff.1 hok).1
    rw [HL.out] at h1
    have hbd := Lib.hid fun k => Tr.ok_at (xs := xs) h0 (k := k)
    obtain ⟨j, rfl⟩ := Int.eq_ofNat_of_zero_le h1.1
    have hj : j < n := by omega
    have Hf := Lib.hid (Tr.kidsI_yes hok)
    have He := Lib.hid (Tr.endOf_yes hok)
    have hE := Tr.endN_spec xs j (by rw [HL.out]; exact hj)
    have hE1 := hE.1
    have hE2 := hE.2.1
    rw [HL.out] at hE2
    have Hok := Lib.hid hok
    clear hok h1 h0 hE
    go_enter Try.func124, Try.ntmps124
    go_wp2_with fail
    refine (hasNode_any _ _ _ xs _ _ H.out hn hnc).mono ?_
    rintro e w1 ⟨rfl, hb1⟩
    have H1 := Lib.hid (H.out.to_below hb1)
    have HB1 := Lib.hid hb1
    clear hb1
    rw [Hok.out]
    go_wp2_with fail
    refine (implEndOf_any _ _ _ xs _ _ H1.out hn hnc).mono ?_
    rintro e w2 ⟨rfl, hb2⟩
    have HB2 := Lib.hid (HB1.out.trans (hb2.mono HB1.out.size))
    clear hb2
    rw [He.out]
    go_wp2
    go_loopw [7, 5] (fun kv ov wr => ∃ k : Nat, j < k ∧ k ≤ Tr.endN xs j ∧ kv = .int .i64 k ∧ wr.ownsRow w.heap.size 3 1 ov (Tr.kidsZ xs j k).length (ints (Tr.kidsZ xs j k)) ∧ Below w.heap.size w wr) (fun k _ _ => n - (intOf k).toNat)
    case atStart => exact ⟨j + 1, by omega, by omega, by go_num, by rw [Tr.kidsZ_start]; exact own_nil, HB2.out⟩
    case round =>
      obtain ⟨k, hjk, hk, rfl, hown, hB⟩ := hrel
      have hz := Lib.hid (H.out.to_below hB)
      have Ho := Lib.hid hown
      have HB := Lib.hid hB
      have hsz2 := hB.size
      clear hown hB
      by_cases hlt : k < Tr.endN xs j
      · obtain ⟨ad, rfl, hb, hl, hd⟩ := hz.out.at_ (k := k) (by omega)
        obtain ⟨hl', hd'⟩ := hz.out.here hj
        clear hl hl'
        have Hs := Lib.hid (Tr.kidsZ_succ xs j k hjk)
        have hlen := Tr.kidsZ_len xs j k
        have hk0 : (0 : Int) ≤ (k : Int) := by omega
        have hj0 : (0 : Int) ≤ (j : Int) := by omega
        have hbj := (hbd.out j (by rw [HL.out]; exact hj)).2.1
        have a5 : IntKind.i64.wrap (Tr.d xs j + 1) = Tr.d xs j + 1 := Kit.w64 (by omega) (by omega)
        by_cases hq : Tr.d xs k = Tr.d xs j + 1
        · have q : (Tr.d xs k == Tr.d xs j + 1) = true := by simpa using hq
          have Hq := Lib.hid hq
          clear hq
          go_wp2
          go_quiet (fail)
          clear a5
          go_wp2_with (at_builtin; go_loud (refine append_int (World.drewN wr nq) rfl _ _ 29 rfl w.heap.size 3 i0 Try.underlying29 hi hz0 hz1 hz2 u5 (Tr.kidsZ xs j k).length (Tr.kidsZ xs j k) rfl (Ho.out : World.ownsRow (World.drewN wr nq) _ _ _ _ _ _) rfl (k : Int) rfl (by omega) hsz2 ?_; intro v1 w3 hown3 hgrow3))
          have hb3 := Kit.below_own (below_drewN HB.out _) (Ho.out : World.ownsRow (World.drewN wr nq) _ _ _ _ _ _) hgrow3
          go_roundw
          case rel => exact ⟨k + 1, by omega, by omega, by go_num, by rw [Hs.out, if_pos Hq.out]; exact hown3, hb3⟩
          case measure => simp [intOf]; omega
        · have q : (Tr.d xs k == Tr.d xs j + 1) = false := by simpa using hq
          have Hq := Lib.hid hq
          clear hq
          go_wp2
          go_quiet (fail)
          clear a5
          go_wp2
          go_roundw
          case rel => exact ⟨k + 1, by omega, by omega, by go_num, by rw [Hs.out, if_neg (by have := Hq.out; omega)]; exact (Ho.out : World.ownsRow (World.drewN wr nq) _ _ _ _ _ _), below_drewN HB.out _⟩
          case measure => simp [intOf]; omega
      · obtain rfl : k = Tr.endN xs j := by omega
        obtain ⟨A', c', rfl⟩ := own_slice Ho.out
        go_wp2
        go_ret
        exact ⟨A', c', by rw [Hf.out]; rfl, by rw [Hf.out]; exact Ho.out, HB.out⟩

end Go.Proofs.Ytgkkeejhfofcaaa
