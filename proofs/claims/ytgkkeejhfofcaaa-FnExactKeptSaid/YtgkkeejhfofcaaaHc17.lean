/- Texts of one claim laid into one file, in build order: RmvI, WoM. -/
import Derived.Test.YtgkkeejhfofcaaaHc13
import Derived.Test.YtgkkeejhfofcaaaHc16
import Derived.Test.YtgkkeejhfofcaaaHc3
import Derived.Test.YtgkkeejhfofcaaaHc7
import Derived.LoopIn
import Derived.LoopNIn
import Derived.OwnWalkIn
import Derived.RangeFuncBound
import Derived.RangeFuncCalls
import Derived.RangeFuncLeaves
import Derived.Shelf.Abstract
import Derived.Shelf.RegionOpen
import Derived.TacticsInMore
import Derived.WalkKit
/- Contracts (RmvI). -/
namespace Go.Proofs.Ytgkkeejhfofcaaa
open Go.RowKit
set_option linter.unusedVariables false

theorem Tr.take_sh (xs : Tr) {m : Nat} (h : m ≤ xs.length) : xs.take m = Tr.sh xs 0 m 0 := by
  have := Tr.sh_cut xs (f := 0) (m := m) (by omega)
  rw [Nat.zero_add] at this
  rw [← this]; rfl
theorem NdIn.cut0 {w : World} {B n : Nat} {ad : Addr} {xs : Tr} (h : NdIn w B (some ad) n xs) {m : Nat} (hjm : m ≤ n) : NdIn w B (some ad) m (xs.take m) := by
  have := h.cut (j := 0) (m := m) (by omega)
  simpa [Addr.add] using this
theorem bel_of {wa wx : World} (h : BelA wa wx) : Below wa.heap.size wa wx := h
theorem bel_trans {wa wx wy : World} (h : BelA wa wx) (hb : Below wx.heap.size wx wy) : BelA wa wy := Below.trans h (hb.mono (Below.size h))
theorem bel_alloc {wa wx : World} (h : BelA wa wx) (o : Obj) : BelA wa (wx.alloc o) := Below.alloc h (Below.size h) o
set_option maxHeartbeats 800000 in
set_option maxRecDepth 100000 in
theorem implRemove_any (ad : Addr) (n c : Nat) (xs : Tr) (i : Nat) (w : World) (h : NdIn w w.heap.size (some ad) n xs) (hn : n ≤ 1048576) (hnc : n ≤ c) (hok : Tr.ok xs = true) (hi : i < n) (hi0 : 0 < i) :
    Calls Try.prog 77 #[.slice (some ad) n c, .int .i64 (i : Int)] w (OwnNodes 47 (Oc.del xs i) w) := by
  have H := Lib.hid h
  clear h
  have HL := Lib.hid H.out.1
  have hix : i < xs.length := by rw [HL.out]; exact hi
  have hbd := Lib.hid fun k => Tr.ok_at (xs := xs) hok (k := k)
  have hE := Tr.endN_spec xs i hix
  obtain ⟨E, hEE⟩ : ∃ E, E = Tr.endN xs i := ⟨_, rfl⟩
  have He := Lib.hid (show Tr.endOf xs (i : Int) = (E : Int) by rw [hEE]; exact Tr.endOf_yes (Tr.has_iff.2 ⟨hok, by omega, by omega⟩))
  rw [← hEE, HL.out] at hE
  have hE1 := hE.1
  have hE2 := hE.2.1
  obtain ⟨j, hj⟩ : ∃ j, j = i + 1 := ⟨_, rfl⟩
  have HF := Lib.hid (show [Tr.sh xs 0 i 0, Tr.sh xs j E (-1), Tr.sh xs E n 0].flatten = Oc.del xs i by unfold Oc.del; rw [← hEE, hj, HL.out]; simp)
  have HP := Lib.hid (show 0 < (Oc.del xs i).length ∧ (Oc.del xs i).length ≤ 1048576 by rw [Oc.del_len hix, HL.out]; omega)
  have a5 : IntKind.i64.wrap ((i : Int) + 1) = (j : Int) := by rw [Kit.w64 (by omega) (by omega)]; omega
  clear hEE hix hok
  go_enter Try.func77, Try.ntmps77
  go_wp2_with fail
  refine (implEndOf_any _ _ _ xs _ _ H.out hn hnc).mono ?_
  rintro e w1 ⟨rfl, hb1⟩
  rw [He.out]
  have H1 := Lib.hid (H.out.to_below hb1)
  have HB1 := Lib.hid hb1
  have S0 := Lib.hid (show BelA w1 w1.drew from (Drawn.refl _).drew.toBelow)
  have hs1 := HB1.out.size
  have hji : i < j := by omega
  have hjE : j ≤ E := by omega
  have HE := Lib.hid hE
  clear hb1 hE1 hj hE He
  have e1 : ((i : Nat) : Int) ≤ (c : Int) := by omega
  have e2 : (0 : Int) ≤ (i : Int) := by omega
  have e3 : (0 : Int) ≤ (j : Int) := by omega
  have e4 : (j : Int) ≤ (E : Int) := by omega
  have e5 : (E : Int) ≤ (c : Int) := by omega
  have e6 : (0 : Int) ≤ (E : Int) := by omega
  have e7 : (E : Int) ≤ (n : Int) := by omega
  by_cases h1 : c = j
  · have z1 : n = c := by omega
    have z2 : n = j := by omega
    have z3 : n = E := by omega
    subst z1 z2 z3
    have C1 := Lib.hid (fun (wq : World) (hb : Below w1.heap.size w1 wq) => show Calls Try.prog 135 #[.slice (some ad) 0 0, .int .i64 (-1)] wq (OwnNodes 47 (Tr.sh xs n n (-1)) wq) from by
      have hs : Tr.sh xs n n (-1) = [] := Tr.sh_nil _ _ _
      have := shifted_any ad 0 0 [] (-1) wq NdIn.none (by decide) (by decide) (fun k hk => absurd hk (Nat.not_lt_zero k))
      rw [hs]
      exact this)
    have C2 := Lib.hid (fun (wq : World) (hb : Below w1.heap.size w1 wq) (A5 : Option Addr) (m5 c5 b5 : Nat) (hm5 : m5 = (Tr.sh xs n n (-1)).length) (ho : wq.ownsRow b5 47 2 (.slice A5 m5 c5) m5 (Tr.cells (Tr.sh xs n n (-1)))) => show Calls Try.prog 134 #[.slice (some ⟨wq.heap.size, 0, none⟩) 3 3] (wq.alloc (.cells #[.slice (some ad) i n, .slice A5 m5 c5, .slice (some ad) 0 0] 24)) (OwnNodes 47 (Oc.del xs i) (wq.alloc (.cells #[.slice (some ad) i n, .slice A5 m5 c5, .slice (some ad) 0 0] 24))) from by
      have hal : Below wq.heap.size wq (wq.alloc (.cells #[.slice (some ad) i n, .slice A5 m5 c5, .slice (some ad) 0 0] 24)) := (Below.refl _ _).alloc (Nat.le_refl _) _
      have hz := H1.out.to_below hb
      rw [← HF.out]
      have key : SlsIn (wq.alloc (.cells #[.slice (some ad) i n, .slice A5 m5 c5, .slice (some ad) 0 0] 24)) wq.heap.size 3 [.slice (some ad) i n, .slice A5 m5 c5, .slice (some ad) 0 0] [Tr.sh xs 0 i 0, Tr.sh xs n n (-1), Tr.sh xs n n 0] := by
        refine ⟨rfl, fun k hk => ?_⟩
        rcases (show k = 0 ∨ k = 1 ∨ k = 2 by omega) with rfl | rfl | rfl
        · refine ⟨by simp, some ad, n, by simp [Tr.sh_len], ?_, fun e => by cases e⟩
          have := (hz.cut0 (m := i) (by omega)).to_below hal
          rw [Tr.take_sh xs (by rw [HL.out]; omega)] at this
          simpa [Tr.sh_len] using this
        · refine ⟨by simp, A5, c5, by simp [hm5], ?_, fun e => ?_⟩
          · have := (NdIn.of_own ho).to_below hal
            show NdIn _ _ A5 (Tr.sh xs n n (-1)).length (Tr.sh xs n n (-1))
            rw [← hm5]
            exact this
          · subst e
            rcases ho.2 with ⟨e1, e2⟩ | ⟨_, _, _, e1, _⟩
            · injection e1 with _ e3 e4
              exact ⟨by show (Tr.sh xs n n (-1)).length = 0; omega, e4⟩
            · cases e1
        · refine ⟨by simp, some ad, 0, by simp [Tr.sh_len], ?_, fun e => by cases e⟩
          show NdIn _ _ (some ad) (Tr.sh xs n n 0).length (Tr.sh xs n n 0)
          rw [Tr.sh_nil]
          exact NdIn.none
      exact concatNodes_any _ 3 3 _ _ _ key (by decide) (by rw [HF.out]; exact HP.out.1) (by rw [HF.out]; exact HP.out.2))
    clear HE
    go_wp2_with fail
    go_region_held3 (fun wq => BelA w1 wq) (first | (with_reducible exact SD) | (with_reducible exact SA _) | (with_reducible exact SC) | (with_reducible exact S0.out)) (first | (go_at_call 135; refine (C1.out _ (bel_of (by assumption))).mono ?_; rintro e w5 ⟨A5, c5, rfl, ho5, hb5⟩; have SC := bel_trans (by assumption) hb5; have SA := bel_alloc SC) | (go_loud (go_at_call 134; refine (C2.out _ (bel_of SC) _ _ _ _ rfl ho5).mono ?_; rintro e w6 ⟨A6, c6, rfl, ho6, hb6⟩; have SD := bel_trans (SA _) hb6)))
    have s5 := (bel_of SC).size
    have HE := Lib.hid (HB1.out.trans ((bel_of SD).mono hs1))
    go_wp2
    go_ret
    exact ⟨A6, c6, rfl, own_base ho6 (by simp; omega), HE.out⟩
  · by_cases h2 : c = E
    · have z1 : n = c := by omega
      have z3 : n = E := by omega
      subst z1 z3
      have C1 := Lib.hid (fun (wq : World) (hb : Below w1.heap.size w1 wq) => show Calls Try.prog 135 #[.slice (some (ad.add (j * 2))) (n - j) (n - j), .int .i64 (-1)] wq (OwnNodes 47 (Tr.sh xs j n (-1)) wq) from by
        have hz : NdIn wq wq.heap.size (some (ad.add (j * 2))) (n - j) ((xs.drop j).take (n - j)) := (H1.out.to_below hb).cut (by omega)
        have := shifted_any _ (n - j) (n - j) _ (-1) wq hz (by omega) (by decide) (fun k hk => by
          have hg : ((xs.drop j).take (n - j)).getD k (0, 0) = xs.getD (j + k) (0, 0) := by simp [List.getD_eq_getElem?_getD, hk]
          have := (hbd.out (j + k) (by rw [HL.out]; omega)).2.1
          simp only [Tr.d, hg] at this ⊢
          omega)
        rw [Tr.sh_up xs _ (by rw [HL.out]; omega), show j + (n - j) = n by omega] at this
        exact this)
      have C2 := Lib.hid (fun (wq : World) (hb : Below w1.heap.size w1 wq) (A5 : Option Addr) (m5 c5 b5 : Nat) (hm5 : m5 = (Tr.sh xs j n (-1)).length) (ho : wq.ownsRow b5 47 2 (.slice A5 m5 c5) m5 (Tr.cells (Tr.sh xs j n (-1)))) => show Calls Try.prog 134 #[.slice (some ⟨wq.heap.size, 0, none⟩) 3 3] (wq.alloc (.cells #[.slice (some ad) i n, .slice A5 m5 c5, .slice (some ad) 0 0] 24)) (OwnNodes 47 (Oc.del xs i) (wq.alloc (.cells #[.slice (some ad) i n, .slice A5 m5 c5, .slice (some ad) 0 0] 24))) from by
        have hal : Below wq.heap.size wq (wq.alloc (.cells #[.slice (some ad) i n, .slice A5 m5 c5, .slice (some ad) 0 0] 24)) := (Below.refl _ _).alloc (Nat.le_refl _) _
        have hz := H1.out.to_below hb
        rw [← HF.out]
        have key : SlsIn (wq.alloc (.cells #[.slice (some ad) i n, .slice A5 m5 c5, .slice (some ad) 0 0] 24)) wq.heap.size 3 [.slice (some ad) i n, .slice A5 m5 c5, .slice (some ad) 0 0] [Tr.sh xs 0 i 0, Tr.sh xs j n (-1), Tr.sh xs n n 0] := by
          refine ⟨rfl, fun k hk => ?_⟩
          rcases (show k = 0 ∨ k = 1 ∨ k = 2 by omega) with rfl | rfl | rfl
          · refine ⟨by simp, some ad, n, by simp [Tr.sh_len], ?_, fun e => by cases e⟩
            have := (hz.cut0 (m := i) (by omega)).to_below hal
            rw [Tr.take_sh xs (by rw [HL.out]; omega)] at this
            simpa [Tr.sh_len] using this
          · refine ⟨by simp, A5, c5, by simp [hm5], ?_, fun e => ?_⟩
            · have := (NdIn.of_own ho).to_below hal
              show NdIn _ _ A5 (Tr.sh xs j n (-1)).length (Tr.sh xs j n (-1))
              rw [← hm5]
              exact this
            · subst e
              rcases ho.2 with ⟨e1, e2⟩ | ⟨_, _, _, e1, _⟩
              · injection e1 with _ e3 e4
                exact ⟨by show (Tr.sh xs j n (-1)).length = 0; omega, e4⟩
              · cases e1
          · refine ⟨by simp, some ad, 0, by simp [Tr.sh_len], ?_, fun e => by cases e⟩
            show NdIn _ _ (some ad) (Tr.sh xs n n 0).length (Tr.sh xs n n 0)
            rw [Tr.sh_nil]
            exact NdIn.none
        exact concatNodes_any _ 3 3 _ _ _ key (by decide) (by rw [HF.out]; exact HP.out.1) (by rw [HF.out]; exact HP.out.2))
      clear HE
      go_wp2_with fail
      go_region_held3 (fun wq => BelA w1 wq) (first | (with_reducible exact SD) | (with_reducible exact SA _) | (with_reducible exact SC) | (with_reducible exact S0.out)) (first | (go_at_call 135; refine (C1.out _ (bel_of (by assumption))).mono ?_; rintro e w5 ⟨A5, c5, rfl, ho5, hb5⟩; have SC := bel_trans (by assumption) hb5; have SA := bel_alloc SC) | (go_loud (go_at_call 134; refine (C2.out _ (bel_of SC) _ _ _ _ rfl ho5).mono ?_; rintro e w6 ⟨A6, c6, rfl, ho6, hb6⟩; have SD := bel_trans (SA _) hb6)))
      have s5 := (bel_of SC).size
      have HE := Lib.hid (HB1.out.trans ((bel_of SD).mono hs1))
      go_wp2
      go_ret
      exact ⟨A6, c6, rfl, own_base ho6 (by simp; omega), HE.out⟩
    · have C1 := Lib.hid (fun (wq : World) (hb : Below w1.heap.size w1 wq) => show Calls Try.prog 135 #[.slice (some (ad.add (j * 2))) (E - j) (c - j), .int .i64 (-1)] wq (OwnNodes 47 (Tr.sh xs j E (-1)) wq) from by
        have hz : NdIn wq wq.heap.size (some (ad.add (j * 2))) (E - j) ((xs.drop j).take (E - j)) := (H1.out.to_below hb).cut (by omega)
        have := shifted_any _ (E - j) (c - j) _ (-1) wq hz (by omega) (by decide) (fun k hk => by
          have hg : ((xs.drop j).take (E - j)).getD k (0, 0) = xs.getD (j + k) (0, 0) := by simp [List.getD_eq_getElem?_getD, hk]
          have := (hbd.out (j + k) (by rw [HL.out]; omega)).2.1
          simp only [Tr.d, hg] at this ⊢
          omega)
        rw [Tr.sh_up xs _ (by rw [HL.out]; omega), show j + (E - j) = E by omega] at this
        exact this)
      have C2 := Lib.hid (fun (wq : World) (hb : Below w1.heap.size w1 wq) (A5 : Option Addr) (m5 c5 b5 : Nat) (hm5 : m5 = (Tr.sh xs j E (-1)).length) (ho : wq.ownsRow b5 47 2 (.slice A5 m5 c5) m5 (Tr.cells (Tr.sh xs j E (-1)))) => show Calls Try.prog 134 #[.slice (some ⟨wq.heap.size, 0, none⟩) 3 3] (wq.alloc (.cells #[.slice (some ad) i c, .slice A5 m5 c5, .slice (some (ad.add (E * 2))) (n - E) (c - E)] 24)) (OwnNodes 47 (Oc.del xs i) (wq.alloc (.cells #[.slice (some ad) i c, .slice A5 m5 c5, .slice (some (ad.add (E * 2))) (n - E) (c - E)] 24))) from by
        have hal : Below wq.heap.size wq (wq.alloc (.cells #[.slice (some ad) i c, .slice A5 m5 c5, .slice (some (ad.add (E * 2))) (n - E) (c - E)] 24)) := (Below.refl _ _).alloc (Nat.le_refl _) _
        have hz := H1.out.to_below hb
        rw [← HF.out]
        have key : SlsIn (wq.alloc (.cells #[.slice (some ad) i c, .slice A5 m5 c5, .slice (some (ad.add (E * 2))) (n - E) (c - E)] 24)) wq.heap.size 3 [.slice (some ad) i c, .slice A5 m5 c5, .slice (some (ad.add (E * 2))) (n - E) (c - E)] [Tr.sh xs 0 i 0, Tr.sh xs j E (-1), Tr.sh xs E n 0] := by
          refine ⟨rfl, fun k hk => ?_⟩
          rcases (show k = 0 ∨ k = 1 ∨ k = 2 by omega) with rfl | rfl | rfl
          · refine ⟨by simp, some ad, c, by simp [Tr.sh_len], ?_, fun e => by cases e⟩
            have := (hz.cut0 (m := i) (by omega)).to_below hal
            rw [Tr.take_sh xs (by rw [HL.out]; omega)] at this
            simpa [Tr.sh_len] using this
          · refine ⟨by simp, A5, c5, by simp [hm5], ?_, fun e => ?_⟩
            · have := (NdIn.of_own ho).to_below hal
              show NdIn _ _ A5 (Tr.sh xs j E (-1)).length (Tr.sh xs j E (-1))
              rw [← hm5]
              exact this
            · subst e
              rcases ho.2 with ⟨e1, e2⟩ | ⟨_, _, _, e1, _⟩
              · injection e1 with _ e3 e4
                exact ⟨by show (Tr.sh xs j E (-1)).length = 0; omega, e4⟩
              · cases e1
          · refine ⟨by simp, some (ad.add (E * 2)), c - E, by simp [Tr.sh_len], ?_, fun e => by cases e⟩
            have h2 : NdIn wq wq.heap.size (some (ad.add (E * 2))) (n - E) ((xs.drop E).take (n - E)) := hz.cut (by omega)
            have := h2.to_below hal
            rw [Tr.sh_cut xs (by rw [HL.out]; omega), show E + (n - E) = n by omega] at this
            simpa [Tr.sh_len] using this
        exact concatNodes_any _ 3 3 _ _ _ key (by decide) (by rw [HF.out]; exact HP.out.1) (by rw [HF.out]; exact HP.out.2))
      clear HE
      go_wp2_with fail
      go_region_held3 (fun wq => BelA w1 wq) (first | (with_reducible exact SD) | (with_reducible exact SA _) | (with_reducible exact SC) | (with_reducible exact S0.out)) (first | (go_at_call 135; refine (C1.out _ (bel_of (by assumption))).mono ?_; rintro e w5 ⟨A5, c5, rfl, ho5, hb5⟩; have SC := bel_trans (by assumption) hb5; have SA := bel_alloc SC) | (go_loud (go_at_call 134; refine (C2.out _ (bel_of SC) _ _ _ _ rfl ho5).mono ?_; rintro e w6 ⟨A6, c6, rfl, ho6, hb6⟩; have SD := bel_trans (SA _) hb6)))
      have s5 := (bel_of SC).size
      have HE := Lib.hid (HB1.out.trans ((bel_of SD).mono hs1))
      go_wp2
      go_ret
      exact ⟨A6, c6, rfl, own_base ho6 (by simp; omega), HE.out⟩

end Go.Proofs.Ytgkkeejhfofcaaa

/- Contracts (WoM). -/
namespace Go.Proofs.Ytgkkeejhfofcaaa
open Go.RowKit Go.Shelf
set_option linter.unusedVariables false
attribute [local go_sem] Oper.semAt_some

theorem Wo.len {xs : Tr} (hok : Tr.ok xs = true) {S : List Nat} (h : Wo.asc xs.length S) : (Wo xs S).length ≤ xs.length := by
  obtain ⟨_, e, _⟩ := Wo.tree hok S h
  rw [e]
  unfold Wo.kept
  exact Nat.le_trans (List.length_filter_le _ _) (by simp)
/-- the next one that goes, from the end -/
theorem Wo.step {xs : Tr} (hok : Tr.ok xs = true) {S : List Nat} (h : Wo.asc xs.length S) {k : Nat} (hk : k < S.length) :
    Wo xs (S.drop (S.length - (k + 1))) = Oc.del (Wo xs (S.drop (S.length - k))) (S.getD (S.length - 1 - k) 0) ∧ 0 < S.getD (S.length - 1 - k) 0 ∧ S.getD (S.length - 1 - k) 0 < (Wo xs (S.drop (S.length - k))).length ∧ Tr.ok (Wo xs (S.drop (S.length - k))) = true ∧ (Wo xs (S.drop (S.length - k))).length ≤ xs.length := by
  have hd : S.drop (S.length - (k + 1)) = S.getD (S.length - 1 - k) 0 :: S.drop (S.length - k) := by
    have hlt : S.length - (k + 1) < S.length := by omega
    rw [List.drop_eq_getElem_cons hlt, show S.length - (k + 1) + 1 = S.length - k by omega]
    congr 1
    rw [List.getD_eq_getElem?_getD, List.getElem?_eq_getElem (by omega)]
    simp only [Option.getD_some]
    congr 1
    omega
  have ha : Wo.asc xs.length (S.drop (S.length - (k + 1))) := ⟨h.1.sublist (List.drop_sublist _ _), fun x hx => h.2 x ((List.drop_sublist _ _).subset hx)⟩
  rw [hd] at ha ⊢
  obtain ⟨h1, h2, h3⟩ := Wo.asc_tail ha
  obtain ⟨em, len, _⟩ := Wo.tree hok _ h1
  obtain ⟨k1, k2, _⟩ := Wo.kept_was h2.2 h3
  exact ⟨rfl, h2.1, by rw [len]; exact k2, em.1, Wo.len hok h1⟩
/-- between two rounds: the variable 'out' holds what is left, in memory of its own -/
def WI (T E : TypeId) (xs : Tr) (S : List Nat) (n0 BL k : Nat) (M : Nat → Prop) (W : World) : Prop :=
  ¬ M BL ∧ ∃ g c, Boxed W BL T (.slice (some ⟨g, 0, none⟩) (Wo xs (S.drop (S.length - k))).length c) ∧ W.ownsRow n0 E 2 (.slice (some ⟨g, 0, none⟩) (Wo xs (S.drop (S.length - k))).length c) (Wo xs (S.drop (S.length - k))).length (Tr.cells (Wo xs (S.drop (S.length - k)))) ∧ ¬ M g
theorem WI.frees {T E : TypeId} {xs : Tr} {S : List Nat} {n0 BL : Nat} : FreesN (WI T E xs S n0 BL) := by
  rintro k M M' W W' row ⟨h1, g, c, h2, h3, h4⟩ hg hr hM
  have lg : g < W.heap.size := (h3.lt g rfl).2
  refine ⟨fun e => ?_, g, c, h2.kept hg (fun e => h1 (hr _ e.symm)), h3.kept hg (.inr (fun e => h4 (hr _ e.symm))), fun e => ?_⟩
  · rcases hM _ e with e | e
    · exact h1 e
    · have := h2.lt; omega
  · rcases hM _ e with e | e
    · exact h4 e
    · omega
theorem WI.set {T E : TypeId} {xs : Tr} {S : List Nat} {n0 BL k g5 c5 : Nat} {M : Nat → Prop} {W W5 : World} (h : WI T E xs S n0 BL k M W) (hin : InN n0 M W) (hn : n0 ≤ W.heap.size) (hBL : n0 ≤ BL) (hb : Below W.heap.size W W5) (hg1 : W.heap.size ≤ g5)
    (ho : W5.ownsRow W.heap.size E 2 (.slice (some ⟨g5, 0, none⟩) (Wo xs (S.drop (S.length - (k + 1)))).length c5) (Wo xs (S.drop (S.length - (k + 1)))).length (Tr.cells (Wo xs (S.drop (S.length - (k + 1)))))) :
    RndN (WI T E xs S n0 BL) n0 k M W (W5.setCell ⟨BL, 0, none⟩ (.slice (some ⟨g5, 0, none⟩) (Wo xs (S.drop (S.length - (k + 1)))).length c5)) := by
  obtain ⟨h1, g, c, h2, h3, h4⟩ := h
  have lb := h2.lt
  have gr := grownBy_setCell' W5 BL (.slice (some ⟨g5, 0, none⟩) (Wo xs (S.drop (S.length - (k + 1)))).length c5)
  have hb5 : Boxed W5 BL T _ := (hb.block BL lb).trans h2
  refine ⟨⟨h1, g5, c5, hb5.set _, ?_, fun e => ?_⟩, fun r e => ?_, (hb.mono hn).setCell (p := ⟨BL, 0, none⟩) hBL _⟩
  · exact own_base (ho.kept gr (.inr (fun e => by have e' : some g5 = some BL := e; injection e' with e'; omega))) hn
  · have := (hin g5 e).2; omega
  · have lr := (hin r e).2
    exact (gr.block r (Nat.lt_of_lt_of_le lr hb.size) (fun e2 => by cases e2; exact h1 e)).trans (hb.block r lr)
set_option maxHeartbeats 1600000 in
set_option maxRecDepth 100000 in
theorem implWithout_any (ad : Addr) (n c : Nat) (xs : Tr) (A' : Option Addr) (m c' : Nat) (S : List Nat) (w : World) (h : NdIn w w.heap.size (some ad) n xs) (h' : IntIn w w.heap.size A' m (Zs.up S)) (hn : n ≤ 1048576) (hm : m ≤ 1048576) (hok : Tr.ok xs = true) (hS : Wo.asc xs.length S) :
    Calls Try.prog 105 #[.slice (some ad) n c, .slice A' m c'] w (OwnNodes 47 (Wo xs S) w) := by
  have CC := Lib.hid (cloneNode_any ad n c xs w h hn)
  have HL := Lib.hid h.1
  have HLS := Lib.hid (show S.length = m by have := h'.1; simpa [Zs.up] using this)
  have HN := Lib.hid h'
  have HO := Lib.hid hok
  have HS := Lib.hid hS
  have HN1 := Lib.hid (Tr.len24 hok)
  clear h h' hok hS
  refine (callsIn_wide (n := 1)).1 ?_
  refine callsIn_of_wp_marks Try.func105 rfl trivial ?_ rfl
  simp only [Try.ntmps105, List.size_toArray, List.length_cons, List.length_nil, Nat.reduceAdd, Nat.reduceSub, Array.replicate_succ, Array.replicate_zero, List.push_toArray, List.append_toArray, List.nil_append, List.cons_append]
  gi_wp2_with (first
    | (refine ⟨trivial, ?_⟩; gi_at_call 75; refine (callsIn_wide.2 CC.out).mono ?_; clear CC; rintro e w1 ⟨A1, c1, rfl, ho1, hb1⟩; have HO1 := Lib.hid ho1; have HB1 := Lib.hid hb1; clear ho1 hb1)
    | (refine ⟨trivial, ?_⟩; gi_at_call 144; refine (callsIn_wide.2 (slBackward_any _ _ _ _)).mono ?_; rintro e w3 ⟨rfl, hw3⟩; have HW3 := Lib.hid hw3; clear hw3))
  have sa : w3.heap.size = w1.heap.size + 2 := by rw [HW3.out]; simp
  have hw1 := HB1.out.size
  obtain ⟨g1, rfl, hg1, hg2⟩ := own_form HO1.out (by have := HN1.out; omega)
  have b3 : Below w1.heap.size w1 w3 := by rw [HW3.out]; exact ((Below.refl _ w1).alloc (Nat.le_refl _) _).alloc (by simp) _
  have bx : Boxed w3 w1.heap.size 24 (.slice (some ⟨g1, 0, none⟩) xs.length c1) := by rw [HW3.out]; exact (Boxed.new w1 _ _).alloc _
  have gb : w3.cell? ⟨w1.heap.size + 1, 0, none⟩ = some (.slice A' m c') := by
    rw [HW3.out, show w1.heap.size + 1 = (w1.alloc (.cells #[.slice (some ⟨g1, 0, none⟩) xs.length c1] 24)).heap.size by simp]; simp
  have hr3 := own_below HO1.out b3
  have hB3 : Below w.heap.size w w3 := HB1.out.trans (b3.mono hw1)
  have GV := Lib.hid (backward_gives (n0 := w.heap.size) (w1.heap.size + 1) w3 (HN.out.below hB3) hm hB3.size gb)
  have I0 : WI 24 47 xs S w.heap.size w1.heap.size 0 (fun r => r = w1.heap.size + 1) w3 :=
    ⟨by omega, g1, c1, by rw [Nat.sub_zero, List.drop_length]; exact bx, by rw [Nat.sub_zero, List.drop_length]; exact hr3, by omega⟩
  have HI0 := Lib.hid I0
  have HB3 := Lib.hid hB3
  clear bx gb hr3 hB3 I0 b3 HW3
  refine wp_rangeN (n0 := w.heap.size) (gf := 166) (lb := #[.pointer (some ⟨w1.heap.size + 1, 0, none⟩)]) HB3.out.size rfl (enters_of Try.func166 (by kernel_rfl) rfl) GV.out (Below.refl _ _) (fun r e => by subst e; omega) (fun _ => rfl)
    (WI 24 47 xs S w.heap.size w1.heap.size) WI.frees HI0.out
    (fun k => { tmps := #[.slice (some ad) n c, .slice A' m c', undef, undef, .slice none 0 0, .pointer (some ⟨w1.heap.size, 0, none⟩), undef, .int .i64 (Zs.at (Zs.up S) (m - 1 - k)), .slice (some ad) n c, .slice (some ⟨g1, 0, none⟩) xs.length c1, .slice A' m c',
      .func (.func 166) #[] #[.pointer (some ⟨w1.heap.size + 1, 0, none⟩)], .int .i64 ((m - 1 - k : Nat) : Int), .int .i64 (Zs.at (Zs.up S) (m - 1 - k)), undef, undef, undef, undef], defers := [] }) ?assign ?body ?done
  case assign =>
    intro l k W K hK
    gi_wp2
    exact hK
  case body =>
    intro l k M W hI hin hk
    have hkS : k < S.length := by rw [HLS.out]; exact hk
    obtain ⟨st, x0, xl, ok1, le1⟩ := Wo.step HO.out HS.out hkS
    obtain ⟨hM, g, c9, hb9, hr9, hg9⟩ := hI
    have ex : Zs.at (Zs.up S) (m - 1 - k) = ((S.getD (S.length - 1 - k) 0 : Nat) : Int) := by
      rw [HLS.out]
      unfold Zs.at Zs.up
      rw [List.getD_eq_getElem?_getD, List.getD_eq_getElem?_getD, List.getElem?_map, List.getElem?_eq_getElem (show m - 1 - k < S.length by have := HLS.out; omega)]
      rfl
    obtain ⟨x, hx⟩ : ∃ x, x = S.getD (S.length - 1 - k) 0 := ⟨_, rfl⟩
    rw [← hx] at st x0 xl ex
    have RM := Lib.hid (implRemove_any ⟨g, 0, none⟩ (Wo xs (S.drop (S.length - k))).length c9 (Wo xs (S.drop (S.length - k))) x W (NdIn.of_own hr9) (Nat.le_trans le1 (Nat.le_trans HN1.out.2 (by decide))) (own_cap hr9) ok1 xl x0)
    rw [← st] at RM
    have HI := Lib.hid (show WI 24 47 xs S w.heap.size w1.heap.size k M W from ⟨hM, g, c9, hb9, hr9, hg9⟩)
    have HIn := Lib.hid hin
    have hc9 := hb9.cell
    have HBX := Lib.hid hb9
    have lW := hb9.lt
    have HP := Lib.hid (show 0 < (Wo xs (S.drop (S.length - (k + 1)))).length by
      rw [st, Oc.del_len xl]; omega)
    rw [ex]
    clear hin hx st ok1 le1 hM hb9 hr9 hg9 ex hkS
    gi_wp2_with (refine ⟨trivial, rfl, ?_⟩; gi_at_call 77; refine (CallsIn.inRound l (callsIn_wide.2 RM.out)).mono ?_; rintro e w5 ⟨A5, c5, rfl, ho5, hb5⟩; have e5 := (hb5.cell (p := ⟨w1.heap.size, 0, none⟩) lW).trans hc9; have e6 := (hb5.frozen (p := ⟨w1.heap.size, 0, none⟩) lW).trans HBX.out.frozen; have HB5 := Lib.hid hb5; have HO5 := Lib.hid ho5; clear hb5 ho5)
    obtain ⟨g5, rfl, hg5, _⟩ := own_form HO5.out HP.out
    exact WI.set HI.out HIn.out (by omega) hw1 HB5.out hg5 HO5.out
  case done =>
    rintro D W hD ⟨_, g, c9, hb9, hr9, _⟩ hB hK
    have e0 : S.drop (S.length - m) = S := by rw [HLS.out, Nat.sub_self]; rfl
    rw [e0] at hb9 hr9
    have hc := hb9.cell
    have HR := Lib.hid hr9
    have HBe := Lib.hid (HB3.out.trans hB)
    have hDw : w.heap.size ≤ D := Nat.le_trans HB3.out.size hD
    have hlt : D < W.heap.size := (Array.getElem?_eq_some_iff.1 hK).1
    clear hb9 hr9 hB e0
    gi_wp2
    refine ⟨by simp, .inl ⟨_, _, rfl, run_takeDeferred hK, ?_⟩⟩
    exact ⟨_, results_tmp rfl _ _ _, some ⟨g, 0, none⟩, c9, rfl, ownsRow_putObj HR.out _ hK rfl, HBe.out.trans (below_put W _ hDw hlt)⟩

end Go.Proofs.Ytgkkeejhfofcaaa
