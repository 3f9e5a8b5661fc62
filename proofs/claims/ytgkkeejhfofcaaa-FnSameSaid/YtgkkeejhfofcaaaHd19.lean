/- Texts of one claim laid into one file, in build order: CostOkI. -/
import Derived.Test.YtgkkeejhfofcaaaHd16
import Derived.Test.YtgkkeejhfofcaaaHd18
import Derived.Test.YtgkkeejhfofcaaaHd9
import Derived.BigQuiet
import Derived.Deep.QuietTactic
import Derived.Outline
/- Contracts (CostOkI). -/
namespace Go.Proofs.Ytgkkeejhfofcaaa
open Go.RowKit
set_option linter.unusedVariables false

set_option maxHeartbeats 1600000 in
set_option maxRecDepth 100000 in
theorem implCostOk_any (A0 A1 A2 : Option Addr) (n0 n1 n2 c0 c1 c2 : Nat) (k : Co) (w : World) (h : CoIn w w.heap.size A0 A1 A2 n0 n1 n2 k) (h0 : n0 ≤ 1048576) (h1 : n1 ≤ 1048576) (h2 : n2 ≤ 1048576) :
    Calls Try.prog 150 #[.agg #[.slice A0 n0 c0, .slice A1 n1 c1, .slice A2 n2 c2]] w fun e w' => e = .returned (.bool (Co.ok k)) ∧ Below w.heap.size w w' := by
  have H := Lib.hid h
  have HL := Lib.hid h.len
  clear h
  have HB := Lib.hid ((Below.refl w.heap.size w).alloc (Nat.le_refl _) (.cells #[.slice A0 n0 c0, .slice A1 n1 c1, .slice A2 n2 c2] 31))
  have H1 := Lib.hid (H.out.to_below HB.out)
  cases e0 : Zs.fit k.d 6 with
  | false =>
    have Hf := Lib.hid (show Co.ok k = false by unfold Co.ok; rw [e0]; rfl)
    have E0 := Lib.hid e0
    clear e0
    go_enter Try.func150, Try.ntmps150
    go_wp2_with fail
    refine (tableOk_any _ _ _ k.d 6 _ H1.out.1 h0 (by decide)).mono ?_
    rintro e w1 ⟨rfl, rfl⟩
    rw [E0.out]
    go_wp2
    go_ret
    exact ⟨Kit.ret_bool Hf.out.symm, HB.out⟩
  | true =>
    cases e1 : Zs.fit k.i 6 with
    | false =>
      have Hf := Lib.hid (show Co.ok k = false by unfold Co.ok; rw [e0, e1]; rfl)
      have E0 := Lib.hid e0
      have E1 := Lib.hid e1
      clear e0 e1
      go_enter Try.func150, Try.ntmps150
      go_wp2_with fail
      refine (tableOk_any _ _ _ k.d 6 _ H1.out.1 h0 (by decide)).mono ?_
      rintro e w1 ⟨rfl, rfl⟩
      rw [E0.out]
      go_wp2_with fail
      refine (tableOk_any _ _ _ k.i 6 _ H1.out.2.1 h1 (by decide)).mono ?_
      rintro e w1 ⟨rfl, rfl⟩
      rw [E1.out]
      go_wp2
      go_ret
      exact ⟨Kit.ret_bool Hf.out.symm, HB.out⟩
    | true =>
      cases e2 : Zs.fit k.r 36 with
      | false =>
        have Hf := Lib.hid (show Co.ok k = false by unfold Co.ok; rw [e0, e1, e2]; rfl)
        have E0 := Lib.hid e0
        have E1 := Lib.hid e1
        have E2 := Lib.hid e2
        clear e0 e1 e2
        go_enter Try.func150, Try.ntmps150
        go_wp2_with fail
        refine (tableOk_any _ _ _ k.d 6 _ H1.out.1 h0 (by decide)).mono ?_
        rintro e w1 ⟨rfl, rfl⟩
        rw [E0.out]
        go_wp2_with fail
        refine (tableOk_any _ _ _ k.i 6 _ H1.out.2.1 h1 (by decide)).mono ?_
        rintro e w1 ⟨rfl, rfl⟩
        rw [E1.out]
        go_wp2_with fail
        refine (tableOk_any _ _ _ k.r 36 _ H1.out.2.2 h2 (by decide)).mono ?_
        rintro e w1 ⟨rfl, rfl⟩
        rw [E2.out]
        go_wp2
        go_ret
        exact ⟨Kit.ret_bool Hf.out.symm, HB.out⟩
      | true =>
        have Hf := Lib.hid (show Co.ok k = Co.diag k by unfold Co.ok; rw [e0, e1, e2]; rfl)
        have hr := (Zs.fit_iff.1 e2).1
        have hn2 : n2 = 36 := by rw [← hr]; exact HL.out.2.2.symm
        have E0 := Lib.hid e0
        have E1 := Lib.hid e1
        have E2 := Lib.hid e2
        clear e0 e1 e2 hr
        subst hn2
        obtain ⟨ad, rfl, _⟩ := H1.out.2.2.2.1 (by omega)
        go_enter Try.func150, Try.ntmps150
        go_wp2_with fail
        refine (tableOk_any _ _ _ k.d 6 _ H1.out.1 h0 (by decide)).mono ?_
        rintro e w1 ⟨rfl, rfl⟩
        rw [E0.out]
        go_wp2_with fail
        refine (tableOk_any _ _ _ k.i 6 _ H1.out.2.1 h1 (by decide)).mono ?_
        rintro e w1 ⟨rfl, rfl⟩
        rw [E1.out]
        go_wp2_with fail
        refine (tableOk_any _ _ _ k.r 36 _ H1.out.2.2 h2 (by decide)).mono ?_
        rintro e w1 ⟨rfl, rfl⟩
        rw [E2.out]
        have HX := Lib.hid (Box3.made w (.slice A0 n0 c0) (.slice A1 n1 c1) (.slice (some ad) 36 c2) 31)
        obtain ⟨wz, hwz⟩ : ∃ wz, wz = w.alloc (.cells #[.slice A0 n0 c0, .slice A1 n1 c1, .slice (some ad) 36 c2] 31) := ⟨_, rfl⟩
        rw [← hwz] at HX HB H1
        go_wp2
        rw [← hwz]
        clear hwz
        go_loopw [20] (fun iv wr => ∃ a : Nat, a ≤ 6 ∧ iv = .int .i64 a ∧ Co.diagTo k a ∧ Drawn wz wr) (fun i _ => 6 - (intOf i).toNat)
        case atStart => exact ⟨0, Nat.zero_le _, rfl, fun j hj => absurd hj (Nat.not_lt_zero j), Drawn.refl _⟩
        case round =>
          obtain ⟨a, ha, rfl, hin, hD⟩ := hrel
          have HI := Lib.hid hin
          have HD := Lib.hid hD
          clear hin hD
          by_cases hlt : a < 6
          · have c1 := (H1.out.drawn HD.out).2.2.here (k := a * 6 + a) (by omega)
            obtain ⟨z, hz⟩ : ∃ z, z = Zs.at k.r (a * 6 + a) := ⟨_, rfl⟩
            rw [← hz] at c1
            have HZ := Lib.hid hz
            clear hz
            obtain ⟨p, hp⟩ : ∃ p, p = a * 6 + a := ⟨_, rfl⟩
            rw [← hp] at c1
            have k0 : decide ((a : Int) < 6) = true := by simp; omega
            have x0 := (HX.out.drawn HD.out).2.2
            have HA3 := Lib.hid (show (a : Int) * 6 + (a : Int) = (p : Int) by omega)
            have k1 : (0 : Int) ≤ (p : Int) := by omega
            have k2 : (p : Int) < 36 := by omega
            have HP := Lib.hid hp
            clear hp
            by_cases hq : z = 0
            · have q : (z != 0) = false := by simpa using hq
              have Hq := Lib.hid hq
              clear hq
              go_wp2_with fail
              go_quiet (first | (go_at_call 59; exact quiet_same ((relIndex_any _ _ _ (by omega) (by omega) (by omega) (by omega)).mono fun e w' ⟨h1, h2⟩ => ⟨by rw [h1, HA3.out], h2⟩)))
              go_wp2
              go_roundw
              case rel =>
                refine ⟨a + 1, by omega, by go_num, fun j hj => ?_, HD.out.drewN _⟩
                rcases Nat.lt_succ_iff_lt_or_eq.1 hj with h' | rfl
                · exact HI.out j h'
                · rw [← HZ.out]; exact Hq.out
              case measure => simp [intOf]; omega
            · have q : (z != 0) = true := by simpa using hq
              have Hd := Lib.hid (Co.diag_not (k := k) hlt (by rw [← HZ.out]; exact hq))
              clear hq
              go_wp2_with fail
              go_quiet (first | (go_at_call 59; exact quiet_same ((relIndex_any _ _ _ (by omega) (by omega) (by omega) (by omega)).mono fun e w' ⟨h1, h2⟩ => ⟨by rw [h1, HA3.out], h2⟩)))
              go_wp2
              go_ret
              exact ⟨Kit.ret_bool (by rw [Hf.out, Hd.out]), HB.out.trans ((HD.out.drewN _).toBelow)⟩
          · obtain rfl : a = 6 := by omega
            have Hd := Lib.hid (Co.diag_all HI.out)
            go_wp2
            go_ret
            exact ⟨Kit.ret_bool (by rw [Hf.out, Hd.out]), HB.out.trans HD.out.toBelow⟩

end Go.Proofs.Ytgkkeejhfofcaaa
