/- Texts of one claim laid into one file, in build order: RelS, TblI, CostOkI, SidO, DistS, DelX, Add, AddO, AddP, AddF, Cmp, FullI, DistI. -/
import Derived.Test.YtajplmopdipbnaaMg6
import Derived.BigQuiet
import Derived.Deep.QuietTactic
import Derived.Deep.RegionHeld3
import Derived.Laws.ResultCell
import Derived.Outline
import Derived.StillTailTactics
import Derived.Test.YtajplmopdipbnaaRows
/- Contracts (RelS). -/
namespace Go.Proofs.Ytajplmopdipbnaa
open Go.RowKit
set_option linter.unusedVariables false

set_option maxHeartbeats 1600000 in
set_option maxRecDepth 100000 in
theorem specRelCost_any (A0 A1 A2 : Option Addr) (n0 n1 n2 c0 c1 c2 : Nat) (k : Co) (a b : Int) (w : World) (h : CoIn w w.heap.size A0 A1 A2 n0 n1 n2 k) (h0 : n0 ≤ 1048576) (h1 : n1 ≤ 1048576) (h2 : n2 ≤ 1048576) :
    Calls Try.prog 60 #[.agg #[.slice A0 n0 c0, .slice A1 n1 c1, .slice A2 n2 c2], .int .i64 a, .int .i64 b] w fun e w' => e = .returned (.int .i64 (Co.rel k a b)) ∧ Below w.heap.size w w' := by
  have H := Lib.hid h
  have HL := Lib.hid h.len
  clear h
  have HB := Lib.hid ((Below.refl w.heap.size w).alloc (Nat.le_refl _) (.cells #[.slice A0 n0 c0, .slice A1 n1 c1, .slice A2 n2 c2] 27))
  have H1 := Lib.hid (H.out.to_below HB.out)
  cases e0 : Co.ok k with
  | false =>
    have Hf := Lib.hid (show Co.rel k a b = 0 by unfold Co.rel; rw [e0]; rfl)
    have E0 := Lib.hid e0
    clear e0
    go_enter Try.func60, Try.ntmps60
    go_wp2_with fail
    refine (specCostOk_any _ _ _ _ _ _ _ _ _ k _ H1.out h0 h1 h2).mono ?_
    rintro e w1 ⟨rfl, hb⟩
    have HB := Lib.hid (HB.out.trans (hb.mono HB.out.size))
    clear hb
    rw [E0.out]
    go_wp2
    go_ret
    exact ⟨Kit.ret_int Hf.out.symm, HB.out⟩
  | true =>
    cases e1 : Lab.ok a with
    | false =>
      have Hf := Lib.hid (show Co.rel k a b = 0 by unfold Co.rel; rw [e0, e1]; rfl)
      have E0 := Lib.hid e0
      have E1 := Lib.hid e1
      clear e0 e1
      go_enter Try.func60, Try.ntmps60
      go_wp2_with fail
      refine (specCostOk_any _ _ _ _ _ _ _ _ _ k _ H1.out h0 h1 h2).mono ?_
      rintro e w1 ⟨rfl, hb⟩
      have HB := Lib.hid (HB.out.trans (hb.mono HB.out.size))
      clear hb
      rw [E0.out]
      go_wp2_with fail
      refine (specLabelOk_any _ _).mono ?_
      rintro e w2 ⟨rfl, rfl⟩
      rw [E1.out]
      go_wp2
      go_ret
      exact ⟨Kit.ret_int Hf.out.symm, HB.out⟩
    | true =>
      cases e2 : Lab.ok b with
      | false =>
        have Hf := Lib.hid (show Co.rel k a b = 0 by unfold Co.rel; rw [e0, e1, e2]; rfl)
        have E0 := Lib.hid e0
        have E1 := Lib.hid e1
        have E2 := Lib.hid e2
        clear e0 e1 e2
        go_enter Try.func60, Try.ntmps60
        go_wp2_with fail
        refine (specCostOk_any _ _ _ _ _ _ _ _ _ k _ H1.out h0 h1 h2).mono ?_
        rintro e w1 ⟨rfl, hb⟩
        have HB := Lib.hid (HB.out.trans (hb.mono HB.out.size))
        clear hb
        rw [E0.out]
        go_wp2_with fail
        refine (specLabelOk_any _ _).mono ?_
        rintro e w2 ⟨rfl, rfl⟩
        rw [E1.out]
        go_wp2_with fail
        refine (specLabelOk_any _ _).mono ?_
        rintro e w3 ⟨rfl, rfl⟩
        rw [E2.out]
        go_wp2
        go_ret
        exact ⟨Kit.ret_int Hf.out.symm, HB.out⟩
      | true =>
        have hd := (Zs.fit_iff.1 (Co.ok_iff.1 e0).2.2.1).1
        have ha : 0 ≤ a ∧ a ≤ 5 := by simpa [Lab.ok] using e1
        have hb' : 0 ≤ b ∧ b ≤ 5 := by simpa [Lab.ok] using e2
        obtain ⟨i, rfl⟩ := Int.eq_ofNat_of_zero_le ha.1
        obtain ⟨j, rfl⟩ := Int.eq_ofNat_of_zero_le hb'.1
        obtain ⟨p, hp⟩ : ∃ p, p = i * 6 + j := ⟨_, rfl⟩
        have Hf := Lib.hid (show Co.rel k (i : Int) (j : Int) = Zs.at k.r p by unfold Co.rel; rw [e0, e1, e2, hp]; rfl)
        have E0 := Lib.hid e0
        have E1 := Lib.hid e1
        have E2 := Lib.hid e2
        have hn6 : n2 = 36 := by rw [← hd]; exact HL.out.2.2.symm
        clear e0 e1 e2 hd
        subst hn6
        obtain ⟨ad, rfl, _⟩ := H1.out.2.2.2.1 (by omega)
        have a1 : IntKind.i64.wrap ((i : Int) * 6) = (i : Int) * 6 := Kit.w64 (by omega) (by omega)
        have a2 : IntKind.i64.wrap ((i : Int) * 6 + (j : Int)) = (p : Int) := by rw [Kit.w64 (by omega) (by omega)]; omega
        have a3 : (i : Int) * 6 + (j : Int) = (p : Int) := by omega
        have k1 : (0 : Int) ≤ (p : Int) := by omega
        have k2 : (p : Int) < 36 := by omega
        have hp36 : p < 36 := by omega
        have g0 : (w.alloc (.cells #[.slice A0 n0 c0, .slice A1 n1 c1, .slice (some ad) 36 c2] 27)).cell? ⟨w.heap.size, 2, none⟩ = some (.slice (some ad) 36 c2) := by simp
        clear hp ha hb'
        go_enter Try.func60, Try.ntmps60
        go_wp2_with fail
        refine (specCostOk_any _ _ _ _ _ _ _ _ _ k _ H1.out h0 h1 h2).mono ?_
        rintro e w1 ⟨rfl, hb⟩
        have HB := Lib.hid (HB.out.trans (hb.mono HB.out.size))
        have H1 := Lib.hid (H1.out.to_below hb)
        have g1 := (hb.cell (p := ⟨w.heap.size, 2, none⟩) (by simp)).trans g0
        have c1' := H1.out.2.2.here (k := p) hp36
        clear hb g0
        rw [E0.out]
        go_wp2_with fail
        refine (specLabelOk_any _ _).mono ?_
        rintro e w2 ⟨rfl, rfl⟩
        rw [E1.out]
        go_wp2_with fail
        refine (specLabelOk_any _ _).mono ?_
        rintro e w3 ⟨rfl, rfl⟩
        rw [E2.out]
        go_wp2
        go_ret
        exact ⟨Kit.ret_int Hf.out.symm, HB.out⟩

end Go.Proofs.Ytajplmopdipbnaa

/- Contracts (TblI). -/
namespace Go.Proofs.Ytajplmopdipbnaa
open Go.RowKit
set_option linter.unusedVariables false

set_option maxHeartbeats 1600000 in
set_option maxRecDepth 100000 in
theorem tableOk_any (A : Option Addr) (n c : Nat) (zs : List Int) (m : Nat) (w : World) (h : IntIn w w.heap.size A n zs) (hn : n ≤ 1048576) (hm : m ≤ 1000) :
    Calls Try.prog 104 #[.slice A n c, .int .i64 m] w fun e w' => e = .returned (.bool (Zs.fit zs m)) ∧ w = w' := by
  have H := Lib.hid h
  have HL := Lib.hid h.1
  clear h
  by_cases hnm : n = m
  · subst hnm
    have q0 : ((n : Int) != (n : Int)) = false := by simp
    go_enter Try.func104, Try.ntmps104
    go_wp2
    go_loop [13] (fun iv => ∃ k : Nat, k ≤ n ∧ iv = .int .i64 k ∧ Zs.inTo zs k) (fun i => n - (intOf i).toNat)
    case atStart => exact ⟨0, Nat.zero_le _, rfl, fun j hj => absurd hj (Nat.not_lt_zero j)⟩
    case round =>
      obtain ⟨k, hk, rfl, hin⟩ := hrel
      have HI := Lib.hid hin
      clear hin
      by_cases hlt : k < n
      · obtain ⟨ad, rfl, _, c1⟩ := H.out.at_ hlt
        obtain ⟨z, hz⟩ : ∃ z, z = Zs.at zs k := ⟨_, rfl⟩
        rw [← hz] at c1
        have HZ := Lib.hid hz
        clear hz
        have k0 : (0 : Int) ≤ (k : Int) := by omega
        have k1 : (k : Int) < (n : Int) := by omega
        by_cases hq0 : z < 0
        · have q : decide (z < 0) = true := by simpa using hq0
          have Hf := Lib.hid (Zs.fit_not (zs := zs) (k := k) (n := n) (by rw [HL.out]; exact hlt) (by rw [← HZ.out]; omega))
          clear hq0
          go_wp2
          go_ret
          exact ⟨Kit.ret_bool Hf.out.symm, rfl⟩
        · by_cases hq1 : 1000 < z
          · have q : decide (z < 0) = false := by simpa using hq0
            have q' : decide (1000 < z) = true := by simpa using hq1
            have Hf := Lib.hid (Zs.fit_not (zs := zs) (k := k) (n := n) (by rw [HL.out]; exact hlt) (by rw [← HZ.out]; omega))
            clear hq0 hq1
            go_wp2
            go_ret
            exact ⟨Kit.ret_bool Hf.out.symm, rfl⟩
          · have q : decide (z < 0) = false := by simpa using hq0
            have q' : decide (1000 < z) = false := by simpa using hq1
            have Hq := Lib.hid (show 0 ≤ z ∧ z ≤ 1000 by omega)
            clear hq0 hq1
            go_wp2
            go_round
            case rel => exact ⟨k + 1, by omega, by go_num, fun j hj => by
              rcases Nat.lt_succ_iff_lt_or_eq.1 hj with h' | rfl
              · exact HI.out j h'
              · rw [← HZ.out]; exact Hq.out⟩
            case measure => simp [intOf]; omega
      · obtain rfl : k = n := by omega
        have Hf := Lib.hid (Zs.fit_all (zs := zs) (n := k) (by rw [HL.out]; exact HI.out))
        go_wp2
        go_ret
        exact ⟨Kit.ret_bool (by rw [Hf.out, HL.out]; simp), rfl⟩
  · have q0 : ((n : Int) != (m : Int)) = true := by simp; omega
    have Hf := Lib.hid (show Zs.fit zs m = false by rw [Bool.eq_false_iff]; intro e; have := (Zs.fit_iff.1 e).1; rw [HL.out] at this; exact hnm this)
    clear hnm
    go_enter Try.func104, Try.ntmps104
    go_wp2
    go_ret
    exact ⟨Kit.ret_bool Hf.out.symm, rfl⟩
set_option maxHeartbeats 400000 in
theorem relIndex_any (a b : Int) (w : World) (h0 : 0 ≤ a) (h1 : a < 1000) (h2 : 0 ≤ b) (h3 : b < 1000) :
    Calls Try.prog 79 #[.int .i64 a, .int .i64 b] w fun e w' => e = .returned (.int .i64 (a * 6 + b)) ∧ w = w' := by
  go_enter Try.func79, Try.ntmps79
  go_wp2
  go_ret
  exact ⟨rfl, rfl⟩

end Go.Proofs.Ytajplmopdipbnaa

/- Contracts (CostOkI). -/
namespace Go.Proofs.Ytajplmopdipbnaa
open Go.RowKit
set_option linter.unusedVariables false

set_option maxHeartbeats 1600000 in
set_option maxRecDepth 100000 in
theorem implCostOk_any (A0 A1 A2 : Option Addr) (n0 n1 n2 c0 c1 c2 : Nat) (k : Co) (w : World) (h : CoIn w w.heap.size A0 A1 A2 n0 n1 n2 k) (h0 : n0 ≤ 1048576) (h1 : n1 ≤ 1048576) (h2 : n2 ≤ 1048576) :
    Calls Try.prog 76 #[.agg #[.slice A0 n0 c0, .slice A1 n1 c1, .slice A2 n2 c2]] w fun e w' => e = .returned (.bool (Co.ok k)) ∧ Below w.heap.size w w' := by
  have H := Lib.hid h
  have HL := Lib.hid h.len
  clear h
  have HB := Lib.hid ((Below.refl w.heap.size w).alloc (Nat.le_refl _) (.cells #[.slice A0 n0 c0, .slice A1 n1 c1, .slice A2 n2 c2] 27))
  have H1 := Lib.hid (H.out.to_below HB.out)
  cases e0 : Zs.fit k.d 6 with
  | false =>
    have Hf := Lib.hid (show Co.ok k = false by unfold Co.ok; rw [e0]; rfl)
    have E0 := Lib.hid e0
    clear e0
    go_enter Try.func76, Try.ntmps76
    go_wp2_with fail
    refine (tableOk_any _ _ _ k.d 6 _ H1.out.1 h0 (by decide)).mono ?_
    rintro e w1 ⟨rfl, rfl⟩
    rw [E0.out]
    go_wp2
    go_ret
    exact ⟨Kit.ret_bool Hf.out.symm, HB.out⟩
  | true =>
    cases e1 : Zs.fit k.i 6 with
    | false =>
      have Hf := Lib.hid (show Co.ok k = false by unfold Co.ok; rw [e0, e1]; rfl)
      have E0 := Lib.hid e0
      have E1 := Lib.hid e1
      clear e0 e1
      go_enter Try.func76, Try.ntmps76
      go_wp2_with fail
      refine (tableOk_any _ _ _ k.d 6 _ H1.out.1 h0 (by decide)).mono ?_
      rintro e w1 ⟨rfl, rfl⟩
      rw [E0.out]
      go_wp2_with fail
      refine (tableOk_any _ _ _ k.i 6 _ H1.out.2.1 h1 (by decide)).mono ?_
      rintro e w1 ⟨rfl, rfl⟩
      rw [E1.out]
      go_wp2
      go_ret
      exact ⟨Kit.ret_bool Hf.out.symm, HB.out⟩
    | true =>
      cases e2 : Zs.fit k.r 36 with
      | false =>
        have Hf := Lib.hid (show Co.ok k = false by unfold Co.ok; rw [e0, e1, e2]; rfl)
        have E0 := Lib.hid e0
        have E1 := Lib.hid e1
        have E2 := Lib.hid e2
        clear e0 e1 e2
        go_enter Try.func76, Try.ntmps76
        go_wp2_with fail
        refine (tableOk_any _ _ _ k.d 6 _ H1.out.1 h0 (by decide)).mono ?_
        rintro e w1 ⟨rfl, rfl⟩
        rw [E0.out]
        go_wp2_with fail
        refine (tableOk_any _ _ _ k.i 6 _ H1.out.2.1 h1 (by decide)).mono ?_
        rintro e w1 ⟨rfl, rfl⟩
        rw [E1.out]
        go_wp2_with fail
        refine (tableOk_any _ _ _ k.r 36 _ H1.out.2.2 h2 (by decide)).mono ?_
        rintro e w1 ⟨rfl, rfl⟩
        rw [E2.out]
        go_wp2
        go_ret
        exact ⟨Kit.ret_bool Hf.out.symm, HB.out⟩
      | true =>
        have Hf := Lib.hid (show Co.ok k = Co.diag k by unfold Co.ok; rw [e0, e1, e2]; rfl)
        have hr := (Zs.fit_iff.1 e2).1
        have hn2 : n2 = 36 := by rw [← hr]; exact HL.out.2.2.symm
        have E0 := Lib.hid e0
        have E1 := Lib.hid e1
        have E2 := Lib.hid e2
        clear e0 e1 e2 hr
        subst hn2
        obtain ⟨ad, rfl, _⟩ := H1.out.2.2.2.1 (by omega)
        go_enter Try.func76, Try.ntmps76
        go_wp2_with fail
        refine (tableOk_any _ _ _ k.d 6 _ H1.out.1 h0 (by decide)).mono ?_
        rintro e w1 ⟨rfl, rfl⟩
        rw [E0.out]
        go_wp2_with fail
        refine (tableOk_any _ _ _ k.i 6 _ H1.out.2.1 h1 (by decide)).mono ?_
        rintro e w1 ⟨rfl, rfl⟩
        rw [E1.out]
        go_wp2_with fail
        refine (tableOk_any _ _ _ k.r 36 _ H1.out.2.2 h2 (by decide)).mono ?_
        rintro e w1 ⟨rfl, rfl⟩
        rw [E2.out]
        have HX := Lib.hid (Box3.made w (.slice A0 n0 c0) (.slice A1 n1 c1) (.slice (some ad) 36 c2) 27)
        obtain ⟨wz, hwz⟩ : ∃ wz, wz = w.alloc (.cells #[.slice A0 n0 c0, .slice A1 n1 c1, .slice (some ad) 36 c2] 27) := ⟨_, rfl⟩
        rw [← hwz] at HX HB H1
        go_wp2
        rw [← hwz]
        clear hwz
        go_loopw [20] (fun iv wr => ∃ a : Nat, a ≤ 6 ∧ iv = .int .i64 a ∧ Co.diagTo k a ∧ Drawn wz wr) (fun i _ => 6 - (intOf i).toNat)
        case atStart => exact ⟨0, Nat.zero_le _, rfl, fun j hj => absurd hj (Nat.not_lt_zero j), Drawn.refl _⟩
        case round =>
          obtain ⟨a, ha, rfl, hin, hD⟩ := hrel
          have HI := Lib.hid hin
          have HD := Lib.hid hD
          clear hin hD
          by_cases hlt : a < 6
          · have c1 := (H1.out.drawn HD.out).2.2.here (k := a * 6 + a) (by omega)
            obtain ⟨z, hz⟩ : ∃ z, z = Zs.at k.r (a * 6 + a) := ⟨_, rfl⟩
            rw [← hz] at c1
            have HZ := Lib.hid hz
            clear hz
            obtain ⟨p, hp⟩ : ∃ p, p = a * 6 + a := ⟨_, rfl⟩
            rw [← hp] at c1
            have k0 : decide ((a : Int) < 6) = true := by simp; omega
            have x0 := (HX.out.drawn HD.out).2.2
            have HA3 := Lib.hid (show (a : Int) * 6 + (a : Int) = (p : Int) by omega)
            have k1 : (0 : Int) ≤ (p : Int) := by omega
            have k2 : (p : Int) < 36 := by omega
            have HP := Lib.hid hp
            clear hp
            by_cases hq : z = 0
            · have q : (z != 0) = false := by simpa using hq
              have Hq := Lib.hid hq
              clear hq
              go_wp2_with fail
              go_quiet (first | (go_at_call 79; exact quiet_same ((relIndex_any _ _ _ (by omega) (by omega) (by omega) (by omega)).mono fun e w' ⟨h1, h2⟩ => ⟨by rw [h1, HA3.out], h2⟩)))
              go_wp2
              go_roundw
              case rel =>
                refine ⟨a + 1, by omega, by go_num, fun j hj => ?_, HD.out.drewN _⟩
                rcases Nat.lt_succ_iff_lt_or_eq.1 hj with h' | rfl
                · exact HI.out j h'
                · rw [← HZ.out]; exact Hq.out
              case measure => simp [intOf]; omega
            · have q : (z != 0) = true := by simpa using hq
              have Hd := Lib.hid (Co.diag_not (k := k) hlt (by rw [← HZ.out]; exact hq))
              clear hq
              go_wp2_with fail
              go_quiet (first | (go_at_call 79; exact quiet_same ((relIndex_any _ _ _ (by omega) (by omega) (by omega) (by omega)).mono fun e w' ⟨h1, h2⟩ => ⟨by rw [h1, HA3.out], h2⟩)))
              go_wp2
              go_ret
              exact ⟨Kit.ret_bool (by rw [Hf.out, Hd.out]), HB.out.trans ((HD.out.drewN _).toBelow)⟩
          · obtain rfl : a = 6 := by omega
            have Hd := Lib.hid (Co.diag_all HI.out)
            go_wp2
            go_ret
            exact ⟨Kit.ret_bool (by rw [Hf.out, Hd.out]), HB.out.trans HD.out.toBelow⟩

end Go.Proofs.Ytajplmopdipbnaa

/- Contracts (SidO). -/
namespace Go.Proofs.Ytajplmopdipbnaa
open Go.RowKit
set_option linter.unusedVariables false

/-- trees and costs are valid -/
def DOk (xs ys : Tr) (k : Co) : Bool := Tr.ok xs && Tr.ok ys && Co.ok k
theorem DOk.parts {xs ys : Tr} {k : Co} (h : DOk xs ys k = true) : Tr.ok xs = true ∧ Tr.ok ys = true ∧ Co.ok k = true := by
  simp only [DOk, Bool.and_eq_true] at h
  exact ⟨h.1.1, h.1.2, h.2⟩
/-- what sidesOf returns of valid trees and costs -/
def SidesAt (xs ys : Tr) (K0 K1 K2 : Option Addr) (n0 n1 n2 c0 c1 c2 : Nat) (w : World) (e : Ending) (w' : World) : Prop :=
  ∃ ga0 ga1 ga2 gb0 gb1 gb2 ca0 ca1 ca2 cb0 cb1 cb2 : Nat, e = .returned (.tuple #[.agg #[.slice (some ⟨ga0, 0, none⟩) xs.length ca0, .slice (some ⟨ga1, 0, none⟩) xs.length ca1, .slice (some ⟨ga2, 0, none⟩) (Tr.krs xs).length ca2, .slice (some ⟨gb0, 0, none⟩) ys.length cb0, .slice (some ⟨gb1, 0, none⟩) ys.length cb1, .slice (some ⟨gb2, 0, none⟩) (Tr.krs ys).length cb2, .slice K0 n0 c0, .slice K1 n1 c1, .slice K2 n2 c2], .bool true]) ∧
    w'.ownsRow w.heap.size 3 1 (.slice (some ⟨ga0, 0, none⟩) xs.length ca0) xs.length (ints (Tr.lab xs)) ∧ w'.ownsRow w.heap.size 3 1 (.slice (some ⟨ga1, 0, none⟩) xs.length ca1) xs.length (ints (Zs.up (Tr.lfs xs))) ∧ w'.ownsRow w.heap.size 3 1 (.slice (some ⟨ga2, 0, none⟩) (Tr.krs xs).length ca2) (Tr.krs xs).length (ints (Zs.up (Tr.krs xs))) ∧
    w'.ownsRow w.heap.size 3 1 (.slice (some ⟨gb0, 0, none⟩) ys.length cb0) ys.length (ints (Tr.lab ys)) ∧ w'.ownsRow w.heap.size 3 1 (.slice (some ⟨gb1, 0, none⟩) ys.length cb1) ys.length (ints (Zs.up (Tr.lfs ys))) ∧ w'.ownsRow w.heap.size 3 1 (.slice (some ⟨gb2, 0, none⟩) (Tr.krs ys).length cb2) (Tr.krs ys).length (ints (Zs.up (Tr.krs ys))) ∧ Below w.heap.size w w'

/-- the result's variable of nine cells, the costs' box and the arguments, while sidesOf goes on -/
structure SoG (A A' : Option Addr) (n n' : Nat) (xs ys : Tr) (K0 K1 K2 : Option Addr) (n0 n1 n2 c0 c1 c2 : Nat) (k : Co) (w wq : World) : Prop where
  a : NdIn wq w.heap.size A n xs
  b : NdIn wq w.heap.size A' n' ys
  k : CoIn wq w.heap.size K0 K1 K2 n0 n1 n2 k
  bl : Below w.heap.size w wq
  q : Box3 wq w.heap.size (.slice K0 n0 c0) (.slice K1 n1 c1) (.slice K2 n2 c2)
  cs : ∀ o, o < 9 → ∃ z, wq.cell? ⟨w.heap.size + 1, o, none⟩ = some z
  fz : ∀ o, wq.frozen? ⟨w.heap.size + 1, o, none⟩ = false
  lt : w.heap.size + 1 < wq.heap.size
section
variable {A A' : Option Addr} {n n' : Nat} {xs ys : Tr} {K0 K1 K2 : Option Addr} {n0 n1 n2 c0 c1 c2 : Nat} {k : Co} {w wx wq : World}
theorem SoG.keep (h : SoG A A' n n' xs ys K0 K1 K2 n0 n1 n2 c0 c1 c2 k w wx) (hb : Below wx.heap.size wx wq) : SoG A A' n n' xs ys K0 K1 K2 n0 n1 n2 c0 c1 c2 k w wq := by
  have hs := h.bl.size
  have hl := h.lt
  have hb' := hb.mono (B' := w.heap.size) (by omega)
  exact ⟨h.a.below hb', h.b.below hb', h.k.below hb', h.bl.trans hb', h.q.below hb (by omega), fun o ho => by obtain ⟨z, hz⟩ := h.cs o ho; exact ⟨z, (hb.cell (p := ⟨w.heap.size + 1, o, none⟩) hl).trans hz⟩, free_below hb hl h.fz, Nat.lt_of_lt_of_le hl hb.size⟩
theorem SoG.set (h : SoG A A' n n' xs ys K0 K1 K2 n0 n1 n2 c0 c1 c2 k w wx) (o : Nat) (v : Value) : SoG A A' n n' xs ys K0 K1 K2 n0 n1 n2 c0 c1 c2 k w (wx.setCell ⟨w.heap.size + 1, o, none⟩ v) := by
  have hb : Below w.heap.size wx (wx.setCell ⟨w.heap.size + 1, o, none⟩ v) := (Below.refl _ _).setCell (by show w.heap.size ≤ w.heap.size + 1; omega) _
  have hq : ∀ i, (wx.setCell ⟨w.heap.size + 1, o, none⟩ v).cell? ⟨w.heap.size, i, none⟩ = wx.cell? ⟨w.heap.size, i, none⟩ := fun i => World.cell?_setCell_other _ _ _ _ (fun e => by injection e with e1 _; omega)
  refine ⟨h.a.below hb, h.b.below hb, h.k.below hb, h.bl.setCell (by show w.heap.size ≤ w.heap.size + 1; omega) _, ⟨(hq 0).trans h.q.1, (hq 1).trans h.q.2.1, (hq 2).trans h.q.2.2⟩, fun i hi => ?_, fun i => by rw [World.frozen?_setCell]; exact h.fz i, by simp; exact h.lt⟩
  obtain ⟨z, hz⟩ := h.cs i hi
  by_cases e : i = o
  · rw [e] at hz ⊢
    exact ⟨v, World.cell?_setCell_same' _ _ _ (by rw [hz]; rfl)⟩
  · exact ⟨z, by rw [World.cell?_setCell_other _ _ _ _ (fun e' => e (by injection e' with _ e2; exact e2.symm)), hz]⟩
theorem SoG.set9 (h : SoG A A' n n' xs ys K0 K1 K2 n0 n1 n2 c0 c1 c2 k w wx) (v0 v1 v2 v3 v4 v5 v6 v7 v8 : Value) : SoG A A' n n' xs ys K0 K1 K2 n0 n1 n2 c0 c1 c2 k w (((((((((wx.setCell ⟨w.heap.size + 1, 0, none⟩ v0).setCell ⟨w.heap.size + 1, 1, none⟩ v1).setCell ⟨w.heap.size + 1, 2, none⟩ v2).setCell ⟨w.heap.size + 1, 3, none⟩ v3).setCell ⟨w.heap.size + 1, 4, none⟩ v4).setCell ⟨w.heap.size + 1, 5, none⟩ v5).setCell ⟨w.heap.size + 1, 6, none⟩ v6).setCell ⟨w.heap.size + 1, 7, none⟩ v7).setCell ⟨w.heap.size + 1, 8, none⟩ v8) := ((((((((h.set 0 v0).set 1 v1).set 2 v2).set 3 v3).set 4 v4).set 5 v5).set 6 v6).set 7 v7).set 8 v8
theorem row_set {base e g : Nat} {v : Value} {ys : List Value} {m : Nat} (h : wx.ownsRow base e 1 v m ys) (hg : g < base) (o : Nat) (u : Value) : (wx.setCell ⟨g, o, none⟩ u).ownsRow base e 1 v m ys :=
  own_grown h (Kit.grown_set _ _ _ _) (fun b hb => by injection hb with hb; omega)
theorem row_set9 {base e g B : Nat} {v : Value} {ys : List Value} {m : Nat} (h : wx.ownsRow base e 1 v m ys) (hg : g < base) (hB : B ≤ base) (v0 v1 v2 v3 v4 v5 v6 v7 v8 : Value) : (((((((((wx.setCell ⟨g, 0, none⟩ v0).setCell ⟨g, 1, none⟩ v1).setCell ⟨g, 2, none⟩ v2).setCell ⟨g, 3, none⟩ v3).setCell ⟨g, 4, none⟩ v4).setCell ⟨g, 5, none⟩ v5).setCell ⟨g, 6, none⟩ v6).setCell ⟨g, 7, none⟩ v7).setCell ⟨g, 8, none⟩ v8).ownsRow B e 1 v m ys :=
  own_base (row_set (row_set (row_set (row_set (row_set (row_set (row_set (row_set (row_set h hg 0 v0) hg 1 v1) hg 2 v2) hg 3 v3) hg 4 v4) hg 5 v5) hg 6 v6) hg 7 v7) hg 8 v8) hB
theorem SoG.made (ha : NdIn w w.heap.size A n xs) (hb : NdIn w w.heap.size A' n' ys) (hk : CoIn w w.heap.size K0 K1 K2 n0 n1 n2 k) : SoG A A' n n' xs ys K0 K1 K2 n0 n1 n2 c0 c1 c2 k w ((w.alloc (.cells #[.slice K0 n0 c0, .slice K1 n1 c1, .slice K2 n2 c2] 27)).alloc (.cells #[.slice none 0 0, .slice none 0 0, .slice none 0 0, .slice none 0 0, .slice none 0 0, .slice none 0 0, .slice none 0 0, .slice none 0 0, .slice none 0 0] 69)) := by
  obtain ⟨wc, hwc⟩ : ∃ wc, wc = w.alloc (.cells #[.slice K0 n0 c0, .slice K1 n1 c1, .slice K2 n2 c2] 27) := ⟨_, rfl⟩
  have hbc : Below w.heap.size w wc := by rw [hwc]; exact (Below.refl _ _).alloc (Nat.le_refl _) _
  have hzc : wc.heap.size = w.heap.size + 1 := by rw [hwc]; simp
  have q : Box3 wc w.heap.size (.slice K0 n0 c0) (.slice K1 n1 c1) (.slice K2 n2 c2) := by rw [hwc]; exact Box3.made _ _ _ _ _
  rw [← hwc]
  have h2 : Below w.heap.size w (wc.alloc (.cells #[.slice none 0 0, .slice none 0 0, .slice none 0 0, .slice none 0 0, .slice none 0 0, .slice none 0 0, .slice none 0 0, .slice none 0 0, .slice none 0 0] 69)) := hbc.alloc (by omega) _
  refine ⟨ha.below h2, hb.below h2, hk.below h2, h2, q.alloc (by omega) _, fun o ho => ⟨.slice none 0 0, ?_⟩, fun o => by rw [← hzc]; simp, by simp; omega⟩
  rw [← hzc]
  refine cell_made _ _ _ _ _ ?_
  rcases o with _ | _ | _ | _ | _ | _ | _ | _ | _ | o <;> first | rfl | omega
end
set_option maxHeartbeats 3200000 in
set_option maxRecDepth 100000 in
theorem sidesOf_no (A A' : Option Addr) (n n' c c' : Nat) (xs ys : Tr) (K0 K1 K2 : Option Addr) (n0 n1 n2 c0 c1 c2 : Nat) (k : Co) (w : World) (ha : NdIn w w.heap.size A n xs) (hb : NdIn w w.heap.size A' n' ys) (hk : CoIn w w.heap.size K0 K1 K2 n0 n1 n2 k)
    (hn : n ≤ 1048576) (hn' : n' ≤ 1048576) (h0 : n0 ≤ 1048576) (h1 : n1 ≤ 1048576) (h2 : n2 ≤ 1048576) (hc : n ≤ c) (hc' : n' ≤ c') (hno : DOk xs ys k = false) :
    Calls Try.prog 67 #[.slice A n c, .slice A' n' c', .agg #[.slice K0 n0 c0, .slice K1 n1 c1, .slice K2 n2 c2]] w fun e w' => e = .returned (.tuple #[.agg #[.slice none 0 0, .slice none 0 0, .slice none 0 0, .slice none 0 0, .slice none 0 0, .slice none 0 0, .slice none 0 0, .slice none 0 0, .slice none 0 0], .bool false]) ∧ Below w.heap.size w w' := by
  have H0 := Lib.hid h0
  have H1 := Lib.hid h1
  have H2 := Lib.hid h2
  have hn1 := Lib.hid hn
  have hn2 := Lib.hid hn'
  have SG := Lib.hid (SoG.made (c0 := c0) (c1 := c1) (c2 := c2) ha hb hk)
  obtain ⟨wz, hwz⟩ : ∃ wz, wz = (w.alloc (.cells #[.slice K0 n0 c0, .slice K1 n1 c1, .slice K2 n2 c2] 27)).alloc (.cells #[.slice none 0 0, .slice none 0 0, .slice none 0 0, .slice none 0 0, .slice none 0 0, .slice none 0 0, .slice none 0 0, .slice none 0 0, .slice none 0 0] 69) := ⟨_, rfl⟩
  rw [← hwz] at SG
  clear ha hb hk
  unfold DOk at hno
  cases hx : Tr.ok xs with
  | false =>
    have HX := Lib.hid hx
    clear hx hno
    go_enter Try.func67, Try.ntmps67
    go_wp2_with fail
    rw [← hwz]
    refine (implTreeOk_any _ _ _ xs _ (SG.out.a.more SG.out.bl.size) hn1.out hc).mono ?_
    rintro e w1 ⟨rfl, b1⟩
    have SG := Lib.hid (SG.out.keep b1)
    clear b1
    rw [HX.out]
    obtain ⟨_, t0⟩ := SG.out.cs 0 (by omega)
    have u0 := SG.out.fz 0
    obtain ⟨_, t1⟩ := SG.out.cs 1 (by omega)
    have u1 := SG.out.fz 1
    obtain ⟨_, t2⟩ := SG.out.cs 2 (by omega)
    have u2 := SG.out.fz 2
    obtain ⟨_, t3⟩ := SG.out.cs 3 (by omega)
    have u3 := SG.out.fz 3
    obtain ⟨_, t4⟩ := SG.out.cs 4 (by omega)
    have u4 := SG.out.fz 4
    obtain ⟨_, t5⟩ := SG.out.cs 5 (by omega)
    have u5 := SG.out.fz 5
    obtain ⟨_, t6⟩ := SG.out.cs 6 (by omega)
    have u6 := SG.out.fz 6
    obtain ⟨_, t7⟩ := SG.out.cs 7 (by omega)
    have u7 := SG.out.fz 7
    obtain ⟨_, t8⟩ := SG.out.cs 8 (by omega)
    have u8 := SG.out.fz 8
    go_wp2
    refine bodyPost_ret (v := .tuple #[.agg #[.slice none 0 0, .slice none 0 0, .slice none 0 0, .slice none 0 0, .slice none 0 0, .slice none 0 0, .slice none 0 0, .slice none 0 0, .slice none 0 0], .bool false]) ?_ rfl ?_
    · rw [results_cell_tmp rfl]
      go_simp
    · exact ⟨rfl, (SG.out.set9 _ _ _ _ _ _ _ _ _).bl⟩
  | true =>
    cases hy : Tr.ok ys with
    | false =>
      have HX := Lib.hid hx
      have HY := Lib.hid hy
      clear hx hy hno
      go_enter Try.func67, Try.ntmps67
      go_wp2_with fail
      rw [← hwz]
      refine (implTreeOk_any _ _ _ xs _ (SG.out.a.more SG.out.bl.size) hn1.out hc).mono ?_
      rintro e w1 ⟨rfl, b1⟩
      have SG := Lib.hid (SG.out.keep b1)
      clear b1
      rw [HX.out]
      go_wp2_with fail
      refine (implTreeOk_any _ _ _ ys _ (SG.out.b.more SG.out.bl.size) hn2.out hc').mono ?_
      rintro e w2 ⟨rfl, b2⟩
      have SG := Lib.hid (SG.out.keep b2)
      clear b2
      rw [HY.out]
      obtain ⟨_, t0⟩ := SG.out.cs 0 (by omega)
      have u0 := SG.out.fz 0
      obtain ⟨_, t1⟩ := SG.out.cs 1 (by omega)
      have u1 := SG.out.fz 1
      obtain ⟨_, t2⟩ := SG.out.cs 2 (by omega)
      have u2 := SG.out.fz 2
      obtain ⟨_, t3⟩ := SG.out.cs 3 (by omega)
      have u3 := SG.out.fz 3
      obtain ⟨_, t4⟩ := SG.out.cs 4 (by omega)
      have u4 := SG.out.fz 4
      obtain ⟨_, t5⟩ := SG.out.cs 5 (by omega)
      have u5 := SG.out.fz 5
      obtain ⟨_, t6⟩ := SG.out.cs 6 (by omega)
      have u6 := SG.out.fz 6
      obtain ⟨_, t7⟩ := SG.out.cs 7 (by omega)
      have u7 := SG.out.fz 7
      obtain ⟨_, t8⟩ := SG.out.cs 8 (by omega)
      have u8 := SG.out.fz 8
      go_wp2
      refine bodyPost_ret (v := .tuple #[.agg #[.slice none 0 0, .slice none 0 0, .slice none 0 0, .slice none 0 0, .slice none 0 0, .slice none 0 0, .slice none 0 0, .slice none 0 0, .slice none 0 0], .bool false]) ?_ rfl ?_
      · rw [results_cell_tmp rfl]
        go_simp
      · exact ⟨rfl, (SG.out.set9 _ _ _ _ _ _ _ _ _).bl⟩
    | true =>
      rw [hx, hy] at hno
      have HX := Lib.hid hx
      have HY := Lib.hid hy
      have HO := Lib.hid (show Co.ok k = false by simpa using hno)
      clear hx hy hno
      go_enter Try.func67, Try.ntmps67
      go_wp2_with fail
      rw [← hwz]
      refine (implTreeOk_any _ _ _ xs _ (SG.out.a.more SG.out.bl.size) hn1.out hc).mono ?_
      rintro e w1 ⟨rfl, b1⟩
      have SG := Lib.hid (SG.out.keep b1)
      clear b1
      rw [HX.out]
      go_wp2_with fail
      refine (implTreeOk_any _ _ _ ys _ (SG.out.b.more SG.out.bl.size) hn2.out hc').mono ?_
      rintro e w2 ⟨rfl, b2⟩
      have SG := Lib.hid (SG.out.keep b2)
      clear b2
      rw [HY.out]
      obtain ⟨q0, q1, q2⟩ := SG.out.q
      go_wp2_with fail
      clear q0 q1 q2
      refine (implCostOk_any _ _ _ _ _ _ _ _ _ k _ (SG.out.k.more SG.out.bl.size) H0.out H1.out H2.out).mono ?_
      rintro e w3 ⟨rfl, b3⟩
      have SG := Lib.hid (SG.out.keep b3)
      clear b3
      rw [HO.out]
      obtain ⟨_, t0⟩ := SG.out.cs 0 (by omega)
      have u0 := SG.out.fz 0
      obtain ⟨_, t1⟩ := SG.out.cs 1 (by omega)
      have u1 := SG.out.fz 1
      obtain ⟨_, t2⟩ := SG.out.cs 2 (by omega)
      have u2 := SG.out.fz 2
      obtain ⟨_, t3⟩ := SG.out.cs 3 (by omega)
      have u3 := SG.out.fz 3
      obtain ⟨_, t4⟩ := SG.out.cs 4 (by omega)
      have u4 := SG.out.fz 4
      obtain ⟨_, t5⟩ := SG.out.cs 5 (by omega)
      have u5 := SG.out.fz 5
      obtain ⟨_, t6⟩ := SG.out.cs 6 (by omega)
      have u6 := SG.out.fz 6
      obtain ⟨_, t7⟩ := SG.out.cs 7 (by omega)
      have u7 := SG.out.fz 7
      obtain ⟨_, t8⟩ := SG.out.cs 8 (by omega)
      have u8 := SG.out.fz 8
      go_wp2
      refine bodyPost_ret (v := .tuple #[.agg #[.slice none 0 0, .slice none 0 0, .slice none 0 0, .slice none 0 0, .slice none 0 0, .slice none 0 0, .slice none 0 0, .slice none 0 0, .slice none 0 0], .bool false]) ?_ rfl ?_
      · rw [results_cell_tmp rfl]
        go_simp
      · exact ⟨rfl, (SG.out.set9 _ _ _ _ _ _ _ _ _).bl⟩
theorem so_in {A A' : Option Addr} {n n' : Nat} {xs ys : Tr} {K0 K1 K2 : Option Addr} {n0 n1 n2 c0 c1 c2 : Nat} {k : Co} {w wx : World} (h : wx.cell? ⟨w.heap.size, 0, none⟩ = some (.slice K0 n0 c0) ∧ wx.cell? ⟨w.heap.size, 1, none⟩ = some (.slice K1 n1 c1) ∧ wx.cell? ⟨w.heap.size, 2, none⟩ = some (.slice K2 n2 c2) ∧ SoG A A' n n' xs ys K0 K1 K2 n0 n1 n2 c0 c1 c2 k w wx) : SoG A A' n n' xs ys K0 K1 K2 n0 n1 n2 c0 c1 c2 k w wx := h.2.2.2
theorem so_a {A A' : Option Addr} {n n' : Nat} {xs ys : Tr} {K0 K1 K2 : Option Addr} {n0 n1 n2 c0 c1 c2 : Nat} {k : Co} {w wx : World} (h : wx.cell? ⟨w.heap.size, 0, none⟩ = some (.slice K0 n0 c0) ∧ wx.cell? ⟨w.heap.size, 1, none⟩ = some (.slice K1 n1 c1) ∧ wx.cell? ⟨w.heap.size, 2, none⟩ = some (.slice K2 n2 c2) ∧ SoG A A' n n' xs ys K0 K1 K2 n0 n1 n2 c0 c1 c2 k w wx) : NdIn wx wx.heap.size A n xs := h.2.2.2.a.more h.2.2.2.bl.size
theorem so_b {A A' : Option Addr} {n n' : Nat} {xs ys : Tr} {K0 K1 K2 : Option Addr} {n0 n1 n2 c0 c1 c2 : Nat} {k : Co} {w wx : World} (h : wx.cell? ⟨w.heap.size, 0, none⟩ = some (.slice K0 n0 c0) ∧ wx.cell? ⟨w.heap.size, 1, none⟩ = some (.slice K1 n1 c1) ∧ wx.cell? ⟨w.heap.size, 2, none⟩ = some (.slice K2 n2 c2) ∧ SoG A A' n n' xs ys K0 K1 K2 n0 n1 n2 c0 c1 c2 k w wx) : NdIn wx wx.heap.size A' n' ys := h.2.2.2.b.more h.2.2.2.bl.size
theorem so_out {A A' : Option Addr} {n n' : Nat} {xs ys : Tr} {K0 K1 K2 : Option Addr} {n0 n1 n2 c0 c1 c2 : Nat} {k : Co} {w wx : World} (h : SoG A A' n n' xs ys K0 K1 K2 n0 n1 n2 c0 c1 c2 k w wx) : wx.cell? ⟨w.heap.size, 0, none⟩ = some (.slice K0 n0 c0) ∧ wx.cell? ⟨w.heap.size, 1, none⟩ = some (.slice K1 n1 c1) ∧ wx.cell? ⟨w.heap.size, 2, none⟩ = some (.slice K2 n2 c2) ∧ SoG A A' n n' xs ys K0 K1 K2 n0 n1 n2 c0 c1 c2 k w wx := ⟨h.q.1, h.q.2.1, h.q.2.2, h⟩
set_option maxHeartbeats 3200000 in
set_option maxRecDepth 100000 in
theorem sidesOf_yes (A A' : Option Addr) (n n' c c' : Nat) (xs ys : Tr) (K0 K1 K2 : Option Addr) (n0 n1 n2 c0 c1 c2 : Nat) (k : Co) (w : World) (ha : NdIn w w.heap.size A n xs) (hb : NdIn w w.heap.size A' n' ys) (hk : CoIn w w.heap.size K0 K1 K2 n0 n1 n2 k)
    (hc : n ≤ c) (hc' : n' ≤ c') (hx : Tr.ok xs = true) (hy : Tr.ok ys = true) (ho : Co.ok k = true) :
    Calls Try.prog 67 #[.slice A n c, .slice A' n' c', .agg #[.slice K0 n0 c0, .slice K1 n1 c1, .slice K2 n2 c2]] w (SidesAt xs ys K0 K1 K2 n0 n1 n2 c0 c1 c2 w) := by
  have hln := ha.1
  have hln' := hb.1
  have hkl := hk.len
  have l1 := (Zs.fit_iff.1 (Co.fit3 ho).1).1
  have l2 := (Zs.fit_iff.1 (Co.fit3 ho).2.1).1
  have l3 := (Zs.fit_iff.1 (Co.fit3 ho).2.2).1
  have H0 := Lib.hid (show n0 ≤ 1048576 by omega)
  have H1 := Lib.hid (show n1 ≤ 1048576 by omega)
  have H2 := Lib.hid (show n2 ≤ 1048576 by omega)
  obtain ⟨x1, x24⟩ := Tr.len24 hx
  obtain ⟨y1, y24⟩ := Tr.len24 hy
  subst hln
  subst hln'
  have hn : xs.length ≤ 1048576 := by omega
  have hn' : ys.length ≤ 1048576 := by omega
  clear hkl l1 l2 l3
  have hn1 := Lib.hid hn
  have hn2 := Lib.hid hn'
  have SG := Lib.hid (SoG.made (c0 := c0) (c1 := c1) (c2 := c2) ha hb hk)
  obtain ⟨wz, hwz⟩ : ∃ wz, wz = (w.alloc (.cells #[.slice K0 n0 c0, .slice K1 n1 c1, .slice K2 n2 c2] 27)).alloc (.cells #[.slice none 0 0, .slice none 0 0, .slice none 0 0, .slice none 0 0, .slice none 0 0, .slice none 0 0, .slice none 0 0, .slice none 0 0, .slice none 0 0] 69) := ⟨_, rfl⟩
  rw [← hwz] at SG
  clear ha hb hk
  have HX := Lib.hid hx
  have HY := Lib.hid hy
  have HO := Lib.hid ho
  have lk := fun (zs : Tr) (h : Tr.ok zs = true) => show 0 < (Tr.krs zs).length by obtain ⟨r, hr⟩ := Tr.krs_last h; rw [hr]; simp
  have LKX := Lib.hid (lk xs HX.out)
  have LKY := Lib.hid (lk ys HY.out)
  clear lk hx hy ho
  go_enter Try.func67, Try.ntmps67
  go_wp2_with fail
  rw [← hwz]
  refine (implTreeOk_any _ _ _ xs _ (SG.out.a.more SG.out.bl.size) hn1.out hc).mono ?_
  rintro e w1 ⟨rfl, b1⟩
  have SG := Lib.hid (SG.out.keep b1)
  clear b1
  rw [HX.out]
  go_wp2_with fail
  refine (implTreeOk_any _ _ _ ys _ (SG.out.b.more SG.out.bl.size) hn2.out hc').mono ?_
  rintro e w2 ⟨rfl, b2⟩
  have SG := Lib.hid (SG.out.keep b2)
  clear b2
  rw [HY.out]
  obtain ⟨q0, q1, q2⟩ := SG.out.q
  go_wp2_with fail
  clear q0 q1 q2
  refine (implCostOk_any _ _ _ _ _ _ _ _ _ k _ (SG.out.k.more SG.out.bl.size) H0.out H1.out H2.out).mono ?_
  rintro e w3 ⟨rfl, b3⟩
  have SG := Lib.hid (SG.out.keep b3)
  clear b3
  rw [HO.out]
  have S0 := Lib.hid (so_out (SG.out.keep (Drawn.refl _).drew.toBelow))
  have ZW := Lib.hid (Nat.lt_of_succ_lt SG.out.lt)
  have X1 := Lib.hid x1
  have Y1 := Lib.hid y1
  clear x1 x24 y1 y24 hn hn' hwz
  go_wp2_with fail
  go_region_held3 (fun wq => wq.cell? ⟨w.heap.size, 0, none⟩ = some (.slice K0 n0 c0) ∧ wq.cell? ⟨w.heap.size, 1, none⟩ = some (.slice K1 n1 c1) ∧ wq.cell? ⟨w.heap.size, 2, none⟩ = some (.slice K2 n2 c2) ∧ SoG A A' xs.length ys.length xs ys K0 K1 K2 n0 n1 n2 c0 c1 c2 k w wq) (first | (with_reducible exact so_out (SoG.set9 SX.out _ _ _ _ _ _ _ _ _)) | (with_reducible exact S0.out) | (with_reducible refine so_out ((so_in ?_).keep hb); with_reducible assumption)) (first | (go_at_call 96; (fail_if_success (have := m1)); refine (sideOf_any A xs.length c xs _ (so_a (by assumption)) hc HX.out).mono ?_; rintro e w5 ⟨_, _, _, ca0, ca1, ca2, rfl, ra0, ra1, ra2, hb⟩; obtain ⟨ga0, rfl, fa0, fa0'⟩ := own_form ra0 X1.out; obtain ⟨ga1, rfl, fa1, fa1'⟩ := own_form ra1 X1.out; obtain ⟨ga2, rfl, fa2, fa2'⟩ := own_form ra2 LKX.out; have RA := Lib.hid (And.intro ra0 (And.intro ra1 (And.intro ra2 (And.intro fa0 (And.intro fa1 fa2))))); clear ra0 ra1 ra2 fa0 fa1 fa2 fa0' fa1' fa2'; have hba := Lib.hid hb; have m1 := True.intro) | (go_at_call 96; refine (sideOf_any A' ys.length c' ys _ (so_b (by assumption)) hc' HY.out).mono ?_; rintro e w6 ⟨_, _, _, cb0, cb1, cb2, rfl, rb0, rb1, rb2, hb⟩; obtain ⟨gb0, rfl, fb0, fb0'⟩ := own_form rb0 Y1.out; obtain ⟨gb1, rfl, fb1, fb1'⟩ := own_form rb1 Y1.out; obtain ⟨gb2, rfl, fb2, fb2'⟩ := own_form rb2 LKY.out; have RB := Lib.hid (And.intro rb0 (And.intro rb1 (And.intro rb2 (And.intro fb0 (And.intro fb1 fb2))))); clear rb0 rb1 rb2 fb0 fb1 fb2 fb0' fb1' fb2'; have hbb := Lib.hid hb; have SX := (so_in (by assumption)).keep hb; obtain ⟨_, t0⟩ := SX.cs 0 (by omega); have u0 := SX.fz 0; obtain ⟨_, t1⟩ := SX.cs 1 (by omega); have u1 := SX.fz 1; obtain ⟨_, t2⟩ := SX.cs 2 (by omega); have u2 := SX.fz 2; obtain ⟨_, t3⟩ := SX.cs 3 (by omega); have u3 := SX.fz 3; obtain ⟨_, t4⟩ := SX.cs 4 (by omega); have u4 := SX.fz 4; obtain ⟨_, t5⟩ := SX.cs 5 (by omega); have u5 := SX.fz 5; obtain ⟨_, t6⟩ := SX.cs 6 (by omega); have u6 := SX.fz 6; obtain ⟨_, t7⟩ := SX.cs 7 (by omega); have u7 := SX.fz 7; obtain ⟨_, t8⟩ := SX.cs 8 (by omega); have u8 := SX.fz 8; have SX := Lib.hid SX))
  obtain ⟨ra0, ra1, ra2, fa0, fa1, fa2⟩ := RA.out
  obtain ⟨rb0, rb1, rb2, fb0, fb1, fb2⟩ := RB.out
  have hba := hba.out
  have hbb := hbb.out
  have sa := hba.size
  have sb := hbb.size
  have s3 := SG.out.lt
  have zd : w3.drew.heap.size = w3.heap.size := rfl
  go_wp2
  refine bodyPost_ret (v := .tuple #[.agg #[.slice (some ⟨ga0, 0, none⟩) xs.length ca0, .slice (some ⟨ga1, 0, none⟩) xs.length ca1, .slice (some ⟨ga2, 0, none⟩) (Tr.krs xs).length ca2, .slice (some ⟨gb0, 0, none⟩) ys.length cb0, .slice (some ⟨gb1, 0, none⟩) ys.length cb1, .slice (some ⟨gb2, 0, none⟩) (Tr.krs ys).length cb2, .slice K0 n0 c0, .slice K1 n1 c1, .slice K2 n2 c2], .bool true]) ?_ rfl ?_
  · rw [results_cell_tmp rfl]
    go_simp
  · exact ⟨ga0, ga1, ga2, gb0, gb1, gb2, ca0, ca1, ca2, cb0, cb1, cb2, rfl, row_set9 (own_below ra0 hbb) (by omega) (by omega) _ _ _ _ _ _ _ _ _, row_set9 (own_below ra1 hbb) (by omega) (by omega) _ _ _ _ _ _ _ _ _, row_set9 (own_below ra2 hbb) (by omega) (by omega) _ _ _ _ _ _ _ _ _, row_set9 rb0 (by omega) (by omega) _ _ _ _ _ _ _ _ _, row_set9 rb1 (by omega) (by omega) _ _ _ _ _ _ _ _ _, row_set9 rb2 (by omega) (by omega) _ _ _ _ _ _ _ _ _, (SX.out.set9 _ _ _ _ _ _ _ _ _).bl⟩

end Go.Proofs.Ytajplmopdipbnaa

/- Contracts (DistS). -/
namespace Go.Proofs.Ytajplmopdipbnaa
open Go.RowKit
set_option linter.unusedVariables false

theorem World.ownsRow_new (w : World) : (w.alloc (.cells #[] 3)).ownsRow w.heap.size 3 1 (.slice (some ⟨w.heap.size, 0, none⟩) 0 0) 0 (ints []) := World.ownsRow_lit (base := w.heap.size) (e := 3) (size := 1) w #[] 0 (Nat.le_refl _) (Nat.zero_le _) rfl
/-- six cells stand; the world has only grown -/
def RdG (w0 wq : World) : Prop := Below w0.heap.size w0 wq
theorem rd_keep {w0 wx wq : World} {p0 p1 p2 p3 p4 p5 : Addr} {u0 u1 u2 u3 u4 u5 : Option Value} (hl : p0.block < w0.heap.size ∧ p1.block < w0.heap.size ∧ p2.block < w0.heap.size ∧ p3.block < w0.heap.size ∧ p4.block < w0.heap.size ∧ p5.block < w0.heap.size) (hS : wx.cell? p0 = u0 ∧ wx.cell? p1 = u1 ∧ wx.cell? p2 = u2 ∧ wx.cell? p3 = u3 ∧ wx.cell? p4 = u4 ∧ wx.cell? p5 = u5 ∧ RdG w0 wx) (hb : Below wx.heap.size wx wq) : wq.cell? p0 = u0 ∧ wq.cell? p1 = u1 ∧ wq.cell? p2 = u2 ∧ wq.cell? p3 = u3 ∧ wq.cell? p4 = u4 ∧ wq.cell? p5 = u5 ∧ RdG w0 wq := by
  obtain ⟨h0, h1, h2, h3, h4, h5, hB⟩ := hS
  obtain ⟨l0, l1, l2, l3, l4, l5⟩ := hl
  have hz := (show Below w0.heap.size w0 wx from hB).size
  exact ⟨by rw [hb.cell (Nat.lt_of_lt_of_le l0 hz), h0], by rw [hb.cell (Nat.lt_of_lt_of_le l1 hz), h1], by rw [hb.cell (Nat.lt_of_lt_of_le l2 hz), h2], by rw [hb.cell (Nat.lt_of_lt_of_le l3 hz), h3], by rw [hb.cell (Nat.lt_of_lt_of_le l4 hz), h4], by rw [hb.cell (Nat.lt_of_lt_of_le l5 hz), h5], Below.trans hB (hb.mono hz)⟩
theorem rd_below {w0 wx : World} {p0 p1 p2 p3 p4 p5 : Addr} {u0 u1 u2 u3 u4 u5 : Option Value} (hS : wx.cell? p0 = u0 ∧ wx.cell? p1 = u1 ∧ wx.cell? p2 = u2 ∧ wx.cell? p3 = u3 ∧ wx.cell? p4 = u4 ∧ wx.cell? p5 = u5 ∧ RdG w0 wx) : Below w0.heap.size w0 wx := hS.2.2.2.2.2.2
section
variable (A A' : Option Addr) (n n' c c' : Nat) (xs ys : Tr) (K0 K1 K2 : Option Addr) (n0 n1 n2 c0 c1 c2 : Nat) (k : Co) (w : World) (ha : NdIn w w.heap.size A n xs) (hb : NdIn w w.heap.size A' n' ys) (hk : CoIn w w.heap.size K0 K1 K2 n0 n1 n2 k)
    (hn : n ≤ 1048576) (hn' : n' ≤ 1048576) (h0 : n0 ≤ 1048576) (h1 : n1 ≤ 1048576) (h2 : n2 ≤ 1048576)
include ha hb hk hn hn' h0 h1 h2
set_option maxHeartbeats 1600000 in
set_option maxRecDepth 100000 in
theorem specTreeDists_any : Calls Try.prog 42 #[.slice A n c, .slice A' n' c', .agg #[.slice K0 n0 c0, .slice K1 n1 c1, .slice K2 n2 c2]] w (OwnInts 3 (Tr.dists xs ys k) w) := by
  obtain ⟨wc, hwc⟩ : ∃ wc, wc = w.alloc (.cells #[.slice K0 n0 c0, .slice K1 n1 c1, .slice K2 n2 c2] 27) := ⟨_, rfl⟩
  have hbc : Below w.heap.size w wc := by rw [hwc]; exact (Below.refl _ _).alloc (Nat.le_refl _) _
  have HQ := Lib.hid (show Box3 wc w.heap.size (.slice K0 n0 c0) (.slice K1 n1 c1) (.slice K2 n2 c2) by rw [hwc]; exact Box3.made _ _ _ _ _)
  have HL := Lib.hid (show w.heap.size < wc.heap.size by rw [hwc]; simp)
  have HWC := Lib.hid hwc
  have HA := Lib.hid (ha.to_below hbc)
  have HB := Lib.hid (hb.to_below hbc)
  have HK := Lib.hid (hk.to_below hbc)
  have HBC := Lib.hid hbc
  cases hd : DOk xs ys k with
  | false =>
    have Hf := Lib.hid (show Tr.dists xs ys k = [] by unfold DOk at hd; unfold Tr.dists; rw [hd]; rfl)
    have HD := Lib.hid (show (Tr.ok xs && Tr.ok ys && Co.ok k) = false from hd)
    clear ha hb hk hd hwc hbc
    go_enter Try.func42, Try.ntmps42
    go_wp2_with fail
    rw [← HWC.out]
    refine (l8Three_any (c := _) (c' := _) (c0 := _) (c1 := _) (c2 := _) (ha := HA.out) (hb := HB.out) (hk := HK.out) (hn := hn) (hn' := hn') (h0 := h0) (h1 := h1) (h2 := h2)).mono ?_
    rintro e w1 ⟨rfl, b1⟩
    have HA := Lib.hid (HA.out.to_below b1)
    have HB := Lib.hid (HB.out.to_below b1)
    have HK := Lib.hid (HK.out.to_below b1)
    have HQ := Lib.hid (HQ.out.below b1 HL.out)
    have HL := Lib.hid (Nat.lt_of_lt_of_le HL.out b1.size)
    have HBC := Lib.hid (HBC.out.trans (b1.mono HBC.out.size))
    clear b1
    rw [HD.out]
    go_wp2
    go_ret
    rw [Hf.out]
    have HBC2 := HBC.out
    exact ⟨some ⟨w1.heap.size, 0, none⟩, 0, rfl, own_base (World.ownsRow_new w1) HBC2.size, HBC2.alloc (by have := HBC2.size; omega) _⟩
  | true =>
    obtain ⟨o1, o2, o3⟩ := DOk.parts hd
    have Hf := Lib.hid (show Tr.dists xs ys k = Tr.tds xs ys k by unfold DOk at hd; unfold Tr.dists; rw [hd]; rfl)
    have HD := Lib.hid (show (Tr.ok xs && Tr.ok ys && Co.ok k) = true from hd)
    have O1 := Lib.hid o1
    have O2 := Lib.hid o2
    have O3 := Lib.hid o3
    clear ha hb hk hd hwc hbc o1 o2 o3
    go_enter Try.func42, Try.ntmps42
    go_wp2_with fail
    rw [← HWC.out]
    refine (l8Three_any (c := _) (c' := _) (c0 := _) (c1 := _) (c2 := _) (ha := HA.out) (hb := HB.out) (hk := HK.out) (hn := hn) (hn' := hn') (h0 := h0) (h1 := h1) (h2 := h2)).mono ?_
    rintro e w1 ⟨rfl, b1⟩
    have HA := Lib.hid (HA.out.to_below b1)
    have HB := Lib.hid (HB.out.to_below b1)
    have HK := Lib.hid (HK.out.to_below b1)
    have HQ := Lib.hid (HQ.out.below b1 HL.out)
    have HL := Lib.hid (Nat.lt_of_lt_of_le HL.out b1.size)
    have HBC := Lib.hid (HBC.out.trans (b1.mono HBC.out.size))
    clear b1
    rw [HD.out]
    obtain ⟨q0, q1, q2⟩ := HQ.out
    go_wp2_with fail
    clear q0 q1 q2
    refine (l8All_any _ _ _ _ _ _ xs ys _ _ _ _ _ _ _ _ _ k _ HA.out HB.out HK.out O1.out O2.out O3.out).mono ?_
    rintro e w2 ⟨hf, nm, f, hnm, rfl, ot, of_, hF, b2⟩
    have BB := Lib.hid (HBC.out.trans (b2.mono HBC.out.size))
    have OT := Lib.hid ot
    have NM := Lib.hid hnm
    clear hnm ot of_ hF b2
    go_wp2
    go_ret
    rw [Hf.out]
    refine ⟨some ⟨w1.heap.size + 1, 0, none⟩, nm, ?_, ?_, BB.out⟩
    · rw [Tr.tds_length, ← NM.out]; rfl
    · rw [Tr.tds_length, ← NM.out]; exact own_base OT.out HBC.out.size
set_option maxHeartbeats 1600000 in
set_option maxRecDepth 100000 in
theorem specTreeDist_any : Calls Try.prog 28 #[.slice A n c, .slice A' n' c', .agg #[.slice K0 n0 c0, .slice K1 n1 c1, .slice K2 n2 c2]] w fun e w' => e = .returned (.int .i64 (Tr.dist xs ys k)) ∧ Below w.heap.size w w' := by
  obtain ⟨wc, hwc⟩ : ∃ wc, wc = w.alloc (.cells #[.slice K0 n0 c0, .slice K1 n1 c1, .slice K2 n2 c2] 27) := ⟨_, rfl⟩
  have hbc : Below w.heap.size w wc := by rw [hwc]; exact (Below.refl _ _).alloc (Nat.le_refl _) _
  have HWC := Lib.hid hwc
  have HA := Lib.hid (ha.to_below hbc)
  have HB := Lib.hid (hb.to_below hbc)
  have HK := Lib.hid (hk.to_below hbc)
  have HBC := Lib.hid hbc
  have Hc := Lib.hid (specTreeDists_any A A' n n' c c' xs ys K0 K1 K2 n0 n1 n2 c0 c1 c2 k wc HA.out HB.out HK.out hn hn' h0 h1 h2)
  cases hd : DOk xs ys k with
  | false =>
    have Hf := Lib.hid (show Tr.dists xs ys k = [] by unfold DOk at hd; unfold Tr.dists; rw [hd]; rfl)
    have Hg := Lib.hid (show Tr.dist xs ys k = -1 by unfold DOk at hd; unfold Tr.dist; rw [hd]; rfl)
    clear ha hb hk hd hwc hbc
    go_enter Try.func28, Try.ntmps28
    go_wp2_with fail
    rw [← HWC.out]
    refine Hc.out.mono ?_
    rintro e w1 ⟨A1, c1, rfl, o1, b1⟩
    have BB1 := Lib.hid (HBC.out.trans (b1.mono HBC.out.size))
    clear b1 o1
    rw [Hf.out]
    go_wp2
    go_ret
    exact ⟨Kit.ret_int Hg.out.symm, BB1.out⟩
  | true =>
    obtain ⟨o1, o2, o3⟩ := DOk.parts hd
    obtain ⟨x1, x24⟩ := Tr.len24 o1
    obtain ⟨y1, y24⟩ := Tr.len24 o2
    obtain ⟨nm, hnm⟩ : ∃ nm, nm = xs.length * ys.length := ⟨_, rfl⟩
    have hnm1 : nm ≤ 576 := by rw [hnm]; exact Nat.mul_le_mul x24 y24
    have hnm0 : 0 < nm := by rw [hnm]; exact Nat.mul_pos (by omega) (by omega)
    obtain ⟨m1, hm1⟩ : ∃ m1, m1 = nm - 1 := ⟨_, rfl⟩
    have Hf := Lib.hid (show Tr.dists xs ys k = Tr.tds xs ys k by unfold DOk at hd; unfold Tr.dists; rw [hd]; rfl)
    have Hg := Lib.hid (show Tr.dist xs ys k = Zs.at (Tr.tds xs ys k) m1 by unfold DOk at hd; unfold Tr.dist; rw [hd, hm1, hnm, Tr.tds_last o1 o2]; rfl)
    have Hl := Lib.hid (show (Tr.tds xs ys k).length = nm by rw [Tr.tds_length, hnm])
    have e0 : ((nm : Int) == 0) = false := by simp; omega
    have e1 : (nm : Int) - 1 = (m1 : Int) := by omega
    have a1 : IntKind.i64.wrap ((nm : Int) - 1) = (m1 : Int) := by rw [Kit.w64 (by omega) (by omega)]; exact e1
    have k1 : (0 : Int) ≤ (m1 : Int) := by omega
    have k2 : (m1 : Int) < (nm : Int) := by omega
    have hlt : m1 < nm := by omega
    clear ha hb hk hd hwc hbc o1 o2 o3 hnm hm1
    go_enter Try.func28, Try.ntmps28
    go_wp2_with fail
    rw [← HWC.out]
    refine Hc.out.mono ?_
    rintro e w1 ⟨A1, c1, rfl, o1, b1⟩
    have BB1 := Lib.hid (HBC.out.trans (b1.mono HBC.out.size))
    rw [Hf.out, Hl.out] at o1
    rw [Hf.out, Hl.out]
    obtain ⟨ad, rfl, _, l1⟩ := (IntIn.of_own o1).at_ hlt
    clear b1 o1
    go_wp2
    go_ret
    exact ⟨Kit.ret_int Hg.out.symm, BB1.out⟩
set_option maxHeartbeats 1600000 in
set_option maxRecDepth 100000 in
theorem specRootDist_any : Calls Try.prog 18 #[.slice A n c, .slice A' n' c', .agg #[.slice K0 n0 c0, .slice K1 n1 c1, .slice K2 n2 c2]] w fun e w' => e = .returned (.int .i64 (Tr.rootDist xs ys k)) ∧ Below w.heap.size w w' := by
  obtain ⟨wc, hwc⟩ : ∃ wc, wc = w.alloc (.cells #[.slice K0 n0 c0, .slice K1 n1 c1, .slice K2 n2 c2] 27) := ⟨_, rfl⟩
  have hbc : Below w.heap.size w wc := by rw [hwc]; exact (Below.refl _ _).alloc (Nat.le_refl _) _
  have HQ := Lib.hid (show Box3 wc w.heap.size (.slice K0 n0 c0) (.slice K1 n1 c1) (.slice K2 n2 c2) by rw [hwc]; exact Box3.made _ _ _ _ _)
  have HL := Lib.hid (show w.heap.size < wc.heap.size by rw [hwc]; simp)
  have HWC := Lib.hid hwc
  have HA := Lib.hid (ha.to_below hbc)
  have HB := Lib.hid (hb.to_below hbc)
  have HK := Lib.hid (hk.to_below hbc)
  have HBC := Lib.hid hbc
  cases hd : DOk xs ys k with
  | false =>
    have Hf := Lib.hid (show Tr.rootDist xs ys k = -1 by unfold DOk at hd; unfold Tr.rootDist; rw [hd]; rfl)
    have HD := Lib.hid (show (Tr.ok xs && Tr.ok ys && Co.ok k) = false from hd)
    clear ha hb hk hd hwc hbc
    go_enter Try.func18, Try.ntmps18
    go_wp2_with fail
    rw [← HWC.out]
    refine (l8Three_any (c := _) (c' := _) (c0 := _) (c1 := _) (c2 := _) (ha := HA.out) (hb := HB.out) (hk := HK.out) (hn := hn) (hn' := hn') (h0 := h0) (h1 := h1) (h2 := h2)).mono ?_
    rintro e w1 ⟨rfl, b1⟩
    have HA := Lib.hid (HA.out.to_below b1)
    have HB := Lib.hid (HB.out.to_below b1)
    have HK := Lib.hid (HK.out.to_below b1)
    have HQ := Lib.hid (HQ.out.below b1 HL.out)
    have HL := Lib.hid (Nat.lt_of_lt_of_le HL.out b1.size)
    have HBC := Lib.hid (HBC.out.trans (b1.mono HBC.out.size))
    clear b1
    rw [HD.out]
    go_wp2
    go_ret
    exact ⟨Kit.ret_int Hf.out.symm, HBC.out⟩
  | true =>
    obtain ⟨o1, o2, o3⟩ := DOk.parts hd
    obtain ⟨x1, x24⟩ := Tr.len24 o1
    obtain ⟨y1, y24⟩ := Tr.len24 o2
    have hln := ha.1
    have hln' := hb.1
    obtain ⟨ad, rfl, had⟩ := ha.2.1 (by omega)
    obtain ⟨bd, rfl, hbd⟩ := hb.2.1 (by omega)
    obtain ⟨x, hx⟩ : ∃ x, x = n - 1 := ⟨_, rfl⟩
    obtain ⟨y, hy⟩ : ∃ y, y = n' - 1 := ⟨_, rfl⟩
    obtain ⟨v, hv⟩ : ∃ v, v = x * (n' + 1) := ⟨_, rfl⟩
    obtain ⟨t, ht⟩ : ∃ t, t = v + n' := ⟨_, rfl⟩
    obtain ⟨u, hu⟩ : ∃ u, u = v + y := ⟨_, rfl⟩
    obtain ⟨nf, hnf⟩ : ∃ nf, nf = (xs.length + 1) * (ys.length + 1) := ⟨_, rfl⟩
    have hv6 : v ≤ 24 * 25 := by rw [hv]; exact Nat.mul_le_mul (by omega) (by omega)
    have huf : u < nf := by
      rw [hu, hv, hnf, hln, hln']
      exact idx_lt (by omega) (by omega)
    have n3 := (Co.nonneg' k).2.2 (Tr.l xs 0) (Tr.l ys 0)
    have bdd := RR_bound (k := k) o1 o2 (p := 0) (a := x) (q := 0) (b := y) (Nat.zero_le _) (by omega) (Nat.zero_le _) (by omega)
    have Hf := Lib.hid (show Tr.rootDist xs ys k = RR xs ys k 0 x 0 y + Co.rel k (Tr.l xs 0) (Tr.l ys 0) by unfold DOk at hd; unfold Tr.rootDist; rw [hd, hx, hy, ← hln, ← hln']; rfl)
    have O1 := Lib.hid o1
    have O2 := Lib.hid o2
    have O3 := Lib.hid o3
    have HD := Lib.hid (show (Tr.ok xs && Tr.ok ys && Co.ok k) = true from hd)
    have UX := Lib.hid (show x ≤ xs.length ∧ y ≤ ys.length ∧ u = x * (ys.length + 1) + y by refine ⟨by omega, by omega, by rw [hu, hv, hln']⟩)
    have m1 : (x : Int) * ((n' : Int) + 1) = (v : Int) := by rw [hv]; push_cast; rfl
    have a1 : IntKind.i64.wrap ((n : Int) - 1) = (x : Int) := by rw [Kit.w64 (by omega) (by omega)]; omega
    have a2 : IntKind.i64.wrap ((x : Int) * ((n' : Int) + 1)) = (v : Int) := by rw [m1, Kit.w64 (by omega) (by omega)]
    have a3 : IntKind.i64.wrap ((v : Int) + (n' : Int)) = (t : Int) := by rw [Kit.w64 (by omega) (by omega)]; omega
    have a4 : IntKind.i64.wrap ((t : Int) - 1) = (u : Int) := by rw [Kit.w64 (by omega) (by omega)]; omega
    have a5 : IntKind.i64.wrap (RR xs ys k 0 x 0 y + Co.rel k (Tr.l xs 0) (Tr.l ys 0)) = RR xs ys k 0 x 0 y + Co.rel k (Tr.l xs 0) (Tr.l ys 0) := Kit.w64 (by omega) (by omega)
    have k1 : (0 : Int) ≤ (u : Int) := by omega
    have k2 : (u : Int) < (nf : Int) := by omega
    have k3 : 0 < n := by omega
    have k4 : 0 < n' := by omega
    have NF := Lib.hid hnf
    clear ha hb hk hd hwc hbc o1 o2 o3 hx hy hv ht hu hnf m1 hln hln' x1 y1
    go_enter Try.func18, Try.ntmps18
    go_wp2_with fail
    rw [← HWC.out]
    refine (l8Three_any (c := _) (c' := _) (c0 := _) (c1 := _) (c2 := _) (ha := HA.out) (hb := HB.out) (hk := HK.out) (hn := hn) (hn' := hn') (h0 := h0) (h1 := h1) (h2 := h2)).mono ?_
    rintro e w1 ⟨rfl, b1⟩
    have HA := Lib.hid (HA.out.to_below b1)
    have HB := Lib.hid (HB.out.to_below b1)
    have HK := Lib.hid (HK.out.to_below b1)
    have HQ := Lib.hid (HQ.out.below b1 HL.out)
    have HL := Lib.hid (Nat.lt_of_lt_of_le HL.out b1.size)
    have HBC := Lib.hid (HBC.out.trans (b1.mono HBC.out.size))
    clear b1
    rw [HD.out]
    obtain ⟨q0, q1, q2⟩ := HQ.out
    go_wp2_with fail
    clear q0 q1 q2
    refine (l8All_any _ _ _ _ _ _ xs ys _ _ _ _ _ _ _ _ _ k _ HA.out HB.out HK.out O1.out O2.out O3.out).mono ?_
    rintro e w2 ⟨hf, nm, f, hnm, rfl, ot, of_, hF, b2⟩
    rw [← NF.out] at of_ ⊢
    have FO := hF x y UX.out.1 UX.out.2.1
    rw [← UX.out.2.2] at FO
    have hlen : f.length = nf := by have := of_.1; rw [ints_length] at this; omega
    have cf := own_int of_ (k := u) (by rw [hlen]; exact huf)
    rw [FO] at cf
    have HA := Lib.hid (HA.out.to_below b2)
    have HB := Lib.hid (HB.out.to_below b2)
    have HK := Lib.hid (HK.out.to_below b2)
    have HQ := Lib.hid (HQ.out.below b2 HL.out)
    have HL := Lib.hid (Nat.lt_of_lt_of_le HL.out b2.size)
    have BB := Lib.hid (HBC.out.trans (b2.mono HBC.out.size))
    have LF := Lib.hid (show (⟨hf, u, none⟩ : Addr).block < w2.heap.size ∧ (⟨w.heap.size, 0, none⟩ : Addr).block < w2.heap.size ∧ (⟨w.heap.size, 1, none⟩ : Addr).block < w2.heap.size ∧ (⟨w.heap.size, 2, none⟩ : Addr).block < w2.heap.size ∧ (ad : Addr).block < w2.heap.size ∧ (bd : Addr).block < w2.heap.size from ⟨(of_.lt hf rfl).2, HL.out, HL.out, HL.out, by (try rw [block_of_add]); have := HL.out; omega, by (try rw [block_of_add]); have := HL.out; omega⟩)
    have S0 := Lib.hid (show w2.drew.cell? ⟨hf, u, none⟩ = some (.int .i64 (RR xs ys k 0 x 0 y)) ∧ w2.drew.cell? ⟨w.heap.size, 0, none⟩ = some (.slice K0 n0 c0) ∧ w2.drew.cell? ⟨w.heap.size, 1, none⟩ = some (.slice K1 n1 c1) ∧ w2.drew.cell? ⟨w.heap.size, 2, none⟩ = some (.slice K2 n2 c2) ∧ w2.drew.cell? ad = some (.int .i64 (Tr.l xs 0)) ∧ w2.drew.cell? bd = some (.int .i64 (Tr.l ys 0)) ∧ RdG w2 w2.drew from ⟨cf, HQ.out.1, HQ.out.2.1, HQ.out.2.2, (by have h := (HA.out.here (k := 0) (by omega)).1; simpa [Addr.add] using h), (by have h := (HB.out.here (k := 0) (by omega)).1; simpa [Addr.add] using h), (Drawn.refl _).drew.toBelow⟩)
    clear hnm ot of_ hF b2 FO cf hlen
    go_wp2_with fail
    go_region_held3 (fun wq => wq.cell? ⟨hf, u, none⟩ = some (.int .i64 (RR xs ys k 0 x 0 y)) ∧ wq.cell? ⟨w.heap.size, 0, none⟩ = some (.slice K0 n0 c0) ∧ wq.cell? ⟨w.heap.size, 1, none⟩ = some (.slice K1 n1 c1) ∧ wq.cell? ⟨w.heap.size, 2, none⟩ = some (.slice K2 n2 c2) ∧ wq.cell? ad = some (.int .i64 (Tr.l xs 0)) ∧ wq.cell? bd = some (.int .i64 (Tr.l ys 0)) ∧ RdG w2 wq) (first | (with_reducible exact S0.out) | (with_reducible refine rd_keep LF.out ?_ hb; with_reducible assumption)) (first | (go_at_call 60; refine (specRelCost_any _ _ _ _ _ _ _ _ _ k (Tr.l xs 0) (Tr.l ys 0) _ (HK.out.to_below (rd_below (by assumption))) h0 h1 h2).mono ?_; rintro e w5 ⟨rfl, hb⟩; have hbr := hb))
    have BF := Lib.hid (BB.out.trans (((Drawn.refl w2).drew.toBelow (B := w2.heap.size)).trans hbr |>.mono BB.out.size))
    go_wp2
    go_ret
    exact ⟨Kit.ret_int Hf.out.symm, BF.out⟩
end

end Go.Proofs.Ytajplmopdipbnaa

/- Contracts (DelX). -/
namespace Go.Proofs.Ytajplmopdipbnaa
open Go.RowKit
set_option linter.unusedVariables false

/-- two trees and the costs, as nine cells at the head of a block; the rows that they name -/
structure SD (g : Nat) (a0 a1 b0 b1 k0 k1 k2 : Addr) (ca0 ca1 cb0 cb1 ck0 ck1 ck2 : Nat) (xs ys : Tr) (k : Co) (w : World) : Prop where
  h0 : w.cell? ⟨g, 0, none⟩ = some (.slice (some a0) xs.length ca0)
  h1 : w.cell? ⟨g, 1, none⟩ = some (.slice (some a1) xs.length ca1)
  h3 : w.cell? ⟨g, 3, none⟩ = some (.slice (some b0) ys.length cb0)
  h4 : w.cell? ⟨g, 4, none⟩ = some (.slice (some b1) ys.length cb1)
  h6 : w.cell? ⟨g, 6, none⟩ = some (.slice (some k0) 6 ck0)
  h7 : w.cell? ⟨g, 7, none⟩ = some (.slice (some k1) 6 ck1)
  h8 : w.cell? ⟨g, 8, none⟩ = some (.slice (some k2) 36 ck2)
  ra0 : ∀ x, x < xs.length → w.cell? (a0.add x) = some (.int .i64 (Tr.xa xs x))
  ra1 : ∀ x, x < xs.length → w.cell? (a1.add x) = some (.int .i64 (Tr.la xs x))
  rb0 : ∀ y, y < ys.length → w.cell? (b0.add y) = some (.int .i64 (Tr.xa ys y))
  rb1 : ∀ y, y < ys.length → w.cell? (b1.add y) = some (.int .i64 (Tr.la ys y))
  rk0 : ∀ u, u < 6 → w.cell? (k0.add u) = some (.int .i64 (Zs.at k.d u))
  rk1 : ∀ u, u < 6 → w.cell? (k1.add u) = some (.int .i64 (Zs.at k.i u))
  rk2 : ∀ u, u < 36 → w.cell? (k2.add u) = some (.int .i64 (Zs.at k.r u))
section
variable {g : Nat} {a0 a1 b0 b1 k0 k1 k2 : Addr} {ca0 ca1 cb0 cb1 ck0 ck1 ck2 : Nat} {xs ys : Tr} {k : Co} {w w' : World}
/-- the labels, as they are read -/
theorem SD.la0 (h : SD g a0 a1 b0 b1 k0 k1 k2 ca0 ca1 cb0 cb1 ck0 ck1 ck2 xs ys k w) (hx : Tr.ok xs = true) {x : Nat} (hxl : x < xs.length) : ∃ u : Nat, u < 6 ∧ Tr.xa xs x = (u : Int) ∧ w.cell? (a0.add x) = some (.int .i64 (u : Int)) := by
  obtain ⟨u, hu, e⟩ := Tr.xa_lab hx hxl
  exact ⟨u, hu, e, by rw [h.ra0 x hxl, e]⟩
theorem SD.lb0 (h : SD g a0 a1 b0 b1 k0 k1 k2 ca0 ca1 cb0 cb1 ck0 ck1 ck2 xs ys k w) (hy : Tr.ok ys = true) {y : Nat} (hyl : y < ys.length) : ∃ u : Nat, u < 6 ∧ Tr.xa ys y = (u : Int) ∧ w.cell? (b0.add y) = some (.int .i64 (u : Int)) := by
  obtain ⟨u, hu, e⟩ := Tr.xa_lab hy hyl
  exact ⟨u, hu, e, by rw [h.rb0 y hyl, e]⟩
theorem SD.drawn (h : SD g a0 a1 b0 b1 k0 k1 k2 ca0 ca1 cb0 cb1 ck0 ck1 ck2 xs ys k w) (hd : Drawn w w') : SD g a0 a1 b0 b1 k0 k1 k2 ca0 ca1 cb0 cb1 ck0 ck1 ck2 xs ys k w' := by obtain ⟨m, rfl⟩ := hd; exact ⟨h.h0, h.h1, h.h3, h.h4, h.h6, h.h7, h.h8, h.ra0, h.ra1, h.rb0, h.rb1, h.rk0, h.rk1, h.rk2⟩
end
set_option maxHeartbeats 800000 in
set_option maxRecDepth 100000 in
theorem sidesDel_any (g : Nat) (a0 a1 b0 b1 k0 k1 k2 : Addr) (ca0 ca1 cb0 cb1 ck0 ck1 ck2 : Nat) (xs ys : Tr) (k : Co) (w : World) (h : SD g a0 a1 b0 b1 k0 k1 k2 ca0 ca1 cb0 cb1 ck0 ck1 ck2 xs ys k w) (hx : Tr.ok xs = true) (hk : Co.ok k = true) (x : Nat) (hxl : x < xs.length) :
    Calls Try.prog 100 #[.pointer (some ⟨g, 0, none⟩), .int .i64 x] w fun e w' => e = .returned (.int .i64 (Co.del k (Tr.xa xs x))) ∧ Drawn w w' := by
  obtain ⟨u, hu, e, c1⟩ := h.la0 hx hxl
  have c2 := h.rk0 u hu
  have Hv := Lib.hid (show Co.del k (Tr.xa xs x) = Zs.at k.d u by rw [e]; exact Co.del_at hk hu)
  have c3 := h.h0
  have c4 := h.h6
  have b1 : (0 : Int) ≤ (x : Int) := by omega
  have b2 : (x : Int) < (xs.length : Int) := by omega
  have b3 : (0 : Int) ≤ (u : Int) := by omega
  have b4 : (u : Int) < 6 := by omega
  clear h e hx hk
  go_enter Try.func100, Try.ntmps100
  go_wp2_with fail
  go_quiet (fail)
  go_wp2
  go_ret
  exact ⟨Kit.ret_int Hv.out.symm, (Drawn.refl _).drewN _⟩
set_option maxHeartbeats 800000 in
set_option maxRecDepth 100000 in
theorem sidesIns_any (g : Nat) (a0 a1 b0 b1 k0 k1 k2 : Addr) (ca0 ca1 cb0 cb1 ck0 ck1 ck2 : Nat) (xs ys : Tr) (k : Co) (w : World) (h : SD g a0 a1 b0 b1 k0 k1 k2 ca0 ca1 cb0 cb1 ck0 ck1 ck2 xs ys k w) (hy : Tr.ok ys = true) (hk : Co.ok k = true) (y : Nat) (hyl : y < ys.length) :
    Calls Try.prog 102 #[.pointer (some ⟨g, 0, none⟩), .int .i64 y] w fun e w' => e = .returned (.int .i64 (Co.ins k (Tr.xa ys y))) ∧ Drawn w w' := by
  obtain ⟨u, hu, e, c1⟩ := h.lb0 hy hyl
  have c2 := h.rk1 u hu
  have Hv := Lib.hid (show Co.ins k (Tr.xa ys y) = Zs.at k.i u by rw [e]; exact Co.ins_at hk hu)
  have c3 := h.h3
  have c4 := h.h7
  have b1 : (0 : Int) ≤ (y : Int) := by omega
  have b2 : (y : Int) < (ys.length : Int) := by omega
  have b3 : (0 : Int) ≤ (u : Int) := by omega
  have b4 : (u : Int) < 6 := by omega
  clear h e hy hk
  go_enter Try.func102, Try.ntmps102
  go_wp2_with fail
  go_quiet (fail)
  go_wp2
  go_ret
  exact ⟨Kit.ret_int Hv.out.symm, (Drawn.refl _).drewN _⟩
set_option maxHeartbeats 800000 in
set_option maxRecDepth 100000 in
theorem sidesRel_any (g : Nat) (a0 a1 b0 b1 k0 k1 k2 : Addr) (ca0 ca1 cb0 cb1 ck0 ck1 ck2 : Nat) (xs ys : Tr) (k : Co) (w : World) (h : SD g a0 a1 b0 b1 k0 k1 k2 ca0 ca1 cb0 cb1 ck0 ck1 ck2 xs ys k w) (hx : Tr.ok xs = true) (hy : Tr.ok ys = true) (hk : Co.ok k = true) (x y : Nat) (hxl : x < xs.length) (hyl : y < ys.length) :
    Calls Try.prog 57 #[.pointer (some ⟨g, 0, none⟩), .int .i64 x, .int .i64 y] w fun e w' => e = .returned (.int .i64 (Co.rel k (Tr.xa xs x) (Tr.xa ys y))) ∧ Drawn w w' := by
  obtain ⟨u, hu, e, c1⟩ := h.la0 hx hxl
  obtain ⟨v, hv, e', c1'⟩ := h.lb0 hy hyl
  obtain ⟨p, hp⟩ : ∃ p, p = u * 6 + v := ⟨_, rfl⟩
  have c2 := h.rk2 p (by omega)
  have Hv := Lib.hid (show Co.rel k (Tr.xa xs x) (Tr.xa ys y) = Zs.at k.r p by rw [e, e', hp]; exact Co.rel_at hk hu hv)
  have c3 := h.h0
  have c4 := h.h3
  have c5 := h.h8
  have a3 : (u : Int) * 6 + (v : Int) = (p : Int) := by omega
  have b1 : (0 : Int) ≤ (x : Int) := by omega
  have b2 : (x : Int) < (xs.length : Int) := by omega
  have b3 : (0 : Int) ≤ (p : Int) := by omega
  have b4 : (p : Int) < 36 := by omega
  have b5 : (0 : Int) ≤ (y : Int) := by omega
  have b6 : (y : Int) < (ys.length : Int) := by omega
  clear h e e' hx hy hk hp
  go_enter Try.func57, Try.ntmps57
  go_wp2_with fail
  go_quiet (first | (go_at_call 79; exact quiet_same ((relIndex_any _ _ _ (by omega) (by omega) (by omega) (by omega)).mono fun e w' ⟨h1, h2⟩ => ⟨by rw [h1, a3], h2⟩)))
  go_wp2
  go_ret
  exact ⟨Kit.ret_int Hv.out.symm, (Drawn.refl _).drewN _⟩

section
variable {B : Nat} {D : DtD} {xs ys : Tr} {k : Co} {F : Nat → Nat → Int} {T : List Int} {w : World}
theorem DT.sd (h : DT B D xs ys k F T w) (hx : Tr.ok xs = true) (hy : Tr.ok ys = true) : SD D.g D.a0 D.a1 D.b0 D.b1 D.k0 D.k1 D.k2 D.ca0 D.ca1 D.cb0 D.cb1 D.ck0 D.ck1 D.ck2 xs ys k w :=
  ⟨h.h0, h.h1, h.h3, h.h4, h.h6, h.h7, h.h8, h.ra0.at_, fun x hl => (h.ra1.at_ x hl).trans (by rw [Tr.la_up hx hl]), h.rb0.at_, fun y hl => (h.rb1.at_ y hl).trans (by rw [Tr.la_up hy hl]), h.rk0.at_, h.rk1.at_, h.rk2.at_⟩
theorem DT.la0 (h : DT B D xs ys k F T w) (hx : Tr.ok xs = true) {x : Nat} (hxl : x < xs.length) : ∃ u : Nat, u < 6 ∧ Tr.xa xs x = (u : Int) ∧ w.cell? (D.a0.add x) = some (.int .i64 (u : Int)) := by
  obtain ⟨u, hu, e⟩ := Tr.xa_lab hx hxl
  have := h.ra0.at_ x hxl
  exact ⟨u, hu, e, by rw [this, ← e]; rfl⟩
theorem DT.lb0 (h : DT B D xs ys k F T w) (hy : Tr.ok ys = true) {y : Nat} (hyl : y < ys.length) : ∃ u : Nat, u < 6 ∧ Tr.xa ys y = (u : Int) ∧ w.cell? (D.b0.add y) = some (.int .i64 (u : Int)) := by
  obtain ⟨u, hu, e⟩ := Tr.xa_lab hy hyl
  have := h.rb0.at_ y hyl
  exact ⟨u, hu, e, by rw [this, ← e]; rfl⟩
end
theorem distDel_any (B : Nat) (D : DtD) (xs ys : Tr) (k : Co) (F : Nat → Nat → Int) (T : List Int) (w : World) (h : DT B D xs ys k F T w) (hx : Tr.ok xs = true) (hy : Tr.ok ys = true) (hk : Co.ok k = true) (x : Nat) (hxl : x < xs.length) :
    Calls Try.prog 100 #[.pointer (some ⟨D.g, 0, none⟩), .int .i64 x] w fun e w' => e = .returned (.int .i64 (Co.del k (Tr.xa xs x))) ∧ Drawn w w' := sidesDel_any _ _ _ _ _ _ _ _ _ _ _ _ _ _ _ _ _ _ _ (h.sd hx hy) hx hk x hxl
theorem distIns_any (B : Nat) (D : DtD) (xs ys : Tr) (k : Co) (F : Nat → Nat → Int) (T : List Int) (w : World) (h : DT B D xs ys k F T w) (hx : Tr.ok xs = true) (hy : Tr.ok ys = true) (hk : Co.ok k = true) (y : Nat) (hyl : y < ys.length) :
    Calls Try.prog 102 #[.pointer (some ⟨D.g, 0, none⟩), .int .i64 y] w fun e w' => e = .returned (.int .i64 (Co.ins k (Tr.xa ys y))) ∧ Drawn w w' := sidesIns_any _ _ _ _ _ _ _ _ _ _ _ _ _ _ _ _ _ _ _ (h.sd hx hy) hy hk y hyl
theorem distRel_any (B : Nat) (D : DtD) (xs ys : Tr) (k : Co) (F : Nat → Nat → Int) (T : List Int) (w : World) (h : DT B D xs ys k F T w) (hx : Tr.ok xs = true) (hy : Tr.ok ys = true) (hk : Co.ok k = true) (x y : Nat) (hxl : x < xs.length) (hyl : y < ys.length) :
    Calls Try.prog 57 #[.pointer (some ⟨D.g, 0, none⟩), .int .i64 x, .int .i64 y] w fun e w' => e = .returned (.int .i64 (Co.rel k (Tr.xa xs x) (Tr.xa ys y))) ∧ Drawn w w' := sidesRel_any _ _ _ _ _ _ _ _ _ _ _ _ _ _ _ _ _ _ _ (h.sd hx hy) hx hy hk x y hxl hyl

end Go.Proofs.Ytajplmopdipbnaa

/- Contracts (Add). -/
namespace Go.Proofs.Ytajplmopdipbnaa
open Go.RowKit
set_option linter.unusedVariables false

/-- the table in a region that ends with a store into the trees -/
def DTo (B : Nat) (D : DtD) (xs ys : Tr) (k : Co) (F : Nat → Nat → Int) (T : List Int) (u : Nat) (v : Int) (w0 wq : World) : Prop :=
  (DT B D xs ys k F T wq ∨ DT B D xs ys k F (T.set u v) wq) ∧ Below B w0 wq
section
variable {B : Nat} {D : DtD} {xs ys : Tr} {k : Co} {F : Nat → Nat → Int} {T : List Int} {n : Nat} {v : Int} {w0 wx wq : World} {u c : Option Value} {q : Addr}
theorem dto_keep (hS : wx.cell? ⟨D.g, 9, none⟩ = u ∧ wx.cell? q = c ∧ DTo B D xs ys k F T n v w0 wx) (hd : Drawn wx wq) :
    wq.cell? ⟨D.g, 9, none⟩ = u ∧ wq.cell? q = c ∧ DTo B D xs ys k F T n v w0 wq := by
  obtain ⟨h1, h2, h3, h4⟩ := hS
  exact ⟨by rw [hd.cell]; exact h1, by rw [hd.cell]; exact h2, h3.imp (fun h => h.drawn hd) (fun h => h.drawn hd), hd.below h4⟩
theorem dto_rel (hS : wx.cell? ⟨D.g, 9, none⟩ = u ∧ wx.cell? q = c ∧ DTo B D xs ys k F T n v w0 wx) (hx : Tr.ok xs = true) (hy : Tr.ok ys = true) (hk : Co.ok k = true) (x y : Nat) (hxl : x < xs.length) (hyl : y < ys.length) :
    Calls Try.prog 57 #[.pointer (some ⟨D.g, 0, none⟩), .int .i64 x, .int .i64 y] wx fun e w' => e = .returned (.int .i64 (Co.rel k (Tr.xa xs x) (Tr.xa ys y))) ∧ Drawn wx w' := by
  obtain ⟨_, _, h3, _⟩ := hS
  rcases h3 with h | h
  · exact distRel_any _ _ _ _ _ _ _ _ h hx hy hk x y hxl hyl
  · exact distRel_any _ _ _ _ _ _ _ _ h hx hy hk x y hxl hyl
theorem dto_cell (hS : wx.cell? ⟨D.g, 9, none⟩ = u ∧ wx.cell? q = c ∧ DTo B D xs ys k F T n v w0 wx) (hn : n < T.length) : ∃ z, wx.cell? ⟨D.gt, n, none⟩ = some (.int .i64 z) ∧ wx.frozen? ⟨D.gt, n, none⟩ = false := by
  obtain ⟨_, _, h3, _⟩ := hS
  rcases h3 with h | h
  · exact ⟨_, own_int h.row (k := n) hn, h.row.frozenAt n⟩
  · exact ⟨_, own_int h.row (k := n) (by rw [List.length_set]; exact hn), h.row.frozenAt n⟩
theorem dto_store (hS : wx.cell? ⟨D.g, 9, none⟩ = u ∧ wx.cell? q = c ∧ DTo B D xs ys k F T n v w0 wx) (hq : q.block = D.g) :
    (wx.setCell ⟨D.gt, n, none⟩ (.int .i64 v)).cell? ⟨D.g, 9, none⟩ = u ∧ (wx.setCell ⟨D.gt, n, none⟩ (.int .i64 v)).cell? q = c ∧ DTo B D xs ys k F T n v w0 (wx.setCell ⟨D.gt, n, none⟩ (.int .i64 v)) := by
  obtain ⟨h1, h2, h3, h4⟩ := hS
  have hg : D.gt ≠ D.g := by rcases h3 with h | h <;> exact h.gg
  have hB : B ≤ D.gt := by rcases h3 with h | h <;> exact h.tB.1
  refine ⟨?_, ?_, .inr ?_, h4.setCell hB _⟩
  · rw [World.cell?_setCell_other _ _ _ _ (fun e => by injection e with e1 e2; exact hg e1)]; exact h1
  · rw [World.cell?_setCell_other _ _ _ _ (fun e => by rw [← e] at hq; exact hg hq)]; exact h2
  · rcases h3 with h | h
    · exact h.setT n v
    · have := h.setT n v
      rw [List.set_set] at this
      exact this
end
set_option maxHeartbeats 1600000 in
set_option maxRecDepth 100000 in
theorem distAdd_first (B : Nat) (D : DtD) (xs ys : Tr) (k : Co) (F : Nat → Nat → Int) (T : List Int) (w : World) (h : DT B D xs ys k F T w) (hx : Tr.ok xs = true) (hy : Tr.ok ys = true) (hk : Co.ok k = true)
    (p q x y : Nat) (hxl : x < xs.length) (hyl : y < ys.length) (hp : Tr.la xs x = p) (hq : Tr.la ys y = q) (v : Int)
    (hv : v = min (min (F x (y + 1) + Co.del k (Tr.xa xs x)) (F (x + 1) y + Co.ins k (Tr.xa ys y))) (F x y + Co.rel k (Tr.xa xs x) (Tr.xa ys y)))
    (f1 : 0 ≤ F x (y + 1) ∧ F x (y + 1) ≤ 1000000) (f2 : 0 ≤ F (x + 1) y ∧ F (x + 1) y ≤ 1000000) (f3 : 0 ≤ F x y ∧ F x y ≤ 1000000) :
    Calls Try.prog 109 #[.pointer (some ⟨D.g, 0, none⟩), .int .i64 p, .int .i64 q, .int .i64 x, .int .i64 y] w fun e w' => e = .returned (.tuple #[]) ∧ DT B D xs ys k (updF F (x + 1) (y + 1) v) (T.set (x * ys.length + y) v) w' ∧ Below B w w' := by
  obtain ⟨lx, lx'⟩ := Tr.len24 hx
  obtain ⟨ly, ly'⟩ := Tr.len24 hy
  have g1 := h.fr x (y + 1) (by omega) (by omega)
  have g2 := h.fr (x + 1) y (by omega) (by omega)
  have g3 := h.fr x y (by omega) (by omega)
  have H := Lib.hid h
  have HX := Lib.hid hx
  have HY := Lib.hid hy
  have HK := Lib.hid hk
  have Hv := Lib.hid hv
  have n1 := (Co.nonneg' k).1 (Tr.xa xs x)
  have n2 := (Co.nonneg' k).2.1 (Tr.xa ys y)
  have n3 := (Co.nonneg' k).2.2 (Tr.xa xs x) (Tr.xa ys y)
  obtain ⟨u0, hu0⟩ : ∃ u0, u0 = x * ys.length := ⟨_, rfl⟩
  have hu1 : u0 ≤ 576 := by rw [hu0]; exact Nat.mul_le_mul (show x ≤ 24 by omega) ly'
  have hu2 := idx_lt hxl hyl
  rw [← hu0] at hu2 ⊢
  obtain ⟨t0, ht0⟩ : ∃ t0, t0 = u0 + y := ⟨_, rfl⟩
  rw [← ht0] at hu2 ⊢
  have hadd : (u0 : Int) + (y : Int) = (t0 : Int) := by omega
  obtain ⟨nm, hnm⟩ : ∃ nm, nm = xs.length * ys.length := ⟨_, rfl⟩
  have hmul : (x : Int) * (ys.length : Int) = (u0 : Int) := by rw [hu0, Int.natCast_mul]
  have a3 : IntKind.i64.wrap ((x : Int) * (ys.length : Int)) = (u0 : Int) := by rw [hmul, Kit.w64 (by omega) (by omega)]
  have c9 := h.h9
  have f9 := h.row.frozenAt t0
  have t9 := own_int h.row (k := t0) (by rw [h.tlen]; exact hu2)
  rw [← hnm] at c9 hu2
  have c1 := h.h1
  have c3 := h.h3
  have c4 := h.h4
  have l1 := (h.ra1.at_ x hxl).trans (by rw [Tr.la_up hx hxl, hp])
  have l2 := (h.rb1.at_ y hyl).trans (by rw [Tr.la_up hy hyl, hq])
  have e1 : ((p : Int) == (p : Int)) = true := by simp
  have e2 : ((q : Int) == (q : Int)) = true := by simp
  have a1 : IntKind.i64.wrap ((x : Int) + 1) = ((x + 1 : Nat) : Int) := by rw [Kit.w64 (by omega) (by omega)]; omega
  have a2 : IntKind.i64.wrap ((y : Int) + 1) = ((y + 1 : Nat) : Int) := by rw [Kit.w64 (by omega) (by omega)]; omega
  have b1 : (0 : Int) ≤ (x : Int) := by omega
  have b2 : (x : Int) < 25 := by omega
  have b3 : (0 : Int) ≤ (y : Int) := by omega
  have b4 : (y : Int) < 25 := by omega
  have b5 : (0 : Int) ≤ ((x + 1 : Nat) : Int) := by omega
  have b6 : ((x + 1 : Nat) : Int) < 25 := by omega
  have b7 : (0 : Int) ≤ ((y + 1 : Nat) : Int) := by omega
  have d1 : (0 : Int) ≤ (t0 : Int) := by omega
  have d2 : (t0 : Int) < (nm : Int) := by omega
  have d3 : (x : Int) < (xs.length : Int) := by omega
  have d4 : (y : Int) < (ys.length : Int) := by omega
  have b8 : ((y + 1 : Nat) : Int) < 25 := by omega
  have HU0 := Lib.hid hu0
  have HT0 := Lib.hid ht0
  have HADD := Lib.hid hadd
  have HNM := Lib.hid hnm
  clear h hx hy hk hv ht0 hadd hu0 hnm hmul hp hq
  go_enter Try.func109, Try.ntmps109
  go_wp2_with fail
  go_quiet (first | (go_at_call 100; exact quiet_drawn (distDel_any _ _ _ _ _ _ _ _ (H.out.drawn ((Drawn.refl _).drewN _)) HX.out HY.out HK.out x hxl)) | (go_at_call 102; exact quiet_drawn (distIns_any _ _ _ _ _ _ _ _ (H.out.drawn ((Drawn.refl _).drewN _)) HX.out HY.out HK.out y hyl)))
  rw [min_if]
  obtain ⟨m0, hm0⟩ : ∃ m0, m0 = min (F x (y + 1) + Co.del k (Tr.xa xs x)) (F (x + 1) y + Co.ins k (Tr.xa ys y)) := ⟨_, rfl⟩
  rw [← hm0]
  rw [← hm0] at Hv
  have HM0 := Lib.hid hm0
  clear hm0
  go_wp2_with fail
  rw [HADD.out]
  go_quiet (fail)
  go_wp2_with fail
  generalize hw1 : World.drewN w _ = w1
  have hd1 : Drawn w w1 := ⟨_, hw1.symm⟩
  have H1 := Lib.hid (H.out.drawn hd1)
  have HD1 := Lib.hid hd1
  have g3' := (hd1.cell _).trans g3
  have c9' := (hd1.cell _).trans c9
  clear g1 g2 g3 c9 f9 t9 c1 c3 c4 l1 l2 hw1 hd1
  have HTL := Lib.hid (show t0 < T.length by rw [H.out.tlen, ← HNM.out]; exact hu2)
  have Hvv := Lib.hid (show (if IntKind.i64.wrap (F x y + Co.rel k (Tr.xa xs x) (Tr.xa ys y)) < m0 then IntKind.i64.wrap (F x y + Co.rel k (Tr.xa xs x) (Tr.xa ys y)) else m0) = v by rw [Kit.w64 (by omega) (by omega), min_if, Hv.out])
  have S0 := Lib.hid (show w1.drew.cell? ⟨D.g, 9, none⟩ = some (.slice (some ⟨D.gt, 0, none⟩) nm nm) ∧ w1.drew.cell? ⟨D.g, 10 + x * 25 + y, none⟩ = some (.int .i64 (F x y)) ∧ DTo B D xs ys k F T t0 v w1 w1.drew from ⟨c9', g3', .inl (H1.out.drawn (Drawn.refl _).drew), (Drawn.refl _).drew.toBelow⟩)
  go_region_held3 (fun wq => wq.cell? ⟨D.g, 9, none⟩ = some (.slice (some ⟨D.gt, 0, none⟩) nm nm) ∧ wq.cell? ⟨D.g, 10 + x * 25 + y, none⟩ = some (.int .i64 (F x y)) ∧ DTo B D xs ys k F T t0 v w1 wq) (first | exact S0.out | (refine dto_keep ?_ hd; assumption) | (rw [Hvv.out]; exact dto_store (dto_keep (by assumption) hd) rfl)) (first | (go_at_call 57; refine (dto_rel (by assumption) HX.out HY.out HK.out x y hxl hyl).mono ?_; rintro e w5 ⟨rfl, hd⟩; obtain ⟨z5, tc5, tf5⟩ := dto_cell (dto_keep (by assumption) hd) HTL.out))
  rw [Hvv.out]
  obtain ⟨w6, hw6⟩ : ∃ w6, w6 = w5.setCell ⟨D.gt, t0, none⟩ (.int .i64 v) := ⟨_, rfl⟩
  have h6 : DT B D xs ys k F (T.set t0 v) w6 := by rw [hw6]; exact (H1.out.drawn ((Drawn.refl _).drew.trans hd)).setT t0 v
  have hb6 : Below B w w6 := by rw [hw6]; exact ((HD1.out.trans ((Drawn.refl _).drew.trans hd)).toBelow).setCell h6.tB.1 _
  rw [← hw6]
  have c9 := h6.h9
  have t9 := own_int h6.row (k := t0) (by rw [List.length_set]; exact HTL.out)
  have f9 := h6.fr (x + 1) (y + 1) (by omega) (by omega)
  have z9 := h6.fz (10 + (x + 1) * 25 + (y + 1))
  rw [Zs.at_set HTL.out, if_pos rfl] at t9
  rw [← HNM.out] at c9
  have H6 := Lib.hid h6
  have HB6 := Lib.hid hb6
  clear h6 hb6 hw6 g3' c9' tc5 tf5 hd
  go_wp2_with fail
  have s1 : (0 : Int) ≤ (x : Int) + 1 := by omega
  have s2 : (x : Int) + 1 < 25 := by omega
  have s3 : (0 : Int) ≤ (y : Int) + 1 := by omega
  have s4 : (y : Int) + 1 < 25 := by omega
  go_still_tail 16, (by kernel_rfl)
  change wpList _ _ _ _ _ w6.drew
  go_wp2
  (try simp only [Exit.inBlock, Exit.then])
  refine bodyPost_ret (results_none rfl _ _ _) rfl ?_
  exact ⟨rfl, (H6.out.drawn (Drawn.refl _).drew).setF (by omega) (by omega) v, (Drawn.below HB6.out (Drawn.refl _).drew).setCell H6.out.gB _⟩

end Go.Proofs.Ytajplmopdipbnaa

/- Contracts (AddO). -/
namespace Go.Proofs.Ytajplmopdipbnaa
open Go.RowKit
set_option linter.unusedVariables false

set_option maxHeartbeats 1600000 in
set_option maxRecDepth 100000 in
theorem distAdd_left (B : Nat) (D : DtD) (xs ys : Tr) (k : Co) (F : Nat → Nat → Int) (T : List Int) (w : World) (h : DT B D xs ys k F T w) (hx : Tr.ok xs = true) (hy : Tr.ok ys = true) (hk : Co.ok k = true)
    (p q x y : Nat) (hxl : x < xs.length) (hyl : y < ys.length) (l r : Nat) (hp : Tr.la xs x = l) (hq : Tr.la ys y = r) (hne : l ≠ p) (v : Int)
    (hv : v = min (min (F x (y + 1) + Co.del k (Tr.xa xs x)) (F (x + 1) y + Co.ins k (Tr.xa ys y))) (F l r + Zs.at T (x * ys.length + y)))
    (f0 : 0 ≤ Zs.at T (x * ys.length + y) ∧ Zs.at T (x * ys.length + y) ≤ 1000000) (f1 : 0 ≤ F x (y + 1) ∧ F x (y + 1) ≤ 1000000) (f2 : 0 ≤ F (x + 1) y ∧ F (x + 1) y ≤ 1000000) (f3 : 0 ≤ F l r ∧ F l r ≤ 1000000) :
    Calls Try.prog 109 #[.pointer (some ⟨D.g, 0, none⟩), .int .i64 p, .int .i64 q, .int .i64 x, .int .i64 y] w fun e w' => e = .returned (.tuple #[]) ∧ DT B D xs ys k (updF F (x + 1) (y + 1) v) T w' ∧ Below B w w' := by
  obtain ⟨lx, lx'⟩ := Tr.len24 hx
  obtain ⟨ly, ly'⟩ := Tr.len24 hy
  have g1 := h.fr x (y + 1) (by omega) (by omega)
  have g2 := h.fr (x + 1) y (by omega) (by omega)
  have hlx : l ≤ x := by rw [← hp]; exact (Tr.la_nest hx x hxl).1
  have hry : r ≤ y := by rw [← hq]; exact (Tr.la_nest hy y hyl).1
  have g3 := h.fr l r (by omega) (by omega)
  have H := Lib.hid h
  have HX := Lib.hid hx
  have HY := Lib.hid hy
  have HK := Lib.hid hk
  have n1 := (Co.nonneg' k).1 (Tr.xa xs x)
  have n2 := (Co.nonneg' k).2.1 (Tr.xa ys y)
  obtain ⟨u0, hu0⟩ : ∃ u0, u0 = x * ys.length := ⟨_, rfl⟩
  have hu1 : u0 ≤ 576 := by rw [hu0]; exact Nat.mul_le_mul (show x ≤ 24 by omega) ly'
  have hu2 := idx_lt hxl hyl
  rw [← hu0] at hu2 f0 hv
  obtain ⟨t0, ht0⟩ : ∃ t0, t0 = u0 + y := ⟨_, rfl⟩
  rw [← ht0] at hu2 f0 hv
  have hadd : (u0 : Int) + (y : Int) = (t0 : Int) := by omega
  obtain ⟨nm, hnm⟩ : ∃ nm, nm = xs.length * ys.length := ⟨_, rfl⟩
  have hmul : (x : Int) * (ys.length : Int) = (u0 : Int) := by rw [hu0, Int.natCast_mul]
  have a3 : IntKind.i64.wrap ((x : Int) * (ys.length : Int)) = (u0 : Int) := by rw [hmul, Kit.w64 (by omega) (by omega)]
  have c9 := h.h9
  have f9 := h.row.frozenAt t0
  have t9 := own_int h.row (k := t0) (by rw [h.tlen]; exact hu2)
  rw [← hnm] at c9 hu2
  have c1 := h.h1
  have c3 := h.h3
  have c4 := h.h4
  have l1 := (h.ra1.at_ x hxl).trans (by rw [Tr.la_up hx hxl, hp])
  have l2 := (h.rb1.at_ y hyl).trans (by rw [Tr.la_up hy hyl, hq])
  have e1 : ((l : Int) == (p : Int)) = false := by simp; omega
  have a1 : IntKind.i64.wrap ((x : Int) + 1) = ((x + 1 : Nat) : Int) := by rw [Kit.w64 (by omega) (by omega)]; omega
  have a2 : IntKind.i64.wrap ((y : Int) + 1) = ((y + 1 : Nat) : Int) := by rw [Kit.w64 (by omega) (by omega)]; omega
  have b1 : (0 : Int) ≤ (x : Int) := by omega
  have b2 : (x : Int) < 25 := by omega
  have b3 : (0 : Int) ≤ (y : Int) := by omega
  have b4 : (y : Int) < 25 := by omega
  have b5 : (0 : Int) ≤ ((x + 1 : Nat) : Int) := by omega
  have b6 : ((x + 1 : Nat) : Int) < 25 := by omega
  have b7 : (0 : Int) ≤ ((y + 1 : Nat) : Int) := by omega
  have d1 : (0 : Int) ≤ (t0 : Int) := by omega
  have d2 : (t0 : Int) < (nm : Int) := by omega
  have k1 : (0 : Int) ≤ (l : Int) := by omega
  have k2 : (l : Int) < 25 := by omega
  have k3 : (0 : Int) ≤ (r : Int) := by omega
  have k4 : (r : Int) < 25 := by omega
  have d3 : (x : Int) < (xs.length : Int) := by omega
  have d4 : (y : Int) < (ys.length : Int) := by omega
  have b8 : ((y + 1 : Nat) : Int) < 25 := by omega
  have Hv := Lib.hid hv
  have HU0 := Lib.hid hu0
  have HT0 := Lib.hid ht0
  have HADD := Lib.hid hadd
  have HNM := Lib.hid hnm
  clear h hx hy hk hv ht0 hadd hu0 hnm hmul hp hq
  go_enter Try.func109, Try.ntmps109
  go_wp2_with fail
  go_quiet (first | (go_at_call 100; exact quiet_drawn (distDel_any _ _ _ _ _ _ _ _ (H.out.drawn ((Drawn.refl _).drewN _)) HX.out HY.out HK.out x hxl)) | (go_at_call 102; exact quiet_drawn (distIns_any _ _ _ _ _ _ _ _ (H.out.drawn ((Drawn.refl _).drewN _)) HX.out HY.out HK.out y hyl)))
  rw [min_if]
  obtain ⟨m0, hm0⟩ : ∃ m0, m0 = min (F x (y + 1) + Co.del k (Tr.xa xs x)) (F (x + 1) y + Co.ins k (Tr.xa ys y)) := ⟨_, rfl⟩
  rw [← hm0]
  rw [← hm0] at Hv
  have HM0 := Lib.hid hm0
  clear hm0
  go_wp2_with fail
  rw [HADD.out]
  go_quiet (fail)
  go_wp2_with fail
  generalize hw1 : World.drewN w _ = w1
  have hd1 : Drawn w w1 := ⟨_, hw1.symm⟩
  have H1 := Lib.hid (H.out.drawn hd1)
  have HD1 := Lib.hid hd1
  have g3' := (hd1.cell _).trans g3
  have c9' := (hd1.cell _).trans c9
  have t9' := (hd1.cell _).trans t9
  have f9' := H1.out.fr (x + 1) (y + 1) (by omega) (by omega)
  have z9 := H1.out.fz (10 + (x + 1) * 25 + (y + 1))
  clear g1 g2 g3 c9 f9 t9 c1 c3 c4 l1 l2 hw1 hd1
  have s1 : (0 : Int) ≤ (x : Int) + 1 := by omega
  have s2 : (x : Int) + 1 < 25 := by omega
  have s3 : (0 : Int) ≤ (y : Int) + 1 := by omega
  have s4 : (y : Int) + 1 < 25 := by omega
  go_still_tail 27, (by kernel_rfl)
  change wpList _ _ _ _ _ w1.drew
  go_wp2
  all_goals
    (try simp only [Exit.inBlock, Exit.then])
    refine bodyPost_end (results_none rfl _ _ _) rfl ?_
    have hv2 := Hv.out
    first | rw [show F l r + Zs.at T t0 = v by omega] | rw [show m0 = v by omega]
    exact ⟨rfl, (H1.out.drawn (Drawn.refl _).drew).setF (by omega) (by omega) v, ((HD1.out.trans (Drawn.refl _).drew).toBelow).setCell H1.out.gB _⟩

end Go.Proofs.Ytajplmopdipbnaa

/- Contracts (AddP). -/
namespace Go.Proofs.Ytajplmopdipbnaa
open Go.RowKit
set_option linter.unusedVariables false

set_option maxHeartbeats 1600000 in
set_option maxRecDepth 100000 in
theorem distAdd_right (B : Nat) (D : DtD) (xs ys : Tr) (k : Co) (F : Nat → Nat → Int) (T : List Int) (w : World) (h : DT B D xs ys k F T w) (hx : Tr.ok xs = true) (hy : Tr.ok ys = true) (hk : Co.ok k = true)
    (p q x y : Nat) (hxl : x < xs.length) (hyl : y < ys.length) (l r : Nat) (hp : Tr.la xs x = l) (hq : Tr.la ys y = r) (hle : l = p) (hne : r ≠ q) (v : Int)
    (hv : v = min (min (F x (y + 1) + Co.del k (Tr.xa xs x)) (F (x + 1) y + Co.ins k (Tr.xa ys y))) (F l r + Zs.at T (x * ys.length + y)))
    (f0 : 0 ≤ Zs.at T (x * ys.length + y) ∧ Zs.at T (x * ys.length + y) ≤ 1000000) (f1 : 0 ≤ F x (y + 1) ∧ F x (y + 1) ≤ 1000000) (f2 : 0 ≤ F (x + 1) y ∧ F (x + 1) y ≤ 1000000) (f3 : 0 ≤ F l r ∧ F l r ≤ 1000000) :
    Calls Try.prog 109 #[.pointer (some ⟨D.g, 0, none⟩), .int .i64 p, .int .i64 q, .int .i64 x, .int .i64 y] w fun e w' => e = .returned (.tuple #[]) ∧ DT B D xs ys k (updF F (x + 1) (y + 1) v) T w' ∧ Below B w w' := by
  subst hle
  obtain ⟨lx, lx'⟩ := Tr.len24 hx
  obtain ⟨ly, ly'⟩ := Tr.len24 hy
  have g1 := h.fr x (y + 1) (by omega) (by omega)
  have g2 := h.fr (x + 1) y (by omega) (by omega)
  have hlx : l ≤ x := by rw [← hp]; exact (Tr.la_nest hx x hxl).1
  have hry : r ≤ y := by rw [← hq]; exact (Tr.la_nest hy y hyl).1
  have g3 := h.fr l r (by omega) (by omega)
  have H := Lib.hid h
  have HX := Lib.hid hx
  have HY := Lib.hid hy
  have HK := Lib.hid hk
  have n1 := (Co.nonneg' k).1 (Tr.xa xs x)
  have n2 := (Co.nonneg' k).2.1 (Tr.xa ys y)
  obtain ⟨u0, hu0⟩ : ∃ u0, u0 = x * ys.length := ⟨_, rfl⟩
  have hu1 : u0 ≤ 576 := by rw [hu0]; exact Nat.mul_le_mul (show x ≤ 24 by omega) ly'
  have hu2 := idx_lt hxl hyl
  rw [← hu0] at hu2 f0 hv
  obtain ⟨t0, ht0⟩ : ∃ t0, t0 = u0 + y := ⟨_, rfl⟩
  rw [← ht0] at hu2 f0 hv
  have hadd : (u0 : Int) + (y : Int) = (t0 : Int) := by omega
  obtain ⟨nm, hnm⟩ : ∃ nm, nm = xs.length * ys.length := ⟨_, rfl⟩
  have hmul : (x : Int) * (ys.length : Int) = (u0 : Int) := by rw [hu0, Int.natCast_mul]
  have a3 : IntKind.i64.wrap ((x : Int) * (ys.length : Int)) = (u0 : Int) := by rw [hmul, Kit.w64 (by omega) (by omega)]
  have c9 := h.h9
  have f9 := h.row.frozenAt t0
  have t9 := own_int h.row (k := t0) (by rw [h.tlen]; exact hu2)
  rw [← hnm] at c9 hu2
  have c1 := h.h1
  have c3 := h.h3
  have c4 := h.h4
  have l1 := (h.ra1.at_ x hxl).trans (by rw [Tr.la_up hx hxl, hp])
  have l2 := (h.rb1.at_ y hyl).trans (by rw [Tr.la_up hy hyl, hq])
  have e1 : ((l : Int) == (l : Int)) = true := by simp
  have e2 : ((r : Int) == (q : Int)) = false := by simp; omega
  have a1 : IntKind.i64.wrap ((x : Int) + 1) = ((x + 1 : Nat) : Int) := by rw [Kit.w64 (by omega) (by omega)]; omega
  have a2 : IntKind.i64.wrap ((y : Int) + 1) = ((y + 1 : Nat) : Int) := by rw [Kit.w64 (by omega) (by omega)]; omega
  have b1 : (0 : Int) ≤ (x : Int) := by omega
  have b2 : (x : Int) < 25 := by omega
  have b3 : (0 : Int) ≤ (y : Int) := by omega
  have b4 : (y : Int) < 25 := by omega
  have b5 : (0 : Int) ≤ ((x + 1 : Nat) : Int) := by omega
  have b6 : ((x + 1 : Nat) : Int) < 25 := by omega
  have b7 : (0 : Int) ≤ ((y + 1 : Nat) : Int) := by omega
  have d1 : (0 : Int) ≤ (t0 : Int) := by omega
  have d2 : (t0 : Int) < (nm : Int) := by omega
  have k1 : (0 : Int) ≤ (l : Int) := by omega
  have k2 : (l : Int) < 25 := by omega
  have k3 : (0 : Int) ≤ (r : Int) := by omega
  have k4 : (r : Int) < 25 := by omega
  have d3 : (x : Int) < (xs.length : Int) := by omega
  have d4 : (y : Int) < (ys.length : Int) := by omega
  have b8 : ((y + 1 : Nat) : Int) < 25 := by omega
  have Hv := Lib.hid hv
  have HU0 := Lib.hid hu0
  have HT0 := Lib.hid ht0
  have HADD := Lib.hid hadd
  have HNM := Lib.hid hnm
  clear h hx hy hk hv ht0 hadd hu0 hnm hmul hp hq
  go_enter Try.func109, Try.ntmps109
  go_wp2_with fail
  go_quiet (first | (go_at_call 100; exact quiet_drawn (distDel_any _ _ _ _ _ _ _ _ (H.out.drawn ((Drawn.refl _).drewN _)) HX.out HY.out HK.out x hxl)) | (go_at_call 102; exact quiet_drawn (distIns_any _ _ _ _ _ _ _ _ (H.out.drawn ((Drawn.refl _).drewN _)) HX.out HY.out HK.out y hyl)))
  rw [min_if]
  obtain ⟨m0, hm0⟩ : ∃ m0, m0 = min (F x (y + 1) + Co.del k (Tr.xa xs x)) (F (x + 1) y + Co.ins k (Tr.xa ys y)) := ⟨_, rfl⟩
  rw [← hm0]
  rw [← hm0] at Hv
  have HM0 := Lib.hid hm0
  clear hm0
  go_wp2_with fail
  rw [HADD.out]
  go_quiet (fail)
  go_wp2_with fail
  generalize hw1 : World.drewN w _ = w1
  have hd1 : Drawn w w1 := ⟨_, hw1.symm⟩
  have H1 := Lib.hid (H.out.drawn hd1)
  have HD1 := Lib.hid hd1
  have g3' := (hd1.cell _).trans g3
  have c9' := (hd1.cell _).trans c9
  have t9' := (hd1.cell _).trans t9
  have f9' := H1.out.fr (x + 1) (y + 1) (by omega) (by omega)
  have z9 := H1.out.fz (10 + (x + 1) * 25 + (y + 1))
  clear g1 g2 g3 c9 f9 t9 c1 c3 c4 l1 l2 hw1 hd1
  have s1 : (0 : Int) ≤ (x : Int) + 1 := by omega
  have s2 : (x : Int) + 1 < 25 := by omega
  have s3 : (0 : Int) ≤ (y : Int) + 1 := by omega
  have s4 : (y : Int) + 1 < 25 := by omega
  go_still_tail 27, (by kernel_rfl)
  change wpList _ _ _ _ _ w1.drew
  go_wp2
  all_goals
    (try simp only [Exit.inBlock, Exit.then])
    refine bodyPost_end (results_none rfl _ _ _) rfl ?_
    have hv2 := Hv.out
    first | rw [show F l r + Zs.at T t0 = v by omega] | rw [show m0 = v by omega]
    exact ⟨rfl, (H1.out.drawn (Drawn.refl _).drew).setF (by omega) (by omega) v, ((HD1.out.trans (Drawn.refl _).drew).toBelow).setCell H1.out.gB _⟩

end Go.Proofs.Ytajplmopdipbnaa

/- Contracts (AddF). -/
namespace Go.Proofs.Ytajplmopdipbnaa
open Go.RowKit
set_option linter.unusedVariables false

/-- one cell of the table is filled -/
theorem distAdd_any (B : Nat) (D : DtD) (xs ys : Tr) (k : Co) (F : Nat → Nat → Int) (T0 T : List Int) (w : World) (h : DT B D xs ys k F T w) (hx : Tr.ok xs = true) (hy : Tr.ok ys = true) (hk : Co.ok k = true)
    (i j x y : Nat) (hi : i < xs.length) (hj : j < ys.length) (hA : Ahead xs ys k i j T0) (hf : Fill xs ys k i j x y F T0 T) (px : Tr.la xs i ≤ x) (xi : x ≤ i) (qy : Tr.la ys j ≤ y) (yj : y ≤ j) :
    Calls Try.prog 109 #[.pointer (some ⟨D.g, 0, none⟩), .int .i64 (Tr.la xs i : Nat), .int .i64 (Tr.la ys j : Nat), .int .i64 x, .int .i64 y] w fun e w' =>
      e = .returned (.tuple #[]) ∧ (∃ F' T', Fill xs ys k i j x (y + 1) F' T0 T' ∧ DT B D xs ys k F' T' w') ∧ Below B w w' := by
  obtain ⟨g1, g2, g3, g4⟩ := Fill.geo hx hy hi hj px xi qy yj
  obtain ⟨r1, r2, r3, r4⟩ := Fill.reads hx hy hi hj hf px xi qy yj
  have b1 := RR_bound (k := k) hx hy (p := Tr.la xs i) (a := x) (q := Tr.la ys j) (b := y + 1) (by omega) (by omega) (by omega) (by omega)
  have b2 := RR_bound (k := k) hx hy (p := Tr.la xs i) (a := x + 1) (q := Tr.la ys j) (b := y) (by omega) (by omega) (by omega) (by omega)
  have b3 := RR_bound (k := k) hx hy (p := Tr.la xs i) (a := x) (q := Tr.la ys j) (b := y) (by omega) (by omega) (by omega) (by omega)
  have b4 := RR_bound (k := k) hx hy (p := Tr.la xs i) (a := Tr.la xs x) (q := Tr.la ys j) (b := Tr.la ys y) (by omega) (by omega) (by omega) (by omega)
  rw [← r1] at b1
  rw [← r2] at b2
  rw [← r3] at b3
  rw [← r4] at b4
  by_cases e : Tr.la xs x = Tr.la xs i ∧ Tr.la ys y = Tr.la ys j
  · have st := Fill.first hx hy hi hj hA hf px xi qy yj e rfl (F' := updF F (x + 1) (y + 1) _) (fun a b _ _ _ _ => rfl)
    refine (distAdd_first B D xs ys k F T w h hx hy hk _ _ x y (by omega) (by omega) e.1 e.2 _ rfl (by omega) (by omega) (by omega)).mono ?_
    rintro e' w' ⟨h1, h2, h3⟩
    exact ⟨h1, ⟨_, _, st.2, h2⟩, h3⟩
  · have st := Fill.other hx hy hi hj hA hf px xi qy yj e rfl (F' := updF F (x + 1) (y + 1) _) (fun a b _ _ _ _ => rfl)
    have ht := Fill.tree hi hj hA hf px xi qy yj e
    have b5 := TT_bound (k := k) hx hy (a := x) (b := y) (by omega) (by omega)
    rw [← ht] at b5
    by_cases e1 : Tr.la xs x = Tr.la xs i
    · refine (distAdd_right B D xs ys k F T w h hx hy hk _ _ x y (by omega) (by omega) _ _ rfl rfl e1 (fun e2 => e ⟨e1, e2⟩) _ rfl (by omega) (by omega) (by omega) (by omega)).mono ?_
      rintro e' w' ⟨h1, h2, h3⟩
      exact ⟨h1, ⟨_, _, st, h2⟩, h3⟩
    · refine (distAdd_left B D xs ys k F T w h hx hy hk _ _ x y (by omega) (by omega) _ _ rfl rfl e1 _ rfl (by omega) (by omega) (by omega) (by omega)).mono ?_
      rintro e' w' ⟨h1, h2, h3⟩
      exact ⟨h1, ⟨_, _, st, h2⟩, h3⟩

end Go.Proofs.Ytajplmopdipbnaa

/- Contracts (Cmp). -/
namespace Go.Proofs.Ytajplmopdipbnaa
open Go.RowKit
set_option linter.unusedVariables false

/-- the table in a region that ends with a store into the forests -/
def DFo (B : Nat) (D : DtD) (xs ys : Tr) (k : Co) (F : Nat → Nat → Int) (T : List Int) (a b : Nat) (v : Int) (w0 wq : World) : Prop :=
  (DT B D xs ys k F T wq ∨ DT B D xs ys k (updF F a b v) T wq) ∧ Below B w0 wq
section
variable {B : Nat} {D : DtD} {xs ys : Tr} {k : Co} {F : Nat → Nat → Int} {T : List Int} {a b : Nat} {v : Int} {w0 wx wq : World} {c : Option Value} {q : Addr}
theorem dfo_keep (hS : wx.cell? q = c ∧ DFo B D xs ys k F T a b v w0 wx) (hd : Drawn wx wq) : wq.cell? q = c ∧ DFo B D xs ys k F T a b v w0 wq := by
  obtain ⟨h2, h3, h4⟩ := hS
  exact ⟨by rw [hd.cell]; exact h2, h3.imp (fun h => h.drawn hd) (fun h => h.drawn hd), hd.below h4⟩
theorem dfo_del (hS : wx.cell? q = c ∧ DFo B D xs ys k F T a b v w0 wx) (hx : Tr.ok xs = true) (hy : Tr.ok ys = true) (hk : Co.ok k = true) (x : Nat) (hxl : x < xs.length) :
    Calls Try.prog 100 #[.pointer (some ⟨D.g, 0, none⟩), .int .i64 x] wx fun e w' => e = .returned (.int .i64 (Co.del k (Tr.xa xs x))) ∧ Drawn wx w' := by
  obtain ⟨_, h3, _⟩ := hS
  rcases h3 with h | h
  · exact distDel_any _ _ _ _ _ _ _ _ h hx hy hk x hxl
  · exact distDel_any _ _ _ _ _ _ _ _ h hx hy hk x hxl
theorem dfo_ins (hS : wx.cell? q = c ∧ DFo B D xs ys k F T a b v w0 wx) (hx : Tr.ok xs = true) (hy : Tr.ok ys = true) (hk : Co.ok k = true) (y : Nat) (hyl : y < ys.length) :
    Calls Try.prog 102 #[.pointer (some ⟨D.g, 0, none⟩), .int .i64 y] wx fun e w' => e = .returned (.int .i64 (Co.ins k (Tr.xa ys y))) ∧ Drawn wx w' := by
  obtain ⟨_, h3, _⟩ := hS
  rcases h3 with h | h
  · exact distIns_any _ _ _ _ _ _ _ _ h hx hy hk y hyl
  · exact distIns_any _ _ _ _ _ _ _ _ h hx hy hk y hyl
theorem dfo_cell (hS : wx.cell? q = c ∧ DFo B D xs ys k F T a b v w0 wx) (ha : a < 25) (hb : b < 25) : ∃ z, wx.cell? ⟨D.g, 10 + a * 25 + b, none⟩ = some (.int .i64 z) ∧ wx.frozen? ⟨D.g, 10 + a * 25 + b, none⟩ = false := by
  obtain ⟨_, h3, _⟩ := hS
  rcases h3 with h | h
  · exact ⟨_, h.fr a b ha hb, h.fz _⟩
  · exact ⟨_, h.fr a b ha hb, h.fz _⟩
theorem updF_twice (F : Nat → Nat → Int) (a b : Nat) (v : Int) : updF (updF F a b v) a b v = updF F a b v := by
  funext x y
  unfold updF
  split <;> rfl
theorem dfo_store (hS : wx.cell? q = c ∧ DFo B D xs ys k F T a b v w0 wx) (ha : a < 25) (hb : b < 25) (hq : q ≠ ⟨D.g, 10 + a * 25 + b, none⟩) :
    (wx.setCell ⟨D.g, 10 + a * 25 + b, none⟩ (.int .i64 v)).cell? q = c ∧ DFo B D xs ys k F T a b v w0 (wx.setCell ⟨D.g, 10 + a * 25 + b, none⟩ (.int .i64 v)) := by
  obtain ⟨h2, h3, h4⟩ := hS
  have hB : B ≤ D.g := by rcases h3 with h | h <;> exact h.gB
  refine ⟨?_, .inr ?_, h4.setCell hB _⟩
  · rw [World.cell?_setCell_other _ _ _ _ (fun e => hq e.symm)]; exact h2
  · rcases h3 with h | h
    · exact h.setF ha hb v
    · have := h.setF ha hb v
      rw [updF_twice] at this
      exact this
end

set_option maxHeartbeats 1600000 in
set_option maxRecDepth 100000 in
theorem distCmp_any (B : Nat) (D : DtD) (xs ys : Tr) (k : Co) (F : Nat → Nat → Int) (T : List Int) (w : World) (h : DT B D xs ys k F T w) (hx : Tr.ok xs = true) (hy : Tr.ok ys = true) (hk : Co.ok k = true)
    (i j : Nat) (hi : i < xs.length) (hj : j < ys.length) (hA : Ahead xs ys k i j T) :
    Calls Try.prog 90 #[.pointer (some ⟨D.g, 0, none⟩), .int .i64 i, .int .i64 j] w fun e w' =>
      e = .returned (.tuple #[]) ∧ (∃ F' T', Fill xs ys k i j (i + 1) (Tr.la ys j) F' T T' ∧ DT B D xs ys k F' T' w') ∧ Below B w w' := by
  obtain ⟨lx, lx'⟩ := Tr.len24 hx
  obtain ⟨ly, ly'⟩ := Tr.len24 hy
  have hpi := (Tr.la_nest hx i hi).1
  have hqj := (Tr.la_nest hy j hj).1
  have l1 := (h.ra1.at_ i hi).trans (by rw [Tr.la_up hx hi])
  have l2 := (h.rb1.at_ j hj).trans (by rw [Tr.la_up hy hj])
  obtain ⟨p, hp⟩ : ∃ p, p = Tr.la xs i := ⟨_, rfl⟩
  obtain ⟨q, hq⟩ : ∃ q, q = Tr.la ys j := ⟨_, rfl⟩
  rw [← hp] at hpi l1
  rw [← hq] at hqj l2
  have c1 := h.h1
  have c4 := h.h4
  have H := Lib.hid h
  have HX := Lib.hid hx
  have HY := Lib.hid hy
  have HK := Lib.hid hk
  have HP := Lib.hid hp
  have HQ := Lib.hid hq
  have HA := Lib.hid hA
  have b1 : (0 : Int) ≤ (i : Int) := by omega
  have b2 : (i : Int) < (xs.length : Int) := by omega
  have b3 : (0 : Int) ≤ (j : Int) := by omega
  have b4 : (j : Int) < (ys.length : Int) := by omega
  have b5 : (0 : Int) ≤ (p : Int) := by omega
  have b6 : (p : Int) < 25 := by omega
  have b7 : (0 : Int) ≤ (q : Int) := by omega
  have b8 : (q : Int) < 25 := by omega
  have ZZ := Lib.hid (RR_zero (xs := xs) (ys := ys) (k := k) (i := i) (j := j))
  have ZL := Lib.hid (fun x a b => RR_left (xs := xs) (ys := ys) (k := k) (i := i) (j := j) (x := x) hx hi a b)
  have ZR := Lib.hid (fun y a b => RR_right (xs := xs) (ys := ys) (k := k) (i := i) (j := j) (y := y) hy hj a b)
  have BL := Lib.hid (fun x (a1 : Tr.la xs i ≤ x) (a2 : x ≤ i) => RR_bound (k := k) hx hy (p := Tr.la xs i) (a := x) (q := Tr.la ys j) (b := Tr.la ys j) a1 (by omega) (Nat.le_refl _) (by omega))
  have BR := Lib.hid (fun y (a1 : Tr.la ys j ≤ y) (a2 : y ≤ j) => RR_bound (k := k) hx hy (p := Tr.la xs i) (a := Tr.la xs i) (q := Tr.la ys j) (b := y) (Nat.le_refl _) (by omega) a1 (by omega))
  rw [← hp, ← hq] at ZZ ZL ZR BL BR
  clear h hx hy hk hp hq hA
  go_enter Try.func90, Try.ntmps90
  go_wp2_with fail
  go_quiet (fail)
  generalize hw1 : World.drewN w _ = w1
  have hd1 : Drawn w w1 := ⟨_, hw1.symm⟩
  have H1 := Lib.hid (H.out.drawn hd1)
  have HD1 := Lib.hid hd1
  have f1 := H1.out.fr p q (by omega) (by omega)
  have z1 := H1.out.fz (10 + p * 25 + q)
  clear c1 c4 l1 l2 hw1 hd1
  go_wp2
  have H2 := Lib.hid (H1.out.setF (x := p) (y := q) (by omega) (by omega) 0)
  have HB2 := Lib.hid (HD1.out.toBelow.setCell H1.out.gB (.int .i64 0) (p := ⟨D.g, 10 + p * 25 + q, none⟩))
  obtain ⟨w2, hw2⟩ : ∃ w2, w2 = w1.setCell ⟨D.g, 10 + p * 25 + q, none⟩ (.int .i64 0) := ⟨_, rfl⟩
  rw [← hw2] at H2 HB2 ⊢
  clear f1 z1 hw2
  have hst1 : ∀ a, p ≤ a → a ≤ p → updF F p q 0 a q = RR xs ys k p a q q := fun a a1 a2 => by
    have e : a = p := by omega
    rw [e, ZZ.out]
    simp [updF]
  have ST1 := Lib.hid hst1
  clear hst1
  go_loopw [8] (fun xv wr => ∃ (x : Nat) (F1 : Nat → Nat → Int), p ≤ x ∧ x ≤ i + 1 ∧ xv = .int .i64 x ∧ DT B D xs ys k F1 T wr ∧ Below B w wr ∧ ∀ a, p ≤ a → a ≤ x → F1 a q = RR xs ys k p a q q) (fun x _ => i + 1 - (intOf x).toNat)
  case atStart => exact ⟨p, _, Nat.le_refl _, by omega, rfl, H2.out, HB2.out, ST1.out⟩
  case round =>
    clear H1 HD1 H2 HB2 ST1
    obtain ⟨x, F1, hpx, hxi, rfl, hD, hB, hF⟩ := hrel
    have HD := Lib.hid hD
    have HB := Lib.hid hB
    have HF := Lib.hid hF
    clear hD hB hF
    by_cases hlt : x ≤ i
    · have g1 := HD.out.fr x q (by omega) (by omega)
      have bd := BL.out x hpx hlt
      rw [← HF.out x hpx (Nat.le_refl _)] at bd
      have n1 := (Co.nonneg' k).1 (Tr.xa xs x)
      have c1 : (0 : Int) ≤ (x : Int) := by omega
      have c2 : (x : Int) < 25 := by omega
      have c3 : (0 : Int) ≤ (x : Int) + 1 := by omega
      have c4 : (x : Int) + 1 < 25 := by omega
      have a1 : IntKind.i64.wrap ((x : Int) + 1) = (x : Int) + 1 := Kit.w64 (by omega) (by omega)
      have Hww := Lib.hid (show IntKind.i64.wrap (F1 x q + Co.del k (Tr.xa xs x)) = F1 x q + Co.del k (Tr.xa xs x) from Kit.w64 (by omega) (by omega))
      have S0 := Lib.hid (show wr.drew.cell? ⟨D.g, 10 + x * 25 + q, none⟩ = some (.int .i64 (F1 x q)) ∧ DFo B D xs ys k F1 T (x + 1) q (F1 x q + Co.del k (Tr.xa xs x)) wr wr.drew from ⟨g1, .inl (HD.out.drawn (Drawn.refl _).drew), (Drawn.refl _).drew.toBelow⟩)
      go_wp2_with fail
      go_region_held3 (fun wq => wq.cell? ⟨D.g, 10 + x * 25 + q, none⟩ = some (.int .i64 (F1 x q)) ∧ DFo B D xs ys k F1 T (x + 1) q (F1 x q + Co.del k (Tr.xa xs x)) wr wq) (first | exact S0.out | (refine dfo_keep ?_ hd; assumption) | (rw [Hww.out]; exact dfo_store (dfo_keep (by assumption) hd) (by omega) (by omega) (fun e => by injection e with e1 e2; omega))) (first | (go_at_call 100; refine (dfo_del (by assumption) HX.out HY.out HK.out x (by omega)).mono ?_; rintro e w5 ⟨rfl, hd⟩; obtain ⟨z5, tc5, tf5⟩ := dfo_cell (dfo_keep (by assumption) hd) (by omega) (by omega)))
      rw [Hww.out]
      have h6 := (HD.out.drawn ((Drawn.refl _).drew.trans hd)).setF (x := x + 1) (y := q) (by omega) (by omega) (F1 x q + Co.del k (Tr.xa xs x))
      have hb6 : Below B w (w5.setCell ⟨D.g, 10 + (x + 1) * 25 + q, none⟩ (.int .i64 (F1 x q + Co.del k (Tr.xa xs x)))) := (HB.out.trans ((Drawn.refl _).drew.trans hd).toBelow).setCell HD.out.gB _
      have H6 := Lib.hid h6
      have HB6 := Lib.hid hb6
      clear h6 hb6 S0 a1
      go_wp2
      go_roundw
      case rel =>
        refine ⟨x + 1, _, by omega, by omega, by go_num, H6.out, HB6.out, fun a a1 a2 => ?_⟩
        unfold updF
        by_cases e : a = x + 1
        · rw [if_pos ⟨e, rfl⟩, e, ZL.out x hpx hlt, HF.out x hpx (Nat.le_refl _)]
        · rw [if_neg (fun c => e c.1)]; exact HF.out a a1 (by omega)
      case measure => simp [intOf]; omega
    · have HXE := Lib.hid (show x = i + 1 by omega)
      rw [HXE.out] at HF
      go_wp2
      go_loopw [9] (fun yv wr => ∃ (y : Nat) (F1 : Nat → Nat → Int), q ≤ y ∧ y ≤ j + 1 ∧ yv = .int .i64 y ∧ DT B D xs ys k F1 T wr ∧ Below B w wr ∧ (∀ a, p ≤ a → a ≤ i + 1 → F1 a q = RR xs ys k p a q q) ∧ ∀ b, q ≤ b → b ≤ y → F1 p b = RR xs ys k p p q b) (fun y _ => j + 1 - (intOf y).toNat)
      case atStart => exact ⟨q, F1, Nat.le_refl _, by omega, rfl, HD.out, HB.out, HF.out, fun b b1 b2 => by
        have e : b = q := by omega
        rw [e]; exact HF.out p (Nat.le_refl _) (by omega)⟩
      case round =>
        clear HD HB HF
        clear F1
        obtain ⟨y, F1, hqy, hyj, rfl, hD, hB, hF, hG⟩ := hrel
        have HD := Lib.hid hD
        have HB := Lib.hid hB
        have HF := Lib.hid hF
        have HG := Lib.hid hG
        clear hD hB hF hG
        by_cases hlt : y ≤ j
        · have g1 := HD.out.fr p y (by omega) (by omega)
          have bd := BR.out y hqy hlt
          rw [← HG.out y hqy (Nat.le_refl _)] at bd
          have n1 := (Co.nonneg' k).2.1 (Tr.xa ys y)
          have c1 : (0 : Int) ≤ (y : Int) := by omega
          have c2 : (y : Int) < 25 := by omega
          have c3 : (0 : Int) ≤ (y : Int) + 1 := by omega
          have c4 : (y : Int) + 1 < 25 := by omega
          have a1 : IntKind.i64.wrap ((y : Int) + 1) = (y : Int) + 1 := Kit.w64 (by omega) (by omega)
          have Hww := Lib.hid (show IntKind.i64.wrap (F1 p y + Co.ins k (Tr.xa ys y)) = F1 p y + Co.ins k (Tr.xa ys y) from Kit.w64 (by omega) (by omega))
          have S0 := Lib.hid (show wr.drew.cell? ⟨D.g, 10 + p * 25 + y, none⟩ = some (.int .i64 (F1 p y)) ∧ DFo B D xs ys k F1 T p (y + 1) (F1 p y + Co.ins k (Tr.xa ys y)) wr wr.drew from ⟨g1, .inl (HD.out.drawn (Drawn.refl _).drew), (Drawn.refl _).drew.toBelow⟩)
          go_wp2_with fail
          go_region_held3 (fun wq => wq.cell? ⟨D.g, 10 + p * 25 + y, none⟩ = some (.int .i64 (F1 p y)) ∧ DFo B D xs ys k F1 T p (y + 1) (F1 p y + Co.ins k (Tr.xa ys y)) wr wq) (first | exact S0.out | (refine dfo_keep ?_ hd; assumption) | (rw [Hww.out]; exact dfo_store (dfo_keep (by assumption) hd) (by omega) (by omega) (fun e => by injection e with e1 e2; omega))) (first | (go_at_call 102; refine (dfo_ins (by assumption) HX.out HY.out HK.out y (by omega)).mono ?_; rintro e w5 ⟨rfl, hd⟩; obtain ⟨z5, tc5, tf5⟩ := dfo_cell (dfo_keep (by assumption) hd) (by omega) (by omega)))
          rw [Hww.out]
          have h6 := (HD.out.drawn ((Drawn.refl _).drew.trans hd)).setF (x := p) (y := y + 1) (by omega) (by omega) (F1 p y + Co.ins k (Tr.xa ys y))
          have hb6 : Below B w (w5.setCell ⟨D.g, 10 + p * 25 + (y + 1), none⟩ (.int .i64 (F1 p y + Co.ins k (Tr.xa ys y)))) := (HB.out.trans ((Drawn.refl _).drew.trans hd).toBelow).setCell HD.out.gB _
          have H6 := Lib.hid h6
          have HB6 := Lib.hid hb6
          clear h6 hb6 S0 a1
          go_wp2
          go_roundw
          case rel =>
            refine ⟨y + 1, _, by omega, by omega, by go_num, H6.out, HB6.out, fun a a1 a2 => ?_, fun b b1 b2 => ?_⟩
            · unfold updF
              rw [if_neg (fun c => by omega)]; exact HF.out a a1 a2
            · unfold updF
              by_cases e : b = y + 1
              · rw [if_pos ⟨rfl, e⟩, e, ZR.out y hqy hlt, HG.out y hqy (Nat.le_refl _)]
              · rw [if_neg (fun c => e c.2)]; exact HG.out b b1 (by omega)
          case measure => simp [intOf]; omega
        · have HYE := Lib.hid (show y = j + 1 by omega)
          rw [HYE.out] at HG
          have FS := Lib.hid (Fill.start HX.out HY.out hi hj HD.out.tlen (by rw [← HP.out, ← HQ.out]; exact HF.out) (by rw [← HP.out, ← HQ.out]; exact HG.out))
          rw [← HP.out, ← HQ.out] at FS
          go_wp2
          go_loopw [10] (fun xv wr => ∃ (x : Nat) (F2 : Nat → Nat → Int) (T2 : List Int), p ≤ x ∧ x ≤ i + 1 ∧ xv = .int .i64 x ∧ Fill xs ys k i j x q F2 T T2 ∧ DT B D xs ys k F2 T2 wr ∧ Below B w wr) (fun x _ => i + 1 - (intOf x).toNat)
          case atStart => exact ⟨p, F1, T, Nat.le_refl _, by omega, rfl, FS.out, HD.out, HB.out⟩
          case round =>
            clear HD HB HF HG FS
            clear F1
            obtain ⟨x, F2, T2, hpx, hxi, rfl, hS, hD, hB⟩ := hrel
            have HD := Lib.hid hD
            have HB := Lib.hid hB
            have HS := Lib.hid hS
            clear hD hB hS
            by_cases hlt : x ≤ i
            · go_wp2
              go_loopw [11] (fun yv wr => ∃ (y : Nat) (F3 : Nat → Nat → Int) (T3 : List Int), q ≤ y ∧ y ≤ j + 1 ∧ yv = .int .i64 y ∧ Fill xs ys k i j x y F3 T T3 ∧ DT B D xs ys k F3 T3 wr ∧ Below B w wr) (fun y _ => j + 1 - (intOf y).toNat)
              case atStart => exact ⟨q, F2, T2, Nat.le_refl _, by omega, rfl, HS.out, HD.out, HB.out⟩
              case round =>
                clear HD HB HS
                clear F2 T2
                obtain ⟨y, F3, T3, hqy, hyj, rfl, hS, hD, hB⟩ := hrel
                have HD := Lib.hid hD
                have HB := Lib.hid hB
                have HS := Lib.hid hS
                clear hD hB hS
                by_cases hlt2 : y ≤ j
                · have HC := Lib.hid (distAdd_any B D xs ys k F3 T T3 wr HD.out HX.out HY.out HK.out i j x y hi hj HA.out HS.out (by rw [← HP.out]; exact hpx) hlt (by rw [← HQ.out]; exact hqy) hlt2)
                  rw [← HP.out, ← HQ.out] at HC
                  go_wp2_with fail
                  refine HC.out.mono ?_
                  rintro e w7 ⟨rfl, ⟨F4, T4, hS4, hD4⟩, hb4⟩
                  have HD4 := Lib.hid hD4
                  have HS4 := Lib.hid hS4
                  have HB4 := Lib.hid (HB.out.trans hb4)
                  clear hD4 hS4 hb4 HC
                  go_wp2
                  go_roundw
                  case rel => exact ⟨y + 1, F4, T4, by omega, by omega, by go_num, HS4.out, HD4.out, HB4.out⟩
                  case measure => simp [intOf]; omega
                · have hye : y = j + 1 := by omega
                  rw [hye] at HS
                  clear hye
                  have HN := Lib.hid (Fill.next HY.out hj HS.out)
                  rw [← HQ.out] at HN
                  go_wp2
                  go_roundw
                  case rel => exact ⟨x + 1, F3, T3, by omega, by omega, by go_num, HN.out, HD.out, HB.out⟩
                  case measure => simp [intOf]; omega
            · have hxe : x = i + 1 := by omega
              rw [hxe] at HS
              clear hxe
              go_wp2
              (try simp only [Exit.inBlock, Exit.then])
              refine bodyPost_end (results_none rfl _ _ _) rfl ?_
              exact ⟨rfl, ⟨F2, T2, by rw [← HQ.out]; exact HS.out, HD.out⟩, HB.out⟩

end Go.Proofs.Ytajplmopdipbnaa

/- Contracts (FullI). -/
namespace Go.Proofs.Ytajplmopdipbnaa
open Go.RowKit
set_option linter.unusedVariables false

/-- what fullTable returns of valid trees and costs -/
def FullAt (xs ys : Tr) (k : Co) (w : World) (e : Ending) (w' : World) : Prop :=
  ∃ (D : DtD) (F : Nat → Nat → Int), e = .returned (.pointer (some ⟨D.g, 0, none⟩)) ∧ DT w.heap.size D xs ys k F (Tr.tds xs ys k) w' ∧ (∀ a b, a ≤ xs.length → b ≤ ys.length → F a b = RR xs ys k 0 a 0 b) ∧ Below w.heap.size w w'

/-- nine cells of a block stand; the world has only grown -/
def NiG (g : Nat) (w0 wq : World) : Prop := Below w0.heap.size w0 wq ∧ g < w0.heap.size
theorem nine_keep {w0 wx wq : World} {g : Nat} {u0 u1 u2 u3 u4 u5 u6 u7 u8 : Option Value} (hS : (wx.cell? ⟨g, 0, none⟩ = u0 ∧ wx.cell? ⟨g, 1, none⟩ = u1 ∧ wx.cell? ⟨g, 2, none⟩ = u2 ∧ wx.cell? ⟨g, 3, none⟩ = u3 ∧ wx.cell? ⟨g, 4, none⟩ = u4 ∧ wx.cell? ⟨g, 5, none⟩ = u5 ∧ wx.cell? ⟨g, 6, none⟩ = u6 ∧ wx.cell? ⟨g, 7, none⟩ = u7 ∧ wx.cell? ⟨g, 8, none⟩ = u8) ∧ NiG g w0 wx) (hb : Below wx.heap.size wx wq) : (wq.cell? ⟨g, 0, none⟩ = u0 ∧ wq.cell? ⟨g, 1, none⟩ = u1 ∧ wq.cell? ⟨g, 2, none⟩ = u2 ∧ wq.cell? ⟨g, 3, none⟩ = u3 ∧ wq.cell? ⟨g, 4, none⟩ = u4 ∧ wq.cell? ⟨g, 5, none⟩ = u5 ∧ wq.cell? ⟨g, 6, none⟩ = u6 ∧ wq.cell? ⟨g, 7, none⟩ = u7 ∧ wq.cell? ⟨g, 8, none⟩ = u8) ∧ NiG g w0 wq := by
  obtain ⟨⟨h0, h1, h2, h3, h4, h5, h6, h7, h8⟩, hB, hg⟩ := hS
  have hz := hB.size
  have c (o : Nat) : wq.cell? ⟨g, o, none⟩ = wx.cell? ⟨g, o, none⟩ := hb.cell (p := ⟨g, o, none⟩) (by show g < _; omega)
  exact ⟨⟨by rw [c 0, h0], by rw [c 1, h1], by rw [c 2, h2], by rw [c 3, h3], by rw [c 4, h4], by rw [c 5, h5], by rw [c 6, h6], by rw [c 7, h7], by rw [c 8, h8]⟩, hB.trans (hb.mono hz), hg⟩
theorem nine_below {w0 wx : World} {g : Nat} {u0 u1 u2 u3 u4 u5 u6 u7 u8 : Option Value} (hS : (wx.cell? ⟨g, 0, none⟩ = u0 ∧ wx.cell? ⟨g, 1, none⟩ = u1 ∧ wx.cell? ⟨g, 2, none⟩ = u2 ∧ wx.cell? ⟨g, 3, none⟩ = u3 ∧ wx.cell? ⟨g, 4, none⟩ = u4 ∧ wx.cell? ⟨g, 5, none⟩ = u5 ∧ wx.cell? ⟨g, 6, none⟩ = u6 ∧ wx.cell? ⟨g, 7, none⟩ = u7 ∧ wx.cell? ⟨g, 8, none⟩ = u8) ∧ NiG g w0 wx) : Below w0.heap.size w0 wx := hS.2.1
set_option maxHeartbeats 1600000 in
set_option maxRecDepth 100000 in
theorem fullTable_no (A A' : Option Addr) (n n' c c' : Nat) (xs ys : Tr) (K0 K1 K2 : Option Addr) (n0 n1 n2 c0 c1 c2 : Nat) (k : Co) (w : World) (ha : NdIn w w.heap.size A n xs) (hb : NdIn w w.heap.size A' n' ys) (hk : CoIn w w.heap.size K0 K1 K2 n0 n1 n2 k)
    (hn : n ≤ 1048576) (hn' : n' ≤ 1048576) (h0 : n0 ≤ 1048576) (h1 : n1 ≤ 1048576) (h2 : n2 ≤ 1048576) (hc : n ≤ c) (hc' : n' ≤ c') (hno : DOk xs ys k = false) :
    Calls Try.prog 56 #[.slice A n c, .slice A' n' c', .agg #[.slice K0 n0 c0, .slice K1 n1 c1, .slice K2 n2 c2]] w fun e w' => e = .returned (.pointer none) ∧ Below w.heap.size w w' := by
  obtain ⟨wc, hwc⟩ : ∃ wc, wc = w.alloc (.cells #[.slice K0 n0 c0, .slice K1 n1 c1, .slice K2 n2 c2] 27) := ⟨_, rfl⟩
  have hbc : Below w.heap.size w wc := by rw [hwc]; exact (Below.refl _ _).alloc (Nat.le_refl _) _
  have hzc : wc.heap.size = w.heap.size + 1 := by rw [hwc]; simp
  have HWC := Lib.hid hwc
  have HA := Lib.hid (ha.to_below hbc)
  have HB := Lib.hid (hb.to_below hbc)
  have HK := Lib.hid (hk.to_below hbc)
  have HBC := Lib.hid hbc
  have HZC := Lib.hid hzc
  have HK0 := Lib.hid hk
  have HN := Lib.hid hno
  clear ha hb hk hwc hbc hzc hno
  have M := Lib.hid (And.intro hn (And.intro hn' (And.intro h0 (And.intro h1 (And.intro h2 (And.intro hc hc'))))))
  clear hn hn' h0 h1 h2 hc hc'
  go_enter Try.func56, Try.ntmps56
  go_wp2_with fail
  rw [← HWC.out]
  refine (sidesOf_no _ _ _ _ _ _ xs ys _ _ _ _ _ _ _ _ _ k _ HA.out HB.out HK.out M.out.1 M.out.2.1 M.out.2.2.1 M.out.2.2.2.1 M.out.2.2.2.2.1 M.out.2.2.2.2.2.1 M.out.2.2.2.2.2.2 HN.out).mono ?_
  rintro e w1 ⟨rfl, b1⟩
  have BB1 := Lib.hid (HBC.out.trans (b1.mono HBC.out.size))
  have s1 := b1.size
  have s2 := HZC.out
  clear b1
  go_wp2
  go_ret
  exact ⟨rfl, BB1.out.alloc (by omega) _⟩
set_option maxHeartbeats 1600000 in
set_option maxRecDepth 100000 in
theorem fullTable_yes (A A' : Option Addr) (n n' c c' : Nat) (xs ys : Tr) (K0 K1 K2 : Option Addr) (n0 n1 n2 c0 c1 c2 : Nat) (k : Co) (w : World) (ha : NdIn w w.heap.size A n xs) (hb : NdIn w w.heap.size A' n' ys) (hk : CoIn w w.heap.size K0 K1 K2 n0 n1 n2 k)
    (hc : n ≤ c) (hc' : n' ≤ c') (hx : Tr.ok xs = true) (hy : Tr.ok ys = true) (ho : Co.ok k = true) :
    Calls Try.prog 56 #[.slice A n c, .slice A' n' c', .agg #[.slice K0 n0 c0, .slice K1 n1 c1, .slice K2 n2 c2]] w (FullAt xs ys k w) := by
  have hln := ha.1
  have hln' := hb.1
  have hkl := hk.len
  have l1 := (Zs.fit_iff.1 (Co.fit3 ho).1).1
  have l2 := (Zs.fit_iff.1 (Co.fit3 ho).2.1).1
  have l3 := (Zs.fit_iff.1 (Co.fit3 ho).2.2).1
  obtain rfl : n0 = 6 := by omega
  obtain rfl : n1 = 6 := by omega
  obtain rfl : n2 = 36 := by omega
  obtain ⟨k0, rfl, hk0⟩ := hk.1.2.1 (by omega)
  obtain ⟨k1, rfl, hk1⟩ := hk.2.1.2.1 (by omega)
  obtain ⟨k2, rfl, hk2⟩ := hk.2.2.2.1 (by omega)
  obtain ⟨x1, x24⟩ := Tr.len24 hx
  obtain ⟨y1, y24⟩ := Tr.len24 hy
  subst hln
  subst hln'
  obtain ⟨wc, hwc⟩ : ∃ wc, wc = w.alloc (.cells #[.slice (some k0) 6 c0, .slice (some k1) 6 c1, .slice (some k2) 36 c2] 27) := ⟨_, rfl⟩
  have hbc : Below w.heap.size w wc := by rw [hwc]; exact (Below.refl _ _).alloc (Nat.le_refl _) _
  have hzc : wc.heap.size = w.heap.size + 1 := by rw [hwc]; simp
  have HWC := Lib.hid hwc
  have HA := Lib.hid (ha.to_below hbc)
  have HB := Lib.hid (hb.to_below hbc)
  have HK := Lib.hid (hk.to_below hbc)
  have HBC := Lib.hid hbc
  have HZC := Lib.hid hzc
  have HK0 := Lib.hid hk
  obtain ⟨i0, hi0, hz0, hz1, hz2⟩ := info_parts info_intZ
  have Hi := Lib.hid hi0
  obtain ⟨nm, hnm⟩ : ∃ nm, nm = xs.length * ys.length := ⟨_, rfl⟩
  have hnm1 : nm ≤ 576 := by rw [hnm]; exact Nat.mul_le_mul x24 y24
  have hmul : (xs.length : Int) * (ys.length : Int) = (nm : Int) := by rw [hnm, Int.natCast_mul]
  have a3 : IntKind.i64.wrap ((xs.length : Int) * (ys.length : Int)) = (nm : Int) := by rw [hmul, Kit.w64 (by omega) (by omega)]
  have HNM := Lib.hid hnm
  have HX := Lib.hid hx
  have HY := Lib.hid hy
  have HO := Lib.hid ho
  have lk := fun (zs : Tr) (h : Tr.ok zs = true) => show 0 < (Tr.krs zs).length by obtain ⟨r, hr⟩ := Tr.krs_last h; rw [hr]; simp
  have LKX := Lib.hid (lk xs HX.out)
  have LKY := Lib.hid (lk ys HY.out)
  have kl := fun (zs : Tr) (h : Tr.ok zs = true) => show (Tr.krs zs).length ≤ 24 by have h1 := Tr.krTo_le zs (Tr.lfs zs).length; have h2 := Tr.lfs_len h; have h3 := (Tr.len24 h).2; unfold Tr.krs; omega
  have klx := kl xs HX.out
  have kly := kl ys HY.out
  clear lk kl ha hb hk hkl l1 l2 l3 hx hy ho hwc hbc hzc hi0 hnm hmul
  go_enter Try.func56, Try.ntmps56
  go_wp2_with fail
  rw [← HWC.out]
  refine (sidesOf_yes _ _ _ _ _ _ xs ys _ _ _ _ _ _ _ _ _ k _ HA.out HB.out HK.out hc hc' HX.out HY.out HO.out).mono ?_
  rintro e w1 ⟨ga0, ga1, ga2, gb0, gb1, gb2, ca0, ca1, ca2, cb0, cb1, cb2, rfl, ra0, ra1, ra2, rb0, rb1, rb2, b1⟩
  have s1 := b1.size
  have s2 := HZC.out
  have BB1 := Lib.hid (HBC.out.trans (b1.mono HBC.out.size))
  have ROWS := Lib.hid (And.intro ra0 (And.intro ra1 (And.intro ra2 (And.intro rb0 (And.intro rb1 rb2)))))
  have BC := Lib.hid b1
  clear b1 ra0 ra1 ra2 rb0 rb1 rb2
  obtain ⟨ra0, ra1, ra2, rb0, rb1, rb2⟩ := ROWS.out
  have la0 := (ra0.lt ga0 rfl).2
  have la1 := (ra1.lt ga1 rfl).2
  have la2 := (ra2.lt ga2 rfl).2
  have lb0 := (rb0.lt gb0 rfl).2
  have lb1 := (rb1.lt gb1 rfl).2
  have lb2 := (rb2.lt gb2 rfl).2
  have LL := Lib.hid (And.intro la0 (And.intro la1 (And.intro la2 (And.intro lb0 (And.intro lb1 lb2)))))
  clear ra0 ra1 ra2 rb0 rb1 rb2 la0 la1 la2 lb0 lb1 lb2
  obtain ⟨w2, hw2⟩ : ∃ w2, w2 = w1.alloc (.cells #[.slice (some ⟨ga0, 0, none⟩) xs.length ca0, .slice (some ⟨ga1, 0, none⟩) xs.length ca1, .slice (some ⟨ga2, 0, none⟩) (Tr.krs xs).length ca2, .slice (some ⟨gb0, 0, none⟩) ys.length cb0, .slice (some ⟨gb1, 0, none⟩) ys.length cb1, .slice (some ⟨gb2, 0, none⟩) (Tr.krs ys).length cb2, .slice (some k0) 6 c0, .slice (some k1) 6 c1, .slice (some k2) 36 c2] 69) := ⟨_, rfl⟩
  have hb2 : Below w1.heap.size w1 w2 := by rw [hw2]; exact (Below.refl _ _).alloc (Nat.le_refl _) _
  have z2 : w2.heap.size = w1.heap.size + 1 := by rw [hw2]; simp
  have S0 := Lib.hid (show (w2.drew.cell? ⟨w1.heap.size, 0, none⟩ = some (.slice (some ⟨ga0, 0, none⟩) xs.length ca0) ∧ w2.drew.cell? ⟨w1.heap.size, 1, none⟩ = some (.slice (some ⟨ga1, 0, none⟩) xs.length ca1) ∧ w2.drew.cell? ⟨w1.heap.size, 2, none⟩ = some (.slice (some ⟨ga2, 0, none⟩) (Tr.krs xs).length ca2) ∧ w2.drew.cell? ⟨w1.heap.size, 3, none⟩ = some (.slice (some ⟨gb0, 0, none⟩) ys.length cb0) ∧ w2.drew.cell? ⟨w1.heap.size, 4, none⟩ = some (.slice (some ⟨gb1, 0, none⟩) ys.length cb1) ∧ w2.drew.cell? ⟨w1.heap.size, 5, none⟩ = some (.slice (some ⟨gb2, 0, none⟩) (Tr.krs ys).length cb2) ∧ w2.drew.cell? ⟨w1.heap.size, 6, none⟩ = some (.slice (some k0) 6 c0) ∧ w2.drew.cell? ⟨w1.heap.size, 7, none⟩ = some (.slice (some k1) 6 c1) ∧ w2.drew.cell? ⟨w1.heap.size, 8, none⟩ = some (.slice (some k2) 36 c2)) ∧ NiG w1.heap.size w2 w2.drew from by rw [hw2]; exact ⟨⟨cell_made _ _ _ 0 _ rfl, cell_made _ _ _ 1 _ rfl, cell_made _ _ _ 2 _ rfl, cell_made _ _ _ 3 _ rfl, cell_made _ _ _ 4 _ rfl, cell_made _ _ _ 5 _ rfl, cell_made _ _ _ 6 _ rfl, cell_made _ _ _ 7 _ rfl, cell_made _ _ _ 8 _ rfl⟩, (Drawn.refl _).drew.toBelow, by simp⟩)
  have B2 := Lib.hid hb2
  have Z2 := Lib.hid z2
  have HW2 := Lib.hid hw2
  have C1 := Lib.hid s1
  have C2 := Lib.hid s2
  have X24 := Lib.hid (And.intro klx kly)
  clear hb2 z2 hw2 s1 s2 klx kly x1 x24 y1 y24
  go_wp2_with fail
  rw [← HW2.out]
  go_region_held3 (fun wq => (wq.cell? ⟨w1.heap.size, 0, none⟩ = some (.slice (some ⟨ga0, 0, none⟩) xs.length ca0) ∧ wq.cell? ⟨w1.heap.size, 1, none⟩ = some (.slice (some ⟨ga1, 0, none⟩) xs.length ca1) ∧ wq.cell? ⟨w1.heap.size, 2, none⟩ = some (.slice (some ⟨ga2, 0, none⟩) (Tr.krs xs).length ca2) ∧ wq.cell? ⟨w1.heap.size, 3, none⟩ = some (.slice (some ⟨gb0, 0, none⟩) ys.length cb0) ∧ wq.cell? ⟨w1.heap.size, 4, none⟩ = some (.slice (some ⟨gb1, 0, none⟩) ys.length cb1) ∧ wq.cell? ⟨w1.heap.size, 5, none⟩ = some (.slice (some ⟨gb2, 0, none⟩) (Tr.krs ys).length cb2) ∧ wq.cell? ⟨w1.heap.size, 6, none⟩ = some (.slice (some k0) 6 c0) ∧ wq.cell? ⟨w1.heap.size, 7, none⟩ = some (.slice (some k1) 6 c1) ∧ wq.cell? ⟨w1.heap.size, 8, none⟩ = some (.slice (some k2) 36 c2)) ∧ NiG w1.heap.size w2 wq) (first | (with_reducible exact S0.out) | (with_reducible refine nine_keep ?_ hb; with_reducible assumption) | (with_reducible refine nine_keep ?_ ((Below.refl _ _).alloc (Nat.le_refl _) _); with_reducible assumption)) (first | (refine upon_make w.heap.size 25 3 i0 Try.underlying25 Hi.out hz0 hz1 hz2 nm (by omega) (by have := (nine_below (by assumption)).size; have := Z2.out; have := C1.out; have := C2.out; omega) ?_; intro w7 rt hg7; have hb : Below _ _ w7 := (Below.refl _ _).grown hg7 (Nat.le_refl _) (fun _ h => by cases h); have hbm := hb))
  obtain ⟨ra0, ra1, ra2, rb0, rb1, rb2⟩ := ROWS.out
  obtain ⟨la0, la1, la2, lb0, lb1, lb2⟩ := LL.out
  have sm := hbm.size
  have s1 := C1.out
  have s2 := C2.out
  have z2 := Z2.out
  have zd : w2.drew.heap.size = w2.heap.size := rfl
  have up : ∀ {v : Value} {m : Nat} {zs : List Value}, w1.ownsRow wc.heap.size 3 1 v m zs → w7.ownsRow w.heap.size 3 1 v m zs := fun h => own_base (own_below (own_drawn (own_below h B2.out) (Drawn.refl _).drew) hbm) (by omega)
  have va0 := up ra0
  have va1 := up ra1
  have va2 := up ra2
  have vb0 := up rb0
  have vb1 := up rb1
  have vb2 := up rb2
  have vt : w7.ownsRow w.heap.size 3 1 (.slice (some ⟨w2.heap.size, 0, none⟩) nm nm) nm (ints (List.replicate nm 0)) := rt
  have ht7 : w.heap.size ≤ w2.heap.size ∧ w2.heap.size < w7.heap.size := rt.lt _ rfl
  have hbl : Below w1.heap.size w1 w7 := (B2.out.trans ((Drawn.refl w2).drew.toBelow (B := w1.heap.size))).trans (hbm.mono (by omega))
  have hF : Below w.heap.size w w7 := BB1.out.trans (hbl.mono (by omega))
  have CW : CoIn w7 w.heap.size (some k0) (some k1) (some k2) 6 6 36 k := HK0.out.below hF
  have hD := DT.made (B := w.heap.size) (ck0 := c0) (ck1 := c1) (ck2 := c2) va0 va1 va2 vb0 vb1 vb2 HNM.out vt CW (by refine ⟨?_, ?_, ?_, ?_, ?_, ?_⟩ <;> omega) (by refine ⟨?_, ?_, ?_, ?_, ?_, ?_⟩ <;> omega) ⟨by omega, by omega⟩
  unfold dtCells at hD
  have hF2 : ∀ o, Below w.heap.size w (w7.alloc o) := fun o => hF.alloc (by omega) o
  generalize hwf : World.alloc w7 _ = wf at hD ⊢
  have hBW : Below w.heap.size w wf := by rw [← hwf]; exact hF2 _
  obtain ⟨D, hg, hD⟩ : ∃ D : DtD, D.g = w7.heap.size ∧ DT w.heap.size D xs ys k (fun _ _ => 0) (List.replicate nm 0) wf := ⟨_, rfl, hD⟩
  rw [← hg]
  have HD := Lib.hid hD
  have HBW := Lib.hid hBW
  have HT0 := Lib.hid (show (List.replicate nm (0 : Int)).length = xs.length * ys.length by rw [List.length_replicate]; exact HNM.out)
  have c2' := hD.h2
  obtain ⟨klx, kly⟩ := X24.out
  clear up va0 va1 va2 vb0 vb1 vb2 vt ra0 ra1 ra2 rb0 rb1 rb2 rt hg7 hbm hbl CW hD hF hF2 hBW hwf S0 sm s1 s2 z2 zd ht7 la0 la1 la2 lb0 lb1 lb2 hg
  go_wp2
  go_loopw [39] (fun kv wr => ∃ (kk : Nat) (F : Nat → Nat → Int) (T : List Int), kk ≤ (Tr.krs xs).length ∧ kv = .int .i64 kk ∧ Roots xs ys k kk 0 T ∧ DT w.heap.size D xs ys k F T wr ∧ Below w.heap.size w wr ∧ (kk = (Tr.krs xs).length → ∀ a b, a ≤ xs.length → b ≤ ys.length → F a b = RR xs ys k 0 a 0 b)) (fun kk _ => (Tr.krs xs).length - (intOf kk).toNat)
  case atStart => exact ⟨0, _, _, Nat.zero_le _, rfl, Roots.start HT0.out, HD.out, HBW.out, fun h => by have := LKX.out; omega⟩
  case round =>
    clear HD HBW HT0
    obtain ⟨kk, F, T, hkk, rfl, hR, hD, hB, hL⟩ := hrel
    have HR := Lib.hid hR
    have HD := Lib.hid hD
    have HB := Lib.hid hB
    have HL := Lib.hid hL
    clear hR hD hB hL
    by_cases hlt : kk < (Tr.krs xs).length
    · have r1 := HD.out.ra2.at_ kk hlt
      rw [Tr.kr_up hlt] at r1
      have hil := Tr.krs_lt HX.out (Tr.kr_mem hlt)
      have h5 := HD.out.h5
      have k1 : (0 : Int) ≤ (kk : Int) := by omega
      have k2 : (kk : Int) < ((Tr.krs xs).length : Int) := by omega
      go_wp2
      go_loopw [50] (fun lv wr => ∃ (ll : Nat) (F : Nat → Nat → Int) (T : List Int), ll ≤ (Tr.krs ys).length ∧ lv = .int .i64 ll ∧ Roots xs ys k kk ll T ∧ DT w.heap.size D xs ys k F T wr ∧ Below w.heap.size w wr ∧ (kk + 1 = (Tr.krs xs).length → ll = (Tr.krs ys).length → ∀ a b, a ≤ xs.length → b ≤ ys.length → F a b = RR xs ys k 0 a 0 b)) (fun ll _ => (Tr.krs ys).length - (intOf ll).toNat)
      case atStart => exact ⟨0, F, T, Nat.zero_le _, rfl, HR.out, HD.out, HB.out, fun _ h => by have := LKY.out; omega⟩
      case round =>
        clear HR HD HB HL
        clear F T
        obtain ⟨ll, F, T, hll, rfl, hR, hD, hB, hL⟩ := hrel
        have HR := Lib.hid hR
        have HD := Lib.hid hD
        have HB := Lib.hid hB
        have HL := Lib.hid hL
        clear hR hD hB hL
        by_cases hlt2 : ll < (Tr.krs ys).length
        · have r2 := HD.out.rb2.at_ ll hlt2
          rw [Tr.kr_up hlt2] at r2
          have hjl := Tr.krs_lt HY.out (Tr.kr_mem hlt2)
          have l1 : (0 : Int) ≤ (ll : Int) := by omega
          have l2 : (ll : Int) < ((Tr.krs ys).length : Int) := by omega
          go_wp2_with fail
          refine (distCmp_any w.heap.size D xs ys k F T wr HD.out HX.out HY.out HO.out (Tr.kr xs kk) (Tr.kr ys ll) hil hjl (Roots.ahead HX.out HY.out hlt hlt2 HR.out)).mono ?_
          rintro e w7 ⟨rfl, ⟨F', T', hf, hD'⟩, hb'⟩
          have HR' := Lib.hid (Roots.step hlt hlt2 HR.out hf)
          have HL' := Lib.hid (fun (e1 : kk + 1 = (Tr.krs xs).length) (e2 : ll + 1 = (Tr.krs ys).length) => fill_last HX.out HY.out e1 e2 hf)
          have HD' := Lib.hid hD'
          have HB' := Lib.hid (HB.out.trans hb')
          clear hf hD' hb'
          go_wp2
          go_roundw
          case rel => exact ⟨ll + 1, F', T', by omega, by go_num, HR'.out, HD'.out, HB'.out, HL'.out⟩
          case measure => simp [intOf]; omega
        · have hle : ll = (Tr.krs ys).length := by omega
          have HLL := Lib.hid (fun e => HL.out e hle)
          rw [hle] at HR
          clear HL
          have HN := Lib.hid (Roots.next HR.out)
          clear hle
          go_wp2
          go_roundw
          case rel => exact ⟨kk + 1, F, T, by omega, by go_num, HN.out, HD.out, HB.out, HLL.out⟩
          case measure => simp [intOf]; omega
    · have hke : kk = (Tr.krs xs).length := by omega
      have HLL := Lib.hid (HL.out hke)
      rw [hke] at HR
      clear hke HL
      have HT := Lib.hid (Roots.tds HX.out HY.out HR.out)
      go_wp2
      go_ret
      exact ⟨D, F, rfl, by rw [← HT.out]; exact HD.out, HLL.out, HB.out⟩


end Go.Proofs.Ytajplmopdipbnaa

/- Contracts (DistI). -/
namespace Go.Proofs.Ytajplmopdipbnaa
open Go.RowKit
set_option linter.unusedVariables false

section
variable (A A' : Option Addr) (n n' c c' : Nat) (xs ys : Tr) (K0 K1 K2 : Option Addr) (n0 n1 n2 c0 c1 c2 : Nat) (k : Co) (w : World) (ha : NdIn w w.heap.size A n xs) (hb : NdIn w w.heap.size A' n' ys) (hk : CoIn w w.heap.size K0 K1 K2 n0 n1 n2 k)
    (hn : n ≤ 1048576) (hn' : n' ≤ 1048576) (h0 : n0 ≤ 1048576) (h1 : n1 ≤ 1048576) (h2 : n2 ≤ 1048576) (hc : n ≤ c) (hc' : n' ≤ c')
include ha hb hk hn hn' h0 h1 h2 hc hc'
set_option maxHeartbeats 1600000 in
set_option maxRecDepth 100000 in
theorem implTreeDists_any : Calls Try.prog 21 #[.slice A n c, .slice A' n' c', .agg #[.slice K0 n0 c0, .slice K1 n1 c1, .slice K2 n2 c2]] w (OwnInts 3 (Tr.dists xs ys k) w) := by
  obtain ⟨wc, hwc⟩ : ∃ wc, wc = w.alloc (.cells #[.slice K0 n0 c0, .slice K1 n1 c1, .slice K2 n2 c2] 27) := ⟨_, rfl⟩
  have hbc : Below w.heap.size w wc := by rw [hwc]; exact (Below.refl _ _).alloc (Nat.le_refl _) _
  have HWC := Lib.hid hwc
  have HA := Lib.hid (ha.to_below hbc)
  have HB := Lib.hid (hb.to_below hbc)
  have HK := Lib.hid (hk.to_below hbc)
  have HBC := Lib.hid hbc
  cases hd : DOk xs ys k with
  | false =>
    have Hf := Lib.hid (show Tr.dists xs ys k = [] by unfold DOk at hd; unfold Tr.dists; rw [hd]; rfl)
    have HD := Lib.hid hd
    clear ha hb hk hd hwc hbc
    go_enter Try.func21, Try.ntmps21
    go_wp2_with fail
    rw [← HWC.out]
    refine (fullTable_no _ _ _ _ _ _ xs ys _ _ _ _ _ _ _ _ _ k _ HA.out HB.out HK.out hn hn' h0 h1 h2 hc hc' HD.out).mono ?_
    rintro e w1 ⟨rfl, b1⟩
    have BB1 := Lib.hid (HBC.out.trans (b1.mono HBC.out.size))
    clear b1
    go_wp2
    go_ret
    rw [Hf.out]
    exact ⟨none, 0, rfl, own_nil, BB1.out⟩
  | true =>
    obtain ⟨o1, o2, o3⟩ := DOk.parts hd
    have Hf := Lib.hid (show Tr.dists xs ys k = Tr.tds xs ys k by unfold DOk at hd; unfold Tr.dists; rw [hd]; rfl)
    have O1 := Lib.hid o1
    have O2 := Lib.hid o2
    have O3 := Lib.hid o3
    clear ha hb hk hd hwc hbc o1 o2 o3
    go_enter Try.func21, Try.ntmps21
    go_wp2_with fail
    rw [← HWC.out]
    refine (fullTable_yes _ _ _ _ _ _ xs ys _ _ _ _ _ _ _ _ _ k _ HA.out HB.out HK.out hc hc' O1.out O2.out O3.out).mono ?_
    rintro e w1 ⟨D, F, rfl, hD, hF, b1⟩
    have HD := Lib.hid hD
    have BB1 := Lib.hid (HBC.out.trans (b1.mono HBC.out.size))
    have c9 := hD.h9
    clear b1 hD hF
    go_wp2
    go_ret
    have row := HD.out.row
    rw [Hf.out]
    refine ⟨some ⟨D.gt, 0, none⟩, xs.length * ys.length, by rw [Tr.tds_length]; rfl, ?_, BB1.out⟩
    rw [Tr.tds_length]
    exact own_base row HBC.out.size
set_option maxHeartbeats 1600000 in
set_option maxRecDepth 100000 in
theorem implRootDist_any : Calls Try.prog 17 #[.slice A n c, .slice A' n' c', .agg #[.slice K0 n0 c0, .slice K1 n1 c1, .slice K2 n2 c2]] w fun e w' => e = .returned (.int .i64 (Tr.rootDist xs ys k)) ∧ Below w.heap.size w w' := by
  obtain ⟨wc, hwc⟩ : ∃ wc, wc = w.alloc (.cells #[.slice K0 n0 c0, .slice K1 n1 c1, .slice K2 n2 c2] 27) := ⟨_, rfl⟩
  have hbc : Below w.heap.size w wc := by rw [hwc]; exact (Below.refl _ _).alloc (Nat.le_refl _) _
  have HWC := Lib.hid hwc
  have HA := Lib.hid (ha.to_below hbc)
  have HB := Lib.hid (hb.to_below hbc)
  have HK := Lib.hid (hk.to_below hbc)
  have HBC := Lib.hid hbc
  cases hd : DOk xs ys k with
  | false =>
    have Hf := Lib.hid (show Tr.rootDist xs ys k = -1 by unfold DOk at hd; unfold Tr.rootDist; rw [hd]; rfl)
    have HD := Lib.hid hd
    clear ha hb hk hd hwc hbc
    go_enter Try.func17, Try.ntmps17
    go_wp2_with fail
    rw [← HWC.out]
    refine (fullTable_no _ _ _ _ _ _ xs ys _ _ _ _ _ _ _ _ _ k _ HA.out HB.out HK.out hn hn' h0 h1 h2 hc hc' HD.out).mono ?_
    rintro e w1 ⟨rfl, b1⟩
    have BB1 := Lib.hid (HBC.out.trans (b1.mono HBC.out.size))
    clear b1
    go_wp2
    go_ret
    exact ⟨Kit.ret_int Hf.out.symm, BB1.out⟩
  | true =>
    obtain ⟨o1, o2, o3⟩ := DOk.parts hd
    obtain ⟨x1, x24⟩ := Tr.len24 o1
    obtain ⟨y1, y24⟩ := Tr.len24 o2
    have hln := ha.1
    have hln' := hb.1
    obtain ⟨x, hx⟩ : ∃ x, x = xs.length - 1 := ⟨_, rfl⟩
    obtain ⟨y, hy⟩ : ∃ y, y = ys.length - 1 := ⟨_, rfl⟩
    have n3 := (Co.nonneg' k).2.2 (Tr.xa xs x) (Tr.xa ys y)
    have bd := RR_bound (k := k) o1 o2 (p := 0) (a := x) (q := 0) (b := y) (Nat.zero_le _) (by omega) (Nat.zero_le _) (by omega)
    have Hf := Lib.hid (show Tr.rootDist xs ys k = RR xs ys k 0 x 0 y + Co.rel k (Tr.xa xs x) (Tr.xa ys y) by unfold DOk at hd; unfold Tr.rootDist; rw [hd, hx, hy, Tr.xa_last o1, Tr.xa_last o2]; rfl)
    have O1 := Lib.hid o1
    have O2 := Lib.hid o2
    have O3 := Lib.hid o3
    have e1 : (n : Int) - 1 = (x : Int) := by omega
    have e2 : (n' : Int) - 1 = (y : Int) := by omega
    have HX := Lib.hid hx
    have HY := Lib.hid hy
    have k1 : (0 : Int) ≤ (x : Int) := by omega
    have k2 : (x : Int) < 25 := by omega
    have k3 : (0 : Int) ≤ (y : Int) := by omega
    have k4 : (y : Int) < 25 := by omega
    have a1 : IntKind.i64.wrap ((n : Int) - 1) = (x : Int) := by rw [Kit.w64 (by omega) (by omega)]; exact e1
    have a2 : IntKind.i64.wrap ((n' : Int) - 1) = (y : Int) := by rw [Kit.w64 (by omega) (by omega)]; exact e2
    clear ha hb hk hd hwc hbc o1 o2 o3 hx hy
    go_enter Try.func17, Try.ntmps17
    go_wp2_with fail
    rw [← HWC.out]
    refine (fullTable_yes _ _ _ _ _ _ xs ys _ _ _ _ _ _ _ _ _ k _ HA.out HB.out HK.out hc hc' O1.out O2.out O3.out).mono ?_
    rintro e w1 ⟨D, F, rfl, hD, hF, b1⟩
    have HD := Lib.hid hD
    have BB1 := Lib.hid (HBC.out.trans (b1.mono HBC.out.size))
    have cf := hD.fr x y (by omega) (by omega)
    rw [hF x y (by have := HX.out; omega) (by have := HY.out; omega)] at cf
    clear b1 hD hF
    go_wp2_with fail
    try rw [e1]
    try rw [e2]
    go_quiet (first | (go_at_call 57; exact quiet_drawn (distRel_any _ _ _ _ _ _ _ _ (HD.out.drawn ((Drawn.refl _).drewN _)) O1.out O2.out O3.out x y (by have := HX.out; omega) (by have := HY.out; omega))))
    go_wp2
    go_ret
    exact ⟨Kit.ret_int Hf.out.symm, Drawn.below BB1.out ((Drawn.refl _).drewN _)⟩
set_option maxHeartbeats 1600000 in
set_option maxRecDepth 100000 in
theorem implTreeDist_any : Calls Try.prog 19 #[.slice A n c, .slice A' n' c', .agg #[.slice K0 n0 c0, .slice K1 n1 c1, .slice K2 n2 c2]] w fun e w' => e = .returned (.int .i64 (Tr.dist xs ys k)) ∧ Below w.heap.size w w' := by
  obtain ⟨wc, hwc⟩ : ∃ wc, wc = w.alloc (.cells #[.slice K0 n0 c0, .slice K1 n1 c1, .slice K2 n2 c2] 27) := ⟨_, rfl⟩
  have hbc : Below w.heap.size w wc := by rw [hwc]; exact (Below.refl _ _).alloc (Nat.le_refl _) _
  have HWC := Lib.hid hwc
  have HA := Lib.hid (ha.to_below hbc)
  have HB := Lib.hid (hb.to_below hbc)
  have HK := Lib.hid (hk.to_below hbc)
  have HBC := Lib.hid hbc
  have Hc := Lib.hid (implTreeDists_any A A' n n' c c' xs ys K0 K1 K2 n0 n1 n2 c0 c1 c2 k wc HA.out HB.out HK.out hn hn' h0 h1 h2 hc hc')
  cases hd : DOk xs ys k with
  | false =>
    have Hf := Lib.hid (show Tr.dists xs ys k = [] by unfold DOk at hd; unfold Tr.dists; rw [hd]; rfl)
    have Hg := Lib.hid (show Tr.dist xs ys k = -1 by unfold DOk at hd; unfold Tr.dist; rw [hd]; rfl)
    clear ha hb hk hd hwc hbc
    go_enter Try.func19, Try.ntmps19
    go_wp2_with fail
    rw [← HWC.out]
    refine Hc.out.mono ?_
    rintro e w1 ⟨A1, c1, rfl, o1, b1⟩
    have BB1 := Lib.hid (HBC.out.trans (b1.mono HBC.out.size))
    clear b1 o1
    rw [Hf.out]
    go_wp2
    go_ret
    exact ⟨Kit.ret_int Hg.out.symm, BB1.out⟩
  | true =>
    obtain ⟨o1, o2, o3⟩ := DOk.parts hd
    obtain ⟨x1, x24⟩ := Tr.len24 o1
    obtain ⟨y1, y24⟩ := Tr.len24 o2
    obtain ⟨nm, hnm⟩ : ∃ nm, nm = xs.length * ys.length := ⟨_, rfl⟩
    have hnm1 : nm ≤ 576 := by rw [hnm]; exact Nat.mul_le_mul x24 y24
    have hnm0 : 0 < nm := by rw [hnm]; exact Nat.mul_pos (by omega) (by omega)
    obtain ⟨m1, hm1⟩ : ∃ m1, m1 = nm - 1 := ⟨_, rfl⟩
    have Hf := Lib.hid (show Tr.dists xs ys k = Tr.tds xs ys k by unfold DOk at hd; unfold Tr.dists; rw [hd]; rfl)
    have Hg := Lib.hid (show Tr.dist xs ys k = Zs.at (Tr.tds xs ys k) m1 by unfold DOk at hd; unfold Tr.dist; rw [hd, hm1, hnm, Tr.tds_last o1 o2]; rfl)
    have Hl := Lib.hid (show (Tr.tds xs ys k).length = nm by rw [Tr.tds_length, hnm])
    have e0 : ((nm : Int) == 0) = false := by simp; omega
    have e1 : (nm : Int) - 1 = (m1 : Int) := by omega
    have a1 : IntKind.i64.wrap ((nm : Int) - 1) = (m1 : Int) := by rw [Kit.w64 (by omega) (by omega)]; exact e1
    have k1 : (0 : Int) ≤ (m1 : Int) := by omega
    have k2 : (m1 : Int) < (nm : Int) := by omega
    have hlt : m1 < nm := by omega
    clear ha hb hk hd hwc hbc o1 o2 o3 hnm hm1
    go_enter Try.func19, Try.ntmps19
    go_wp2_with fail
    rw [← HWC.out]
    refine Hc.out.mono ?_
    rintro e w1 ⟨A1, c1, rfl, o1, b1⟩
    have BB1 := Lib.hid (HBC.out.trans (b1.mono HBC.out.size))
    rw [Hf.out, Hl.out] at o1
    rw [Hf.out, Hl.out]
    obtain ⟨ad, rfl, _, l1⟩ := (IntIn.of_own o1).at_ hlt
    clear b1 o1
    go_wp2
    go_ret
    exact ⟨Kit.ret_int Hg.out.symm, BB1.out⟩
end

end Go.Proofs.Ytajplmopdipbnaa
