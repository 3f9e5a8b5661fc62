/- Texts of one claim laid into one file, in build order: RelS, TblI, CostOkI, SidO, DistS. -/
import Derived.Test.YtlndaflhlkbedaaMg7
import Derived.BigQuiet
import Derived.Deep.QuietTactic
import Derived.Deep.RegionHeld3
import Derived.Laws.ResultCell
import Derived.Outline
import Derived.Test.YtlndaflhlkbedaaRows
/- Contracts (RelS). -/
namespace Go.Proofs.Ytlndaflhlkbedaa
open Go.RowKit
set_option linter.unusedVariables false

set_option maxHeartbeats 1600000 in
set_option maxRecDepth 100000 in
theorem specRelCost_any (A0 A1 A2 : Option Addr) (n0 n1 n2 c0 c1 c2 : Nat) (k : Co) (a b : Int) (w : World) (h : CoIn w w.heap.size A0 A1 A2 n0 n1 n2 k) (h0 : n0 ≤ 1048576) (h1 : n1 ≤ 1048576) (h2 : n2 ≤ 1048576) :
    Calls Try.prog 75 #[.agg #[.slice A0 n0 c0, .slice A1 n1 c1, .slice A2 n2 c2], .int .i64 a, .int .i64 b] w fun e w' => e = .returned (.int .i64 (Co.rel k a b)) ∧ Below w.heap.size w w' := by
  have H := Lib.hid h
  have HL := Lib.hid h.len
  clear h
  have HB := Lib.hid ((Below.refl w.heap.size w).alloc (Nat.le_refl _) (.cells #[.slice A0 n0 c0, .slice A1 n1 c1, .slice A2 n2 c2] 27))
  have H1 := Lib.hid (H.out.to_below HB.out)
  cases e0 : Co.ok k with
  | false =>
    have Hf := Lib.hid (show Co.rel k a b = 0 by unfold Co.rel; rw [e0]; rfl)
    have E0 := Lib.hid e0
    clear e0
    go_enter Try.func75, Try.ntmps75
    go_wp2_with fail
    refine (specCostOk_any _ _ _ _ _ _ _ _ _ k _ H1.out h0 h1 h2).mono ?_
    rintro e w1 ⟨rfl, hb⟩
    have HB := Lib.hid (HB.out.trans (hb.mono HB.out.size))
    clear hb
    rw [E0.out]
    go_wp2
    go_ret
    exact ⟨Kit.ret_int Hf.out.symm, HB.out⟩
  | true =>
    cases e1 : Lab.ok a with
    | false =>
      have Hf := Lib.hid (show Co.rel k a b = 0 by unfold Co.rel; rw [e0, e1]; rfl)
      have E0 := Lib.hid e0
      have E1 := Lib.hid e1
      clear e0 e1
      go_enter Try.func75, Try.ntmps75
      go_wp2_with fail
      refine (specCostOk_any _ _ _ _ _ _ _ _ _ k _ H1.out h0 h1 h2).mono ?_
      rintro e w1 ⟨rfl, hb⟩
      have HB := Lib.hid (HB.out.trans (hb.mono HB.out.size))
      clear hb
      rw [E0.out]
      go_wp2_with fail
      refine (specLabelOk_any _ _).mono ?_
      rintro e w2 ⟨rfl, rfl⟩
      rw [E1.out]
      go_wp2
      go_ret
      exact ⟨Kit.ret_int Hf.out.symm, HB.out⟩
    | true =>
      cases e2 : Lab.ok b with
      | false =>
        have Hf := Lib.hid (show Co.rel k a b = 0 by unfold Co.rel; rw [e0, e1, e2]; rfl)
        have E0 := Lib.hid e0
        have E1 := Lib.hid e1
        have E2 := Lib.hid e2
        clear e0 e1 e2
        go_enter Try.func75, Try.ntmps75
        go_wp2_with fail
        refine (specCostOk_any _ _ _ _ _ _ _ _ _ k _ H1.out h0 h1 h2).mono ?_
        rintro e w1 ⟨rfl, hb⟩
        have HB := Lib.hid (HB.out.trans (hb.mono HB.out.size))
        clear hb
        rw [E0.out]
        go_wp2_with fail
        refine (specLabelOk_any _ _).mono ?_
        rintro e w2 ⟨rfl, rfl⟩
        rw [E1.out]
        go_wp2_with fail
        refine (specLabelOk_any _ _).mono ?_
        rintro e w3 ⟨rfl, rfl⟩
        rw [E2.out]
        go_wp2
        go_ret
        exact ⟨Kit.ret_int Hf.out.symm, HB.out⟩
      | true =>
        have hd := (Zs.fit_iff.1 (Co.ok_iff.1 e0).2.2.1).1
        have ha : 0 ≤ a ∧ a ≤ 5 := by simpa [Lab.ok] using e1
        have hb' : 0 ≤ b ∧ b ≤ 5 := by simpa [Lab.ok] using e2
        obtain ⟨i, rfl⟩ := Int.eq_ofNat_of_zero_le ha.1
        obtain ⟨j, rfl⟩ := Int.eq_ofNat_of_zero_le hb'.1
        obtain ⟨p, hp⟩ : ∃ p, p = i * 6 + j := ⟨_, rfl⟩
        have Hf := Lib.hid (show Co.rel k (i : Int) (j : Int) = Zs.at k.r p by unfold Co.rel; rw [e0, e1, e2, hp]; rfl)
        have E0 := Lib.hid e0
        have E1 := Lib.hid e1
        have E2 := Lib.hid e2
        have hn6 : n2 = 36 := by rw [← hd]; exact HL.out.2.2.symm
        clear e0 e1 e2 hd
        subst hn6
        obtain ⟨ad, rfl, _⟩ := H1.out.2.2.2.1 (by omega)
        have a1 : IntKind.i64.wrap ((i : Int) * 6) = (i : Int) * 6 := Kit.w64 (by omega) (by omega)
        have a2 : IntKind.i64.wrap ((i : Int) * 6 + (j : Int)) = (p : Int) := by rw [Kit.w64 (by omega) (by omega)]; omega
        have a3 : (i : Int) * 6 + (j : Int) = (p : Int) := by omega
        have k1 : (0 : Int) ≤ (p : Int) := by omega
        have k2 : (p : Int) < 36 := by omega
        have hp36 : p < 36 := by omega
        have g0 : (w.alloc (.cells #[.slice A0 n0 c0, .slice A1 n1 c1, .slice (some ad) 36 c2] 27)).cell? ⟨w.heap.size, 2, none⟩ = some (.slice (some ad) 36 c2) := by simp
        clear hp ha hb'
        go_enter Try.func75, Try.ntmps75
        go_wp2_with fail
        refine (specCostOk_any _ _ _ _ _ _ _ _ _ k _ H1.out h0 h1 h2).mono ?_
        rintro e w1 ⟨rfl, hb⟩
        have HB := Lib.hid (HB.out.trans (hb.mono HB.out.size))
        have H1 := Lib.hid (H1.out.to_below hb)
        have g1 := (hb.cell (p := ⟨w.heap.size, 2, none⟩) (by simp)).trans g0
        have c1' := H1.out.2.2.here (k := p) hp36
        clear hb g0
        rw [E0.out]
        go_wp2_with fail
        refine (specLabelOk_any _ _).mono ?_
        rintro e w2 ⟨rfl, rfl⟩
        rw [E1.out]
        go_wp2_with fail
        refine (specLabelOk_any _ _).mono ?_
        rintro e w3 ⟨rfl, rfl⟩
        rw [E2.out]
        go_wp2
        go_ret
        exact ⟨Kit.ret_int Hf.out.symm, HB.out⟩

end Go.Proofs.Ytlndaflhlkbedaa

/- Contracts (TblI). -/
namespace Go.Proofs.Ytlndaflhlkbedaa
open Go.RowKit
set_option linter.unusedVariables false

set_option maxHeartbeats 1600000 in
set_option maxRecDepth 100000 in
theorem tableOk_any (A : Option Addr) (n c : Nat) (zs : List Int) (m : Nat) (w : World) (h : IntIn w w.heap.size A n zs) (hn : n ≤ 1048576) (hm : m ≤ 1000) :
    Calls Try.prog 130 #[.slice A n c, .int .i64 m] w fun e w' => e = .returned (.bool (Zs.fit zs m)) ∧ w = w' := by
  have H := Lib.hid h
  have HL := Lib.hid h.1
  clear h
  by_cases hnm : n = m
  · subst hnm
    have q0 : ((n : Int) != (n : Int)) = false := by simp
    go_enter Try.func130, Try.ntmps130
    go_wp2
    go_loop [13] (fun iv => ∃ k : Nat, k ≤ n ∧ iv = .int .i64 k ∧ Zs.inTo zs k) (fun i => n - (intOf i).toNat)
    case atStart => exact ⟨0, Nat.zero_le _, rfl, fun j hj => absurd hj (Nat.not_lt_zero j)⟩
    case round =>
      obtain ⟨k, hk, rfl, hin⟩ := hrel
      have HI := Lib.hid hin
      clear hin
      by_cases hlt : k < n
      · obtain ⟨ad, rfl, _, c1⟩ := H.out.at_ hlt
        obtain ⟨z, hz⟩ : ∃ z, z = Zs.at zs k := ⟨_, rfl⟩
        rw [← hz] at c1
        have HZ := Lib.hid hz
        clear hz
        have k0 : (0 : Int) ≤ (k : Int) := by omega
        have k1 : (k : Int) < (n : Int) := by omega
        by_cases hq0 : z < 0
        · have q : decide (z < 0) = true := by simpa using hq0
          have Hf := Lib.hid (Zs.fit_not (zs := zs) (k := k) (n := n) (by rw [HL.out]; exact hlt) (by rw [← HZ.out]; omega))
          clear hq0
          go_wp2
          go_ret
          exact ⟨Kit.ret_bool Hf.out.symm, rfl⟩
        · by_cases hq1 : 1000 < z
          · have q : decide (z < 0) = false := by simpa using hq0
            have q' : decide (1000 < z) = true := by simpa using hq1
            have Hf := Lib.hid (Zs.fit_not (zs := zs) (k := k) (n := n) (by rw [HL.out]; exact hlt) (by rw [← HZ.out]; omega))
            clear hq0 hq1
            go_wp2
            go_ret
            exact ⟨Kit.ret_bool Hf.out.symm, rfl⟩
          · have q : decide (z < 0) = false := by simpa using hq0
            have q' : decide (1000 < z) = false := by simpa using hq1
            have Hq := Lib.hid (show 0 ≤ z ∧ z ≤ 1000 by omega)
            clear hq0 hq1
            go_wp2
            go_round
            case rel => exact ⟨k + 1, by omega, by go_num, fun j hj => by
              rcases Nat.lt_succ_iff_lt_or_eq.1 hj with h' | rfl
              · exact HI.out j h'
              · rw [← HZ.out]; exact Hq.out⟩
            case measure => simp [intOf]; omega
      · obtain rfl : k = n := by omega
        have Hf := Lib.hid (Zs.fit_all (zs := zs) (n := k) (by rw [HL.out]; exact HI.out))
        go_wp2
        go_ret
        exact ⟨Kit.ret_bool (by rw [Hf.out, HL.out]; simp), rfl⟩
  · have q0 : ((n : Int) != (m : Int)) = true := by simp; omega
    have Hf := Lib.hid (show Zs.fit zs m = false by rw [Bool.eq_false_iff]; intro e; have := (Zs.fit_iff.1 e).1; rw [HL.out] at this; exact hnm this)
    clear hnm
    go_enter Try.func130, Try.ntmps130
    go_wp2
    go_ret
    exact ⟨Kit.ret_bool Hf.out.symm, rfl⟩
set_option maxHeartbeats 400000 in
theorem relIndex_any (a b : Int) (w : World) (h0 : 0 ≤ a) (h1 : a < 1000) (h2 : 0 ≤ b) (h3 : b < 1000) :
    Calls Try.prog 116 #[.int .i64 a, .int .i64 b] w fun e w' => e = .returned (.int .i64 (a * 6 + b)) ∧ w = w' := by
  go_enter Try.func116, Try.ntmps116
  go_wp2
  go_ret
  exact ⟨rfl, rfl⟩

end Go.Proofs.Ytlndaflhlkbedaa

/- Contracts (CostOkI). -/
namespace Go.Proofs.Ytlndaflhlkbedaa
open Go.RowKit
set_option linter.unusedVariables false

set_option maxHeartbeats 1600000 in
set_option maxRecDepth 100000 in
theorem implCostOk_any (A0 A1 A2 : Option Addr) (n0 n1 n2 c0 c1 c2 : Nat) (k : Co) (w : World) (h : CoIn w w.heap.size A0 A1 A2 n0 n1 n2 k) (h0 : n0 ≤ 1048576) (h1 : n1 ≤ 1048576) (h2 : n2 ≤ 1048576) :
    Calls Try.prog 92 #[.agg #[.slice A0 n0 c0, .slice A1 n1 c1, .slice A2 n2 c2]] w fun e w' => e = .returned (.bool (Co.ok k)) ∧ Below w.heap.size w w' := by
  have H := Lib.hid h
  have HL := Lib.hid h.len
  clear h
  have HB := Lib.hid ((Below.refl w.heap.size w).alloc (Nat.le_refl _) (.cells #[.slice A0 n0 c0, .slice A1 n1 c1, .slice A2 n2 c2] 27))
  have H1 := Lib.hid (H.out.to_below HB.out)
  cases e0 : Zs.fit k.d 6 with
  | false =>
    have Hf := Lib.hid (show Co.ok k = false by unfold Co.ok; rw [e0]; rfl)
    have E0 := Lib.hid e0
    clear e0
    go_enter Try.func92, Try.ntmps92
    go_wp2_with fail
    refine (tableOk_any _ _ _ k.d 6 _ H1.out.1 h0 (by decide)).mono ?_
    rintro e w1 ⟨rfl, rfl⟩
    rw [E0.out]
    go_wp2
    go_ret
    exact ⟨Kit.ret_bool Hf.out.symm, HB.out⟩
  | true =>
    cases e1 : Zs.fit k.i 6 with
    | false =>
      have Hf := Lib.hid (show Co.ok k = false by unfold Co.ok; rw [e0, e1]; rfl)
      have E0 := Lib.hid e0
      have E1 := Lib.hid e1
      clear e0 e1
      go_enter Try.func92, Try.ntmps92
      go_wp2_with fail
      refine (tableOk_any _ _ _ k.d 6 _ H1.out.1 h0 (by decide)).mono ?_
      rintro e w1 ⟨rfl, rfl⟩
      rw [E0.out]
      go_wp2_with fail
      refine (tableOk_any _ _ _ k.i 6 _ H1.out.2.1 h1 (by decide)).mono ?_
      rintro e w1 ⟨rfl, rfl⟩
      rw [E1.out]
      go_wp2
      go_ret
      exact ⟨Kit.ret_bool Hf.out.symm, HB.out⟩
    | true =>
      cases e2 : Zs.fit k.r 36 with
      | false =>
        have Hf := Lib.hid (show Co.ok k = false by unfold Co.ok; rw [e0, e1, e2]; rfl)
        have E0 := Lib.hid e0
        have E1 := Lib.hid e1
        have E2 := Lib.hid e2
        clear e0 e1 e2
        go_enter Try.func92, Try.ntmps92
        go_wp2_with fail
        refine (tableOk_any _ _ _ k.d 6 _ H1.out.1 h0 (by decide)).mono ?_
        rintro e w1 ⟨rfl, rfl⟩
        rw [E0.out]
        go_wp2_with fail
        refine (tableOk_any _ _ _ k.i 6 _ H1.out.2.1 h1 (by decide)).mono ?_
        rintro e w1 ⟨rfl, rfl⟩
        rw [E1.out]
        go_wp2_with fail
        refine (tableOk_any _ _ _ k.r 36 _ H1.out.2.2 h2 (by decide)).mono ?_
        rintro e w1 ⟨rfl, rfl⟩
        rw [E2.out]
        go_wp2
        go_ret
        exact ⟨Kit.ret_bool Hf.out.symm, HB.out⟩
      | true =>
        have Hf := Lib.hid (show Co.ok k = Co.diag k by unfold Co.ok; rw [e0, e1, e2]; rfl)
        have hr := (Zs.fit_iff.1 e2).1
        have hn2 : n2 = 36 := by rw [← hr]; exact HL.out.2.2.symm
        have E0 := Lib.hid e0
        have E1 := Lib.hid e1
        have E2 := Lib.hid e2
        clear e0 e1 e2 hr
        subst hn2
        obtain ⟨ad, rfl, _⟩ := H1.out.2.2.2.1 (by omega)
        go_enter Try.func92, Try.ntmps92
        go_wp2_with fail
        refine (tableOk_any _ _ _ k.d 6 _ H1.out.1 h0 (by decide)).mono ?_
        rintro e w1 ⟨rfl, rfl⟩
        rw [E0.out]
        go_wp2_with fail
        refine (tableOk_any _ _ _ k.i 6 _ H1.out.2.1 h1 (by decide)).mono ?_
        rintro e w1 ⟨rfl, rfl⟩
        rw [E1.out]
        go_wp2_with fail
        refine (tableOk_any _ _ _ k.r 36 _ H1.out.2.2 h2 (by decide)).mono ?_
        rintro e w1 ⟨rfl, rfl⟩
        rw [E2.out]
        have HX := Lib.hid (Box3.made w (.slice A0 n0 c0) (.slice A1 n1 c1) (.slice (some ad) 36 c2) 27)
        obtain ⟨wz, hwz⟩ : ∃ wz, wz = w.alloc (.cells #[.slice A0 n0 c0, .slice A1 n1 c1, .slice (some ad) 36 c2] 27) := ⟨_, rfl⟩
        rw [← hwz] at HX HB H1
        go_wp2
        rw [← hwz]
        clear hwz
        go_loopw [20] (fun iv wr => ∃ a : Nat, a ≤ 6 ∧ iv = .int .i64 a ∧ Co.diagTo k a ∧ Drawn wz wr) (fun i _ => 6 - (intOf i).toNat)
        case atStart => exact ⟨0, Nat.zero_le _, rfl, fun j hj => absurd hj (Nat.not_lt_zero j), Drawn.refl _⟩
        case round =>
          obtain ⟨a, ha, rfl, hin, hD⟩ := hrel
          have HI := Lib.hid hin
          have HD := Lib.hid hD
          clear hin hD
          by_cases hlt : a < 6
          · have c1 := (H1.out.drawn HD.out).2.2.here (k := a * 6 + a) (by omega)
            obtain ⟨z, hz⟩ : ∃ z, z = Zs.at k.r (a * 6 + a) := ⟨_, rfl⟩
            rw [← hz] at c1
            have HZ := Lib.hid hz
            clear hz
            obtain ⟨p, hp⟩ : ∃ p, p = a * 6 + a := ⟨_, rfl⟩
            rw [← hp] at c1
            have k0 : decide ((a : Int) < 6) = true := by simp; omega
            have x0 := (HX.out.drawn HD.out).2.2
            have HA3 := Lib.hid (show (a : Int) * 6 + (a : Int) = (p : Int) by omega)
            have k1 : (0 : Int) ≤ (p : Int) := by omega
            have k2 : (p : Int) < 36 := by omega
            have HP := Lib.hid hp
            clear hp
            by_cases hq : z = 0
            · have q : (z != 0) = false := by simpa using hq
              have Hq := Lib.hid hq
              clear hq
              go_wp2_with fail
              go_quiet (first | (go_at_call 116; exact quiet_same ((relIndex_any _ _ _ (by omega) (by omega) (by omega) (by omega)).mono fun e w' ⟨h1, h2⟩ => ⟨by rw [h1, HA3.out], h2⟩)))
              go_wp2
              go_roundw
              case rel =>
                refine ⟨a + 1, by omega, by go_num, fun j hj => ?_, HD.out.drewN _⟩
                rcases Nat.lt_succ_iff_lt_or_eq.1 hj with h' | rfl
                · exact HI.out j h'
                · rw [← HZ.out]; exact Hq.out
              case measure => simp [intOf]; omega
            · have q : (z != 0) = true := by simpa using hq
              have Hd := Lib.hid (Co.diag_not (k := k) hlt (by rw [← HZ.out]; exact hq))
              clear hq
              go_wp2_with fail
              go_quiet (first | (go_at_call 116; exact quiet_same ((relIndex_any _ _ _ (by omega) (by omega) (by omega) (by omega)).mono fun e w' ⟨h1, h2⟩ => ⟨by rw [h1, HA3.out], h2⟩)))
              go_wp2
              go_ret
              exact ⟨Kit.ret_bool (by rw [Hf.out, Hd.out]), HB.out.trans ((HD.out.drewN _).toBelow)⟩
          · obtain rfl : a = 6 := by omega
            have Hd := Lib.hid (Co.diag_all HI.out)
            go_wp2
            go_ret
            exact ⟨Kit.ret_bool (by rw [Hf.out, Hd.out]), HB.out.trans HD.out.toBelow⟩

end Go.Proofs.Ytlndaflhlkbedaa

/- Contracts (SidO). -/
namespace Go.Proofs.Ytlndaflhlkbedaa
open Go.RowKit
set_option linter.unusedVariables false

/-- trees and costs are valid -/
def DOk (xs ys : Tr) (k : Co) : Bool := Tr.ok xs && Tr.ok ys && Co.ok k
theorem DOk.parts {xs ys : Tr} {k : Co} (h : DOk xs ys k = true) : Tr.ok xs = true ∧ Tr.ok ys = true ∧ Co.ok k = true := by
  simp only [DOk, Bool.and_eq_true] at h
  exact ⟨h.1.1, h.1.2, h.2⟩
/-- what sidesOf returns of valid trees and costs -/
def SidesAt (xs ys : Tr) (K0 K1 K2 : Option Addr) (n0 n1 n2 c0 c1 c2 : Nat) (w : World) (e : Ending) (w' : World) : Prop :=
  ∃ ga0 ga1 ga2 gb0 gb1 gb2 ca0 ca1 ca2 cb0 cb1 cb2 : Nat, e = .returned (.tuple #[.agg #[.slice (some ⟨ga0, 0, none⟩) xs.length ca0, .slice (some ⟨ga1, 0, none⟩) xs.length ca1, .slice (some ⟨ga2, 0, none⟩) (Tr.krs xs).length ca2, .slice (some ⟨gb0, 0, none⟩) ys.length cb0, .slice (some ⟨gb1, 0, none⟩) ys.length cb1, .slice (some ⟨gb2, 0, none⟩) (Tr.krs ys).length cb2, .slice K0 n0 c0, .slice K1 n1 c1, .slice K2 n2 c2], .bool true]) ∧
    w'.ownsRow w.heap.size 3 1 (.slice (some ⟨ga0, 0, none⟩) xs.length ca0) xs.length (ints (Tr.lab xs)) ∧ w'.ownsRow w.heap.size 3 1 (.slice (some ⟨ga1, 0, none⟩) xs.length ca1) xs.length (ints (Zs.up (Tr.lfs xs))) ∧ w'.ownsRow w.heap.size 3 1 (.slice (some ⟨ga2, 0, none⟩) (Tr.krs xs).length ca2) (Tr.krs xs).length (ints (Zs.up (Tr.krs xs))) ∧
    w'.ownsRow w.heap.size 3 1 (.slice (some ⟨gb0, 0, none⟩) ys.length cb0) ys.length (ints (Tr.lab ys)) ∧ w'.ownsRow w.heap.size 3 1 (.slice (some ⟨gb1, 0, none⟩) ys.length cb1) ys.length (ints (Zs.up (Tr.lfs ys))) ∧ w'.ownsRow w.heap.size 3 1 (.slice (some ⟨gb2, 0, none⟩) (Tr.krs ys).length cb2) (Tr.krs ys).length (ints (Zs.up (Tr.krs ys))) ∧ Below w.heap.size w w'

/-- the result's variable of nine cells, the costs' box and the arguments, while sidesOf goes on -/
structure SoG (A A' : Option Addr) (n n' : Nat) (xs ys : Tr) (K0 K1 K2 : Option Addr) (n0 n1 n2 c0 c1 c2 : Nat) (k : Co) (w wq : World) : Prop where
  a : NdIn wq w.heap.size A n xs
  b : NdIn wq w.heap.size A' n' ys
  k : CoIn wq w.heap.size K0 K1 K2 n0 n1 n2 k
  bl : Below w.heap.size w wq
  q : Box3 wq w.heap.size (.slice K0 n0 c0) (.slice K1 n1 c1) (.slice K2 n2 c2)
  cs : ∀ o, o < 9 → ∃ z, wq.cell? ⟨w.heap.size + 1, o, none⟩ = some z
  fz : ∀ o, wq.frozen? ⟨w.heap.size + 1, o, none⟩ = false
  lt : w.heap.size + 1 < wq.heap.size
section
variable {A A' : Option Addr} {n n' : Nat} {xs ys : Tr} {K0 K1 K2 : Option Addr} {n0 n1 n2 c0 c1 c2 : Nat} {k : Co} {w wx wq : World}
theorem SoG.keep (h : SoG A A' n n' xs ys K0 K1 K2 n0 n1 n2 c0 c1 c2 k w wx) (hb : Below wx.heap.size wx wq) : SoG A A' n n' xs ys K0 K1 K2 n0 n1 n2 c0 c1 c2 k w wq := by
  have hs := h.bl.size
  have hl := h.lt
  have hb' := hb.mono (B' := w.heap.size) (by omega)
  exact ⟨h.a.below hb', h.b.below hb', h.k.below hb', h.bl.trans hb', h.q.below hb (by omega), fun o ho => by obtain ⟨z, hz⟩ := h.cs o ho; exact ⟨z, (hb.cell (p := ⟨w.heap.size + 1, o, none⟩) hl).trans hz⟩, free_below hb hl h.fz, Nat.lt_of_lt_of_le hl hb.size⟩
theorem SoG.set (h : SoG A A' n n' xs ys K0 K1 K2 n0 n1 n2 c0 c1 c2 k w wx) (o : Nat) (v : Value) : SoG A A' n n' xs ys K0 K1 K2 n0 n1 n2 c0 c1 c2 k w (wx.setCell ⟨w.heap.size + 1, o, none⟩ v) := by
  have hb : Below w.heap.size wx (wx.setCell ⟨w.heap.size + 1, o, none⟩ v) := (Below.refl _ _).setCell (by show w.heap.size ≤ w.heap.size + 1; omega) _
  have hq : ∀ i, (wx.setCell ⟨w.heap.size + 1, o, none⟩ v).cell? ⟨w.heap.size, i, none⟩ = wx.cell? ⟨w.heap.size, i, none⟩ := fun i => World.cell?_setCell_other _ _ _ _ (fun e => by injection e with e1 _; omega)
  refine ⟨h.a.below hb, h.b.below hb, h.k.below hb, h.bl.setCell (by show w.heap.size ≤ w.heap.size + 1; omega) _, ⟨(hq 0).trans h.q.1, (hq 1).trans h.q.2.1, (hq 2).trans h.q.2.2⟩, fun i hi => ?_, fun i => by rw [World.frozen?_setCell]; exact h.fz i, by simp; exact h.lt⟩
  obtain ⟨z, hz⟩ := h.cs i hi
  by_cases e : i = o
  · rw [e] at hz ⊢
    exact ⟨v, World.cell?_setCell_same' _ _ _ (by rw [hz]; rfl)⟩
  · exact ⟨z, by rw [World.cell?_setCell_other _ _ _ _ (fun e' => e (by injection e' with _ e2; exact e2.symm)), hz]⟩
theorem SoG.set9 (h : SoG A A' n n' xs ys K0 K1 K2 n0 n1 n2 c0 c1 c2 k w wx) (v0 v1 v2 v3 v4 v5 v6 v7 v8 : Value) : SoG A A' n n' xs ys K0 K1 K2 n0 n1 n2 c0 c1 c2 k w (((((((((wx.setCell ⟨w.heap.size + 1, 0, none⟩ v0).setCell ⟨w.heap.size + 1, 1, none⟩ v1).setCell ⟨w.heap.size + 1, 2, none⟩ v2).setCell ⟨w.heap.size + 1, 3, none⟩ v3).setCell ⟨w.heap.size + 1, 4, none⟩ v4).setCell ⟨w.heap.size + 1, 5, none⟩ v5).setCell ⟨w.heap.size + 1, 6, none⟩ v6).setCell ⟨w.heap.size + 1, 7, none⟩ v7).setCell ⟨w.heap.size + 1, 8, none⟩ v8) := ((((((((h.set 0 v0).set 1 v1).set 2 v2).set 3 v3).set 4 v4).set 5 v5).set 6 v6).set 7 v7).set 8 v8
theorem row_set {base e g : Nat} {v : Value} {ys : List Value} {m : Nat} (h : wx.ownsRow base e 1 v m ys) (hg : g < base) (o : Nat) (u : Value) : (wx.setCell ⟨g, o, none⟩ u).ownsRow base e 1 v m ys :=
  own_grown h (Kit.grown_set _ _ _ _) (fun b hb => by injection hb with hb; omega)
theorem row_set9 {base e g B : Nat} {v : Value} {ys : List Value} {m : Nat} (h : wx.ownsRow base e 1 v m ys) (hg : g < base) (hB : B ≤ base) (v0 v1 v2 v3 v4 v5 v6 v7 v8 : Value) : (((((((((wx.setCell ⟨g, 0, none⟩ v0).setCell ⟨g, 1, none⟩ v1).setCell ⟨g, 2, none⟩ v2).setCell ⟨g, 3, none⟩ v3).setCell ⟨g, 4, none⟩ v4).setCell ⟨g, 5, none⟩ v5).setCell ⟨g, 6, none⟩ v6).setCell ⟨g, 7, none⟩ v7).setCell ⟨g, 8, none⟩ v8).ownsRow B e 1 v m ys :=
  own_base (row_set (row_set (row_set (row_set (row_set (row_set (row_set (row_set (row_set h hg 0 v0) hg 1 v1) hg 2 v2) hg 3 v3) hg 4 v4) hg 5 v5) hg 6 v6) hg 7 v7) hg 8 v8) hB
theorem SoG.made (ha : NdIn w w.heap.size A n xs) (hb : NdIn w w.heap.size A' n' ys) (hk : CoIn w w.heap.size K0 K1 K2 n0 n1 n2 k) : SoG A A' n n' xs ys K0 K1 K2 n0 n1 n2 c0 c1 c2 k w ((w.alloc (.cells #[.slice K0 n0 c0, .slice K1 n1 c1, .slice K2 n2 c2] 27)).alloc (.cells #[.slice none 0 0, .slice none 0 0, .slice none 0 0, .slice none 0 0, .slice none 0 0, .slice none 0 0, .slice none 0 0, .slice none 0 0, .slice none 0 0] 86)) := by
  obtain ⟨wc, hwc⟩ : ∃ wc, wc = w.alloc (.cells #[.slice K0 n0 c0, .slice K1 n1 c1, .slice K2 n2 c2] 27) := ⟨_, rfl⟩
  have hbc : Below w.heap.size w wc := by rw [hwc]; exact (Below.refl _ _).alloc (Nat.le_refl _) _
  have hzc : wc.heap.size = w.heap.size + 1 := by rw [hwc]; simp
  have q : Box3 wc w.heap.size (.slice K0 n0 c0) (.slice K1 n1 c1) (.slice K2 n2 c2) := by rw [hwc]; exact Box3.made _ _ _ _ _
  rw [← hwc]
  have h2 : Below w.heap.size w (wc.alloc (.cells #[.slice none 0 0, .slice none 0 0, .slice none 0 0, .slice none 0 0, .slice none 0 0, .slice none 0 0, .slice none 0 0, .slice none 0 0, .slice none 0 0] 86)) := hbc.alloc (by omega) _
  refine ⟨ha.below h2, hb.below h2, hk.below h2, h2, q.alloc (by omega) _, fun o ho => ⟨.slice none 0 0, ?_⟩, fun o => by rw [← hzc]; simp, by simp; omega⟩
  rw [← hzc]
  refine cell_made _ _ _ _ _ ?_
  rcases o with _ | _ | _ | _ | _ | _ | _ | _ | _ | o <;> first | rfl | omega
end
set_option maxHeartbeats 3200000 in
set_option maxRecDepth 100000 in
theorem sidesOf_no (A A' : Option Addr) (n n' c c' : Nat) (xs ys : Tr) (K0 K1 K2 : Option Addr) (n0 n1 n2 c0 c1 c2 : Nat) (k : Co) (w : World) (ha : NdIn w w.heap.size A n xs) (hb : NdIn w w.heap.size A' n' ys) (hk : CoIn w w.heap.size K0 K1 K2 n0 n1 n2 k)
    (hn : n ≤ 1048576) (hn' : n' ≤ 1048576) (h0 : n0 ≤ 1048576) (h1 : n1 ≤ 1048576) (h2 : n2 ≤ 1048576) (hc : n ≤ c) (hc' : n' ≤ c') (hno : DOk xs ys k = false) :
    Calls Try.prog 117 #[.slice A n c, .slice A' n' c', .agg #[.slice K0 n0 c0, .slice K1 n1 c1, .slice K2 n2 c2]] w fun e w' => e = .returned (.tuple #[.agg #[.slice none 0 0, .slice none 0 0, .slice none 0 0, .slice none 0 0, .slice none 0 0, .slice none 0 0, .slice none 0 0, .slice none 0 0, .slice none 0 0], .bool false]) ∧ Below w.heap.size w w' := by
  have H0 := Lib.hid h0
  have H1 := Lib.hid h1
  have H2 := Lib.hid h2
  have hn1 := Lib.hid hn
  have hn2 := Lib.hid hn'
  have SG := Lib.hid (SoG.made (c0 := c0) (c1 := c1) (c2 := c2) ha hb hk)
  obtain ⟨wz, hwz⟩ : ∃ wz, wz = (w.alloc (.cells #[.slice K0 n0 c0, .slice K1 n1 c1, .slice K2 n2 c2] 27)).alloc (.cells #[.slice none 0 0, .slice none 0 0, .slice none 0 0, .slice none 0 0, .slice none 0 0, .slice none 0 0, .slice none 0 0, .slice none 0 0, .slice none 0 0] 86) := ⟨_, rfl⟩
  rw [← hwz] at SG
  clear ha hb hk
  unfold DOk at hno
  cases hx : Tr.ok xs with
  | false =>
    have HX := Lib.hid hx
    clear hx hno
    go_enter Try.func117, Try.ntmps117
    go_wp2_with fail
    rw [← hwz]
    refine (implTreeOk_any _ _ _ xs _ (SG.out.a.more SG.out.bl.size) hn1.out hc).mono ?_
    rintro e w1 ⟨rfl, b1⟩
    have SG := Lib.hid (SG.out.keep b1)
    clear b1
    rw [HX.out]
    obtain ⟨_, t0⟩ := SG.out.cs 0 (by omega)
    have u0 := SG.out.fz 0
    obtain ⟨_, t1⟩ := SG.out.cs 1 (by omega)
    have u1 := SG.out.fz 1
    obtain ⟨_, t2⟩ := SG.out.cs 2 (by omega)
    have u2 := SG.out.fz 2
    obtain ⟨_, t3⟩ := SG.out.cs 3 (by omega)
    have u3 := SG.out.fz 3
    obtain ⟨_, t4⟩ := SG.out.cs 4 (by omega)
    have u4 := SG.out.fz 4
    obtain ⟨_, t5⟩ := SG.out.cs 5 (by omega)
    have u5 := SG.out.fz 5
    obtain ⟨_, t6⟩ := SG.out.cs 6 (by omega)
    have u6 := SG.out.fz 6
    obtain ⟨_, t7⟩ := SG.out.cs 7 (by omega)
    have u7 := SG.out.fz 7
    obtain ⟨_, t8⟩ := SG.out.cs 8 (by omega)
    have u8 := SG.out.fz 8
    go_wp2
    refine bodyPost_ret (v := .tuple #[.agg #[.slice none 0 0, .slice none 0 0, .slice none 0 0, .slice none 0 0, .slice none 0 0, .slice none 0 0, .slice none 0 0, .slice none 0 0, .slice none 0 0], .bool false]) ?_ rfl ?_
    · rw [results_cell_tmp rfl]
      go_simp
    · exact ⟨rfl, (SG.out.set9 _ _ _ _ _ _ _ _ _).bl⟩
  | true =>
    cases hy : Tr.ok ys with
    | false =>
      have HX := Lib.hid hx
      have HY := Lib.hid hy
      clear hx hy hno
      go_enter Try.func117, Try.ntmps117
      go_wp2_with fail
      rw [← hwz]
      refine (implTreeOk_any _ _ _ xs _ (SG.out.a.more SG.out.bl.size) hn1.out hc).mono ?_
      rintro e w1 ⟨rfl, b1⟩
      have SG := Lib.hid (SG.out.keep b1)
      clear b1
      rw [HX.out]
      go_wp2_with fail
      refine (implTreeOk_any _ _ _ ys _ (SG.out.b.more SG.out.bl.size) hn2.out hc').mono ?_
      rintro e w2 ⟨rfl, b2⟩
      have SG := Lib.hid (SG.out.keep b2)
      clear b2
      rw [HY.out]
      obtain ⟨_, t0⟩ := SG.out.cs 0 (by omega)
      have u0 := SG.out.fz 0
      obtain ⟨_, t1⟩ := SG.out.cs 1 (by omega)
      have u1 := SG.out.fz 1
      obtain ⟨_, t2⟩ := SG.out.cs 2 (by omega)
      have u2 := SG.out.fz 2
      obtain ⟨_, t3⟩ := SG.out.cs 3 (by omega)
      have u3 := SG.out.fz 3
      obtain ⟨_, t4⟩ := SG.out.cs 4 (by omega)
      have u4 := SG.out.fz 4
      obtain ⟨_, t5⟩ := SG.out.cs 5 (by omega)
      have u5 := SG.out.fz 5
      obtain ⟨_, t6⟩ := SG.out.cs 6 (by omega)
      have u6 := SG.out.fz 6
      obtain ⟨_, t7⟩ := SG.out.cs 7 (by omega)
      have u7 := SG.out.fz 7
      obtain ⟨_, t8⟩ := SG.out.cs 8 (by omega)
      have u8 := SG.out.fz 8
      go_wp2
      refine bodyPost_ret (v := .tuple #[.agg #[.slice none 0 0, .slice none 0 0, .slice none 0 0, .slice none 0 0, .slice none 0 0, .slice none 0 0, .slice none 0 0, .slice none 0 0, .slice none 0 0], .bool false]) ?_ rfl ?_
      · rw [results_cell_tmp rfl]
        go_simp
      · exact ⟨rfl, (SG.out.set9 _ _ _ _ _ _ _ _ _).bl⟩
    | true =>
      rw [hx, hy] at hno
      have HX := Lib.hid hx
      have HY := Lib.hid hy
      have HO := Lib.hid (show Co.ok k = false by simpa using hno)
      clear hx hy hno
      go_enter Try.func117, Try.ntmps117
      go_wp2_with fail
      rw [← hwz]
      refine (implTreeOk_any _ _ _ xs _ (SG.out.a.more SG.out.bl.size) hn1.out hc).mono ?_
      rintro e w1 ⟨rfl, b1⟩
      have SG := Lib.hid (SG.out.keep b1)
      clear b1
      rw [HX.out]
      go_wp2_with fail
      refine (implTreeOk_any _ _ _ ys _ (SG.out.b.more SG.out.bl.size) hn2.out hc').mono ?_
      rintro e w2 ⟨rfl, b2⟩
      have SG := Lib.hid (SG.out.keep b2)
      clear b2
      rw [HY.out]
      obtain ⟨q0, q1, q2⟩ := SG.out.q
      go_wp2_with fail
      clear q0 q1 q2
      refine (implCostOk_any _ _ _ _ _ _ _ _ _ k _ (SG.out.k.more SG.out.bl.size) H0.out H1.out H2.out).mono ?_
      rintro e w3 ⟨rfl, b3⟩
      have SG := Lib.hid (SG.out.keep b3)
      clear b3
      rw [HO.out]
      obtain ⟨_, t0⟩ := SG.out.cs 0 (by omega)
      have u0 := SG.out.fz 0
      obtain ⟨_, t1⟩ := SG.out.cs 1 (by omega)
      have u1 := SG.out.fz 1
      obtain ⟨_, t2⟩ := SG.out.cs 2 (by omega)
      have u2 := SG.out.fz 2
      obtain ⟨_, t3⟩ := SG.out.cs 3 (by omega)
      have u3 := SG.out.fz 3
      obtain ⟨_, t4⟩ := SG.out.cs 4 (by omega)
      have u4 := SG.out.fz 4
      obtain ⟨_, t5⟩ := SG.out.cs 5 (by omega)
      have u5 := SG.out.fz 5
      obtain ⟨_, t6⟩ := SG.out.cs 6 (by omega)
      have u6 := SG.out.fz 6
      obtain ⟨_, t7⟩ := SG.out.cs 7 (by omega)
      have u7 := SG.out.fz 7
      obtain ⟨_, t8⟩ := SG.out.cs 8 (by omega)
      have u8 := SG.out.fz 8
      go_wp2
      refine bodyPost_ret (v := .tuple #[.agg #[.slice none 0 0, .slice none 0 0, .slice none 0 0, .slice none 0 0, .slice none 0 0, .slice none 0 0, .slice none 0 0, .slice none 0 0, .slice none 0 0], .bool false]) ?_ rfl ?_
      · rw [results_cell_tmp rfl]
        go_simp
      · exact ⟨rfl, (SG.out.set9 _ _ _ _ _ _ _ _ _).bl⟩
theorem so_in {A A' : Option Addr} {n n' : Nat} {xs ys : Tr} {K0 K1 K2 : Option Addr} {n0 n1 n2 c0 c1 c2 : Nat} {k : Co} {w wx : World} (h : wx.cell? ⟨w.heap.size, 0, none⟩ = some (.slice K0 n0 c0) ∧ wx.cell? ⟨w.heap.size, 1, none⟩ = some (.slice K1 n1 c1) ∧ wx.cell? ⟨w.heap.size, 2, none⟩ = some (.slice K2 n2 c2) ∧ SoG A A' n n' xs ys K0 K1 K2 n0 n1 n2 c0 c1 c2 k w wx) : SoG A A' n n' xs ys K0 K1 K2 n0 n1 n2 c0 c1 c2 k w wx := h.2.2.2
theorem so_a {A A' : Option Addr} {n n' : Nat} {xs ys : Tr} {K0 K1 K2 : Option Addr} {n0 n1 n2 c0 c1 c2 : Nat} {k : Co} {w wx : World} (h : wx.cell? ⟨w.heap.size, 0, none⟩ = some (.slice K0 n0 c0) ∧ wx.cell? ⟨w.heap.size, 1, none⟩ = some (.slice K1 n1 c1) ∧ wx.cell? ⟨w.heap.size, 2, none⟩ = some (.slice K2 n2 c2) ∧ SoG A A' n n' xs ys K0 K1 K2 n0 n1 n2 c0 c1 c2 k w wx) : NdIn wx wx.heap.size A n xs := h.2.2.2.a.more h.2.2.2.bl.size
theorem so_b {A A' : Option Addr} {n n' : Nat} {xs ys : Tr} {K0 K1 K2 : Option Addr} {n0 n1 n2 c0 c1 c2 : Nat} {k : Co} {w wx : World} (h : wx.cell? ⟨w.heap.size, 0, none⟩ = some (.slice K0 n0 c0) ∧ wx.cell? ⟨w.heap.size, 1, none⟩ = some (.slice K1 n1 c1) ∧ wx.cell? ⟨w.heap.size, 2, none⟩ = some (.slice K2 n2 c2) ∧ SoG A A' n n' xs ys K0 K1 K2 n0 n1 n2 c0 c1 c2 k w wx) : NdIn wx wx.heap.size A' n' ys := h.2.2.2.b.more h.2.2.2.bl.size
theorem so_out {A A' : Option Addr} {n n' : Nat} {xs ys : Tr} {K0 K1 K2 : Option Addr} {n0 n1 n2 c0 c1 c2 : Nat} {k : Co} {w wx : World} (h : SoG A A' n n' xs ys K0 K1 K2 n0 n1 n2 c0 c1 c2 k w wx) : wx.cell? ⟨w.heap.size, 0, none⟩ = some (.slice K0 n0 c0) ∧ wx.cell? ⟨w.heap.size, 1, none⟩ = some (.slice K1 n1 c1) ∧ wx.cell? ⟨w.heap.size, 2, none⟩ = some (.slice K2 n2 c2) ∧ SoG A A' n n' xs ys K0 K1 K2 n0 n1 n2 c0 c1 c2 k w wx := ⟨h.q.1, h.q.2.1, h.q.2.2, h⟩
set_option maxHeartbeats 3200000 in
set_option maxRecDepth 100000 in
theorem sidesOf_yes (A A' : Option Addr) (n n' c c' : Nat) (xs ys : Tr) (K0 K1 K2 : Option Addr) (n0 n1 n2 c0 c1 c2 : Nat) (k : Co) (w : World) (ha : NdIn w w.heap.size A n xs) (hb : NdIn w w.heap.size A' n' ys) (hk : CoIn w w.heap.size K0 K1 K2 n0 n1 n2 k)
    (hc : n ≤ c) (hc' : n' ≤ c') (hx : Tr.ok xs = true) (hy : Tr.ok ys = true) (ho : Co.ok k = true) :
    Calls Try.prog 117 #[.slice A n c, .slice A' n' c', .agg #[.slice K0 n0 c0, .slice K1 n1 c1, .slice K2 n2 c2]] w (SidesAt xs ys K0 K1 K2 n0 n1 n2 c0 c1 c2 w) := by
  have hln := ha.1
  have hln' := hb.1
  have hkl := hk.len
  have l1 := (Zs.fit_iff.1 (Co.fit3 ho).1).1
  have l2 := (Zs.fit_iff.1 (Co.fit3 ho).2.1).1
  have l3 := (Zs.fit_iff.1 (Co.fit3 ho).2.2).1
  have H0 := Lib.hid (show n0 ≤ 1048576 by omega)
  have H1 := Lib.hid (show n1 ≤ 1048576 by omega)
  have H2 := Lib.hid (show n2 ≤ 1048576 by omega)
  obtain ⟨x1, x24⟩ := Tr.len24 hx
  obtain ⟨y1, y24⟩ := Tr.len24 hy
  subst hln
  subst hln'
  have hn : xs.length ≤ 1048576 := by omega
  have hn' : ys.length ≤ 1048576 := by omega
  clear hkl l1 l2 l3
  have hn1 := Lib.hid hn
  have hn2 := Lib.hid hn'
  have SG := Lib.hid (SoG.made (c0 := c0) (c1 := c1) (c2 := c2) ha hb hk)
  obtain ⟨wz, hwz⟩ : ∃ wz, wz = (w.alloc (.cells #[.slice K0 n0 c0, .slice K1 n1 c1, .slice K2 n2 c2] 27)).alloc (.cells #[.slice none 0 0, .slice none 0 0, .slice none 0 0, .slice none 0 0, .slice none 0 0, .slice none 0 0, .slice none 0 0, .slice none 0 0, .slice none 0 0] 86) := ⟨_, rfl⟩
  rw [← hwz] at SG
  clear ha hb hk
  have HX := Lib.hid hx
  have HY := Lib.hid hy
  have HO := Lib.hid ho
  have lk := fun (zs : Tr) (h : Tr.ok zs = true) => show 0 < (Tr.krs zs).length by obtain ⟨r, hr⟩ := Tr.krs_last h; rw [hr]; simp
  have LKX := Lib.hid (lk xs HX.out)
  have LKY := Lib.hid (lk ys HY.out)
  clear lk hx hy ho
  go_enter Try.func117, Try.ntmps117
  go_wp2_with fail
  rw [← hwz]
  refine (implTreeOk_any _ _ _ xs _ (SG.out.a.more SG.out.bl.size) hn1.out hc).mono ?_
  rintro e w1 ⟨rfl, b1⟩
  have SG := Lib.hid (SG.out.keep b1)
  clear b1
  rw [HX.out]
  go_wp2_with fail
  refine (implTreeOk_any _ _ _ ys _ (SG.out.b.more SG.out.bl.size) hn2.out hc').mono ?_
  rintro e w2 ⟨rfl, b2⟩
  have SG := Lib.hid (SG.out.keep b2)
  clear b2
  rw [HY.out]
  obtain ⟨q0, q1, q2⟩ := SG.out.q
  go_wp2_with fail
  clear q0 q1 q2
  refine (implCostOk_any _ _ _ _ _ _ _ _ _ k _ (SG.out.k.more SG.out.bl.size) H0.out H1.out H2.out).mono ?_
  rintro e w3 ⟨rfl, b3⟩
  have SG := Lib.hid (SG.out.keep b3)
  clear b3
  rw [HO.out]
  have S0 := Lib.hid (so_out (SG.out.keep (Drawn.refl _).drew.toBelow))
  have ZW := Lib.hid (Nat.lt_of_succ_lt SG.out.lt)
  have X1 := Lib.hid x1
  have Y1 := Lib.hid y1
  clear x1 x24 y1 y24 hn hn' hwz
  go_wp2_with fail
  go_region_held3 (fun wq => wq.cell? ⟨w.heap.size, 0, none⟩ = some (.slice K0 n0 c0) ∧ wq.cell? ⟨w.heap.size, 1, none⟩ = some (.slice K1 n1 c1) ∧ wq.cell? ⟨w.heap.size, 2, none⟩ = some (.slice K2 n2 c2) ∧ SoG A A' xs.length ys.length xs ys K0 K1 K2 n0 n1 n2 c0 c1 c2 k w wq) (first | (with_reducible exact so_out (SoG.set9 SX.out _ _ _ _ _ _ _ _ _)) | (with_reducible exact S0.out) | (with_reducible refine so_out ((so_in ?_).keep hb); with_reducible assumption)) (first | (go_at_call 141; (fail_if_success (have := m1)); refine (sideOf_any A xs.length c xs _ (so_a (by assumption)) hc HX.out).mono ?_; rintro e w5 ⟨_, _, _, ca0, ca1, ca2, rfl, ra0, ra1, ra2, hb⟩; obtain ⟨ga0, rfl, fa0, fa0'⟩ := own_form ra0 X1.out; obtain ⟨ga1, rfl, fa1, fa1'⟩ := own_form ra1 X1.out; obtain ⟨ga2, rfl, fa2, fa2'⟩ := own_form ra2 LKX.out; have RA := Lib.hid (And.intro ra0 (And.intro ra1 (And.intro ra2 (And.intro fa0 (And.intro fa1 fa2))))); clear ra0 ra1 ra2 fa0 fa1 fa2 fa0' fa1' fa2'; have hba := Lib.hid hb; have m1 := True.intro) | (go_at_call 141; refine (sideOf_any A' ys.length c' ys _ (so_b (by assumption)) hc' HY.out).mono ?_; rintro e w6 ⟨_, _, _, cb0, cb1, cb2, rfl, rb0, rb1, rb2, hb⟩; obtain ⟨gb0, rfl, fb0, fb0'⟩ := own_form rb0 Y1.out; obtain ⟨gb1, rfl, fb1, fb1'⟩ := own_form rb1 Y1.out; obtain ⟨gb2, rfl, fb2, fb2'⟩ := own_form rb2 LKY.out; have RB := Lib.hid (And.intro rb0 (And.intro rb1 (And.intro rb2 (And.intro fb0 (And.intro fb1 fb2))))); clear rb0 rb1 rb2 fb0 fb1 fb2 fb0' fb1' fb2'; have hbb := Lib.hid hb; have SX := (so_in (by assumption)).keep hb; obtain ⟨_, t0⟩ := SX.cs 0 (by omega); have u0 := SX.fz 0; obtain ⟨_, t1⟩ := SX.cs 1 (by omega); have u1 := SX.fz 1; obtain ⟨_, t2⟩ := SX.cs 2 (by omega); have u2 := SX.fz 2; obtain ⟨_, t3⟩ := SX.cs 3 (by omega); have u3 := SX.fz 3; obtain ⟨_, t4⟩ := SX.cs 4 (by omega); have u4 := SX.fz 4; obtain ⟨_, t5⟩ := SX.cs 5 (by omega); have u5 := SX.fz 5; obtain ⟨_, t6⟩ := SX.cs 6 (by omega); have u6 := SX.fz 6; obtain ⟨_, t7⟩ := SX.cs 7 (by omega); have u7 := SX.fz 7; obtain ⟨_, t8⟩ := SX.cs 8 (by omega); have u8 := SX.fz 8; have SX := Lib.hid SX))
  obtain ⟨ra0, ra1, ra2, fa0, fa1, fa2⟩ := RA.out
  obtain ⟨rb0, rb1, rb2, fb0, fb1, fb2⟩ := RB.out
  have hba := hba.out
  have hbb := hbb.out
  have sa := hba.size
  have sb := hbb.size
  have s3 := SG.out.lt
  have zd : w3.drew.heap.size = w3.heap.size := rfl
  go_wp2
  refine bodyPost_ret (v := .tuple #[.agg #[.slice (some ⟨ga0, 0, none⟩) xs.length ca0, .slice (some ⟨ga1, 0, none⟩) xs.length ca1, .slice (some ⟨ga2, 0, none⟩) (Tr.krs xs).length ca2, .slice (some ⟨gb0, 0, none⟩) ys.length cb0, .slice (some ⟨gb1, 0, none⟩) ys.length cb1, .slice (some ⟨gb2, 0, none⟩) (Tr.krs ys).length cb2, .slice K0 n0 c0, .slice K1 n1 c1, .slice K2 n2 c2], .bool true]) ?_ rfl ?_
  · rw [results_cell_tmp rfl]
    go_simp
  · exact ⟨ga0, ga1, ga2, gb0, gb1, gb2, ca0, ca1, ca2, cb0, cb1, cb2, rfl, row_set9 (own_below ra0 hbb) (by omega) (by omega) _ _ _ _ _ _ _ _ _, row_set9 (own_below ra1 hbb) (by omega) (by omega) _ _ _ _ _ _ _ _ _, row_set9 (own_below ra2 hbb) (by omega) (by omega) _ _ _ _ _ _ _ _ _, row_set9 rb0 (by omega) (by omega) _ _ _ _ _ _ _ _ _, row_set9 rb1 (by omega) (by omega) _ _ _ _ _ _ _ _ _, row_set9 rb2 (by omega) (by omega) _ _ _ _ _ _ _ _ _, (SX.out.set9 _ _ _ _ _ _ _ _ _).bl⟩

end Go.Proofs.Ytlndaflhlkbedaa

/- Contracts (DistS). -/
namespace Go.Proofs.Ytlndaflhlkbedaa
open Go.RowKit
set_option linter.unusedVariables false

theorem World.ownsRow_new (w : World) : (w.alloc (.cells #[] 3)).ownsRow w.heap.size 3 1 (.slice (some ⟨w.heap.size, 0, none⟩) 0 0) 0 (ints []) := World.ownsRow_lit (base := w.heap.size) (e := 3) (size := 1) w #[] 0 (Nat.le_refl _) (Nat.zero_le _) rfl
/-- six cells stand; the world has only grown -/
def RdG (w0 wq : World) : Prop := Below w0.heap.size w0 wq
theorem rd_keep {w0 wx wq : World} {p0 p1 p2 p3 p4 p5 : Addr} {u0 u1 u2 u3 u4 u5 : Option Value} (hl : p0.block < w0.heap.size ∧ p1.block < w0.heap.size ∧ p2.block < w0.heap.size ∧ p3.block < w0.heap.size ∧ p4.block < w0.heap.size ∧ p5.block < w0.heap.size) (hS : wx.cell? p0 = u0 ∧ wx.cell? p1 = u1 ∧ wx.cell? p2 = u2 ∧ wx.cell? p3 = u3 ∧ wx.cell? p4 = u4 ∧ wx.cell? p5 = u5 ∧ RdG w0 wx) (hb : Below wx.heap.size wx wq) : wq.cell? p0 = u0 ∧ wq.cell? p1 = u1 ∧ wq.cell? p2 = u2 ∧ wq.cell? p3 = u3 ∧ wq.cell? p4 = u4 ∧ wq.cell? p5 = u5 ∧ RdG w0 wq := by
  obtain ⟨h0, h1, h2, h3, h4, h5, hB⟩ := hS
  obtain ⟨l0, l1, l2, l3, l4, l5⟩ := hl
  have hz := (show Below w0.heap.size w0 wx from hB).size
  exact ⟨by rw [hb.cell (Nat.lt_of_lt_of_le l0 hz), h0], by rw [hb.cell (Nat.lt_of_lt_of_le l1 hz), h1], by rw [hb.cell (Nat.lt_of_lt_of_le l2 hz), h2], by rw [hb.cell (Nat.lt_of_lt_of_le l3 hz), h3], by rw [hb.cell (Nat.lt_of_lt_of_le l4 hz), h4], by rw [hb.cell (Nat.lt_of_lt_of_le l5 hz), h5], Below.trans hB (hb.mono hz)⟩
theorem rd_below {w0 wx : World} {p0 p1 p2 p3 p4 p5 : Addr} {u0 u1 u2 u3 u4 u5 : Option Value} (hS : wx.cell? p0 = u0 ∧ wx.cell? p1 = u1 ∧ wx.cell? p2 = u2 ∧ wx.cell? p3 = u3 ∧ wx.cell? p4 = u4 ∧ wx.cell? p5 = u5 ∧ RdG w0 wx) : Below w0.heap.size w0 wx := hS.2.2.2.2.2.2
section
variable (A A' : Option Addr) (n n' c c' : Nat) (xs ys : Tr) (K0 K1 K2 : Option Addr) (n0 n1 n2 c0 c1 c2 : Nat) (k : Co) (w : World) (ha : NdIn w w.heap.size A n xs) (hb : NdIn w w.heap.size A' n' ys) (hk : CoIn w w.heap.size K0 K1 K2 n0 n1 n2 k)
    (hn : n ≤ 1048576) (hn' : n' ≤ 1048576) (h0 : n0 ≤ 1048576) (h1 : n1 ≤ 1048576) (h2 : n2 ≤ 1048576)
include ha hb hk hn hn' h0 h1 h2
set_option maxHeartbeats 1600000 in
set_option maxRecDepth 100000 in
theorem specTreeDists_any : Calls Try.prog 85 #[.slice A n c, .slice A' n' c', .agg #[.slice K0 n0 c0, .slice K1 n1 c1, .slice K2 n2 c2]] w (OwnInts 3 (Tr.dists xs ys k) w) := by
  obtain ⟨wc, hwc⟩ : ∃ wc, wc = w.alloc (.cells #[.slice K0 n0 c0, .slice K1 n1 c1, .slice K2 n2 c2] 27) := ⟨_, rfl⟩
  have hbc : Below w.heap.size w wc := by rw [hwc]; exact (Below.refl _ _).alloc (Nat.le_refl _) _
  have HQ := Lib.hid (show Box3 wc w.heap.size (.slice K0 n0 c0) (.slice K1 n1 c1) (.slice K2 n2 c2) by rw [hwc]; exact Box3.made _ _ _ _ _)
  have HL := Lib.hid (show w.heap.size < wc.heap.size by rw [hwc]; simp)
  have HWC := Lib.hid hwc
  have HA := Lib.hid (ha.to_below hbc)
  have HB := Lib.hid (hb.to_below hbc)
  have HK := Lib.hid (hk.to_below hbc)
  have HBC := Lib.hid hbc
  cases hd : DOk xs ys k with
  | false =>
    have Hf := Lib.hid (show Tr.dists xs ys k = [] by unfold DOk at hd; unfold Tr.dists; rw [hd]; rfl)
    have HD := Lib.hid (show (Tr.ok xs && Tr.ok ys && Co.ok k) = false from hd)
    clear ha hb hk hd hwc hbc
    go_enter Try.func85, Try.ntmps85
    go_wp2_with fail
    rw [← HWC.out]
    refine (l8Three_any (c := _) (c' := _) (c0 := _) (c1 := _) (c2 := _) (ha := HA.out) (hb := HB.out) (hk := HK.out) (hn := hn) (hn' := hn') (h0 := h0) (h1 := h1) (h2 := h2)).mono ?_
    rintro e w1 ⟨rfl, b1⟩
    have HA := Lib.hid (HA.out.to_below b1)
    have HB := Lib.hid (HB.out.to_below b1)
    have HK := Lib.hid (HK.out.to_below b1)
    have HQ := Lib.hid (HQ.out.below b1 HL.out)
    have HL := Lib.hid (Nat.lt_of_lt_of_le HL.out b1.size)
    have HBC := Lib.hid (HBC.out.trans (b1.mono HBC.out.size))
    clear b1
    rw [HD.out]
    go_wp2
    go_ret
    rw [Hf.out]
    have HBC2 := HBC.out
    exact ⟨some ⟨w1.heap.size, 0, none⟩, 0, rfl, own_base (World.ownsRow_new w1) HBC2.size, HBC2.alloc (by have := HBC2.size; omega) _⟩
  | true =>
    obtain ⟨o1, o2, o3⟩ := DOk.parts hd
    have Hf := Lib.hid (show Tr.dists xs ys k = Tr.tds xs ys k by unfold DOk at hd; unfold Tr.dists; rw [hd]; rfl)
    have HD := Lib.hid (show (Tr.ok xs && Tr.ok ys && Co.ok k) = true from hd)
    have O1 := Lib.hid o1
    have O2 := Lib.hid o2
    have O3 := Lib.hid o3
    clear ha hb hk hd hwc hbc o1 o2 o3
    go_enter Try.func85, Try.ntmps85
    go_wp2_with fail
    rw [← HWC.out]
    refine (l8Three_any (c := _) (c' := _) (c0 := _) (c1 := _) (c2 := _) (ha := HA.out) (hb := HB.out) (hk := HK.out) (hn := hn) (hn' := hn') (h0 := h0) (h1 := h1) (h2 := h2)).mono ?_
    rintro e w1 ⟨rfl, b1⟩
    have HA := Lib.hid (HA.out.to_below b1)
    have HB := Lib.hid (HB.out.to_below b1)
    have HK := Lib.hid (HK.out.to_below b1)
    have HQ := Lib.hid (HQ.out.below b1 HL.out)
    have HL := Lib.hid (Nat.lt_of_lt_of_le HL.out b1.size)
    have HBC := Lib.hid (HBC.out.trans (b1.mono HBC.out.size))
    clear b1
    rw [HD.out]
    obtain ⟨q0, q1, q2⟩ := HQ.out
    go_wp2_with fail
    clear q0 q1 q2
    refine (l8All_any _ _ _ _ _ _ xs ys _ _ _ _ _ _ _ _ _ k _ HA.out HB.out HK.out O1.out O2.out O3.out).mono ?_
    rintro e w2 ⟨hf, nm, f, hnm, rfl, ot, of_, hF, b2⟩
    have BB := Lib.hid (HBC.out.trans (b2.mono HBC.out.size))
    have OT := Lib.hid ot
    have NM := Lib.hid hnm
    clear hnm ot of_ hF b2
    go_wp2
    go_ret
    rw [Hf.out]
    refine ⟨some ⟨w1.heap.size + 1, 0, none⟩, nm, ?_, ?_, BB.out⟩
    · rw [Tr.tds_length, ← NM.out]; rfl
    · rw [Tr.tds_length, ← NM.out]; exact own_base OT.out HBC.out.size
set_option maxHeartbeats 1600000 in
set_option maxRecDepth 100000 in
theorem specTreeDist_any : Calls Try.prog 28 #[.slice A n c, .slice A' n' c', .agg #[.slice K0 n0 c0, .slice K1 n1 c1, .slice K2 n2 c2]] w fun e w' => e = .returned (.int .i64 (Tr.dist xs ys k)) ∧ Below w.heap.size w w' := by
  obtain ⟨wc, hwc⟩ : ∃ wc, wc = w.alloc (.cells #[.slice K0 n0 c0, .slice K1 n1 c1, .slice K2 n2 c2] 27) := ⟨_, rfl⟩
  have hbc : Below w.heap.size w wc := by rw [hwc]; exact (Below.refl _ _).alloc (Nat.le_refl _) _
  have HWC := Lib.hid hwc
  have HA := Lib.hid (ha.to_below hbc)
  have HB := Lib.hid (hb.to_below hbc)
  have HK := Lib.hid (hk.to_below hbc)
  have HBC := Lib.hid hbc
  have Hc := Lib.hid (specTreeDists_any A A' n n' c c' xs ys K0 K1 K2 n0 n1 n2 c0 c1 c2 k wc HA.out HB.out HK.out hn hn' h0 h1 h2)
  cases hd : DOk xs ys k with
  | false =>
    have Hf := Lib.hid (show Tr.dists xs ys k = [] by unfold DOk at hd; unfold Tr.dists; rw [hd]; rfl)
    have Hg := Lib.hid (show Tr.dist xs ys k = -1 by unfold DOk at hd; unfold Tr.dist; rw [hd]; rfl)
    clear ha hb hk hd hwc hbc
    go_enter Try.func28, Try.ntmps28
    go_wp2_with fail
    rw [← HWC.out]
    refine Hc.out.mono ?_
    rintro e w1 ⟨A1, c1, rfl, o1, b1⟩
    have BB1 := Lib.hid (HBC.out.trans (b1.mono HBC.out.size))
    clear b1 o1
    rw [Hf.out]
    go_wp2
    go_ret
    exact ⟨Kit.ret_int Hg.out.symm, BB1.out⟩
  | true =>
    obtain ⟨o1, o2, o3⟩ := DOk.parts hd
    obtain ⟨x1, x24⟩ := Tr.len24 o1
    obtain ⟨y1, y24⟩ := Tr.len24 o2
    obtain ⟨nm, hnm⟩ : ∃ nm, nm = xs.length * ys.length := ⟨_, rfl⟩
    have hnm1 : nm ≤ 576 := by rw [hnm]; exact Nat.mul_le_mul x24 y24
    have hnm0 : 0 < nm := by rw [hnm]; exact Nat.mul_pos (by omega) (by omega)
    obtain ⟨m1, hm1⟩ : ∃ m1, m1 = nm - 1 := ⟨_, rfl⟩
    have Hf := Lib.hid (show Tr.dists xs ys k = Tr.tds xs ys k by unfold DOk at hd; unfold Tr.dists; rw [hd]; rfl)
    have Hg := Lib.hid (show Tr.dist xs ys k = Zs.at (Tr.tds xs ys k) m1 by unfold DOk at hd; unfold Tr.dist; rw [hd, hm1, hnm, Tr.tds_last o1 o2]; rfl)
    have Hl := Lib.hid (show (Tr.tds xs ys k).length = nm by rw [Tr.tds_length, hnm])
    have e0 : ((nm : Int) == 0) = false := by simp; omega
    have e1 : (nm : Int) - 1 = (m1 : Int) := by omega
    have a1 : IntKind.i64.wrap ((nm : Int) - 1) = (m1 : Int) := by rw [Kit.w64 (by omega) (by omega)]; exact e1
    have k1 : (0 : Int) ≤ (m1 : Int) := by omega
    have k2 : (m1 : Int) < (nm : Int) := by omega
    have hlt : m1 < nm := by omega
    clear ha hb hk hd hwc hbc o1 o2 o3 hnm hm1
    go_enter Try.func28, Try.ntmps28
    go_wp2_with fail
    rw [← HWC.out]
    refine Hc.out.mono ?_
    rintro e w1 ⟨A1, c1, rfl, o1, b1⟩
    have BB1 := Lib.hid (HBC.out.trans (b1.mono HBC.out.size))
    rw [Hf.out, Hl.out] at o1
    rw [Hf.out, Hl.out]
    obtain ⟨ad, rfl, _, l1⟩ := (IntIn.of_own o1).at_ hlt
    clear b1 o1
    go_wp2
    go_ret
    exact ⟨Kit.ret_int Hg.out.symm, BB1.out⟩
set_option maxHeartbeats 1600000 in
set_option maxRecDepth 100000 in
theorem specRootDist_any : Calls Try.prog 18 #[.slice A n c, .slice A' n' c', .agg #[.slice K0 n0 c0, .slice K1 n1 c1, .slice K2 n2 c2]] w fun e w' => e = .returned (.int .i64 (Tr.rootDist xs ys k)) ∧ Below w.heap.size w w' := by
  obtain ⟨wc, hwc⟩ : ∃ wc, wc = w.alloc (.cells #[.slice K0 n0 c0, .slice K1 n1 c1, .slice K2 n2 c2] 27) := ⟨_, rfl⟩
  have hbc : Below w.heap.size w wc := by rw [hwc]; exact (Below.refl _ _).alloc (Nat.le_refl _) _
  have HQ := Lib.hid (show Box3 wc w.heap.size (.slice K0 n0 c0) (.slice K1 n1 c1) (.slice K2 n2 c2) by rw [hwc]; exact Box3.made _ _ _ _ _)
  have HL := Lib.hid (show w.heap.size < wc.heap.size by rw [hwc]; simp)
  have HWC := Lib.hid hwc
  have HA := Lib.hid (ha.to_below hbc)
  have HB := Lib.hid (hb.to_below hbc)
  have HK := Lib.hid (hk.to_below hbc)
  have HBC := Lib.hid hbc
  cases hd : DOk xs ys k with
  | false =>
    have Hf := Lib.hid (show Tr.rootDist xs ys k = -1 by unfold DOk at hd; unfold Tr.rootDist; rw [hd]; rfl)
    have HD := Lib.hid (show (Tr.ok xs && Tr.ok ys && Co.ok k) = false from hd)
    clear ha hb hk hd hwc hbc
    go_enter Try.func18, Try.ntmps18
    go_wp2_with fail
    rw [← HWC.out]
    refine (l8Three_any (c := _) (c' := _) (c0 := _) (c1 := _) (c2 := _) (ha := HA.out) (hb := HB.out) (hk := HK.out) (hn := hn) (hn' := hn') (h0 := h0) (h1 := h1) (h2 := h2)).mono ?_
    rintro e w1 ⟨rfl, b1⟩
    have HA := Lib.hid (HA.out.to_below b1)
    have HB := Lib.hid (HB.out.to_below b1)
    have HK := Lib.hid (HK.out.to_below b1)
    have HQ := Lib.hid (HQ.out.below b1 HL.out)
    have HL := Lib.hid (Nat.lt_of_lt_of_le HL.out b1.size)
    have HBC := Lib.hid (HBC.out.trans (b1.mono HBC.out.size))
    clear b1
    rw [HD.out]
    go_wp2
    go_ret
    exact ⟨Kit.ret_int Hf.out.symm, HBC.out⟩
  | true =>
    obtain ⟨o1, o2, o3⟩ := DOk.parts hd
    obtain ⟨x1, x24⟩ := Tr.len24 o1
    obtain ⟨y1, y24⟩ := Tr.len24 o2
    have hln := ha.1
    have hln' := hb.1
    obtain ⟨ad, rfl, had⟩ := ha.2.1 (by omega)
    obtain ⟨bd, rfl, hbd⟩ := hb.2.1 (by omega)
    obtain ⟨x, hx⟩ : ∃ x, x = n - 1 := ⟨_, rfl⟩
    obtain ⟨y, hy⟩ : ∃ y, y = n' - 1 := ⟨_, rfl⟩
    obtain ⟨v, hv⟩ : ∃ v, v = x * (n' + 1) := ⟨_, rfl⟩
    obtain ⟨t, ht⟩ : ∃ t, t = v + n' := ⟨_, rfl⟩
    obtain ⟨u, hu⟩ : ∃ u, u = v + y := ⟨_, rfl⟩
    obtain ⟨nf, hnf⟩ : ∃ nf, nf = (xs.length + 1) * (ys.length + 1) := ⟨_, rfl⟩
    have hv6 : v ≤ 24 * 25 := by rw [hv]; exact Nat.mul_le_mul (by omega) (by omega)
    have huf : u < nf := by
      rw [hu, hv, hnf, hln, hln']
      exact idx_lt (by omega) (by omega)
    have n3 := (Co.nonneg' k).2.2 (Tr.l xs 0) (Tr.l ys 0)
    have bdd := RR_bound (k := k) o1 o2 (p := 0) (a := x) (q := 0) (b := y) (Nat.zero_le _) (by omega) (Nat.zero_le _) (by omega)
    have Hf := Lib.hid (show Tr.rootDist xs ys k = RR xs ys k 0 x 0 y + Co.rel k (Tr.l xs 0) (Tr.l ys 0) by unfold DOk at hd; unfold Tr.rootDist; rw [hd, hx, hy, ← hln, ← hln']; rfl)
    have O1 := Lib.hid o1
    have O2 := Lib.hid o2
    have O3 := Lib.hid o3
    have HD := Lib.hid (show (Tr.ok xs && Tr.ok ys && Co.ok k) = true from hd)
    have UX := Lib.hid (show x ≤ xs.length ∧ y ≤ ys.length ∧ u = x * (ys.length + 1) + y by refine ⟨by omega, by omega, by rw [hu, hv, hln']⟩)
    have m1 : (x : Int) * ((n' : Int) + 1) = (v : Int) := by rw [hv]; push_cast; rfl
    have a1 : IntKind.i64.wrap ((n : Int) - 1) = (x : Int) := by rw [Kit.w64 (by omega) (by omega)]; omega
    have a2 : IntKind.i64.wrap ((x : Int) * ((n' : Int) + 1)) = (v : Int) := by rw [m1, Kit.w64 (by omega) (by omega)]
    have a3 : IntKind.i64.wrap ((v : Int) + (n' : Int)) = (t : Int) := by rw [Kit.w64 (by omega) (by omega)]; omega
    have a4 : IntKind.i64.wrap ((t : Int) - 1) = (u : Int) := by rw [Kit.w64 (by omega) (by omega)]; omega
    have a5 : IntKind.i64.wrap (RR xs ys k 0 x 0 y + Co.rel k (Tr.l xs 0) (Tr.l ys 0)) = RR xs ys k 0 x 0 y + Co.rel k (Tr.l xs 0) (Tr.l ys 0) := Kit.w64 (by omega) (by omega)
    have k1 : (0 : Int) ≤ (u : Int) := by omega
    have k2 : (u : Int) < (nf : Int) := by omega
    have k3 : 0 < n := by omega
    have k4 : 0 < n' := by omega
    have NF := Lib.hid hnf
    clear ha hb hk hd hwc hbc o1 o2 o3 hx hy hv ht hu hnf m1 hln hln' x1 y1
    go_enter Try.func18, Try.ntmps18
    go_wp2_with fail
    rw [← HWC.out]
    refine (l8Three_any (c := _) (c' := _) (c0 := _) (c1 := _) (c2 := _) (ha := HA.out) (hb := HB.out) (hk := HK.out) (hn := hn) (hn' := hn') (h0 := h0) (h1 := h1) (h2 := h2)).mono ?_
    rintro e w1 ⟨rfl, b1⟩
    have HA := Lib.hid (HA.out.to_below b1)
    have HB := Lib.hid (HB.out.to_below b1)
    have HK := Lib.hid (HK.out.to_below b1)
    have HQ := Lib.hid (HQ.out.below b1 HL.out)
    have HL := Lib.hid (Nat.lt_of_lt_of_le HL.out b1.size)
    have HBC := Lib.hid (HBC.out.trans (b1.mono HBC.out.size))
    clear b1
    rw [HD.out]
    obtain ⟨q0, q1, q2⟩ := HQ.out
    go_wp2_with fail
    clear q0 q1 q2
    refine (l8All_any _ _ _ _ _ _ xs ys _ _ _ _ _ _ _ _ _ k _ HA.out HB.out HK.out O1.out O2.out O3.out).mono ?_
    rintro e w2 ⟨hf, nm, f, hnm, rfl, ot, of_, hF, b2⟩
    rw [← NF.out] at of_ ⊢
    have FO := hF x y UX.out.1 UX.out.2.1
    rw [← UX.out.2.2] at FO
    have hlen : f.length = nf := by have := of_.1; rw [ints_length] at this; omega
    have cf := own_int of_ (k := u) (by rw [hlen]; exact huf)
    rw [FO] at cf
    have HA := Lib.hid (HA.out.to_below b2)
    have HB := Lib.hid (HB.out.to_below b2)
    have HK := Lib.hid (HK.out.to_below b2)
    have HQ := Lib.hid (HQ.out.below b2 HL.out)
    have HL := Lib.hid (Nat.lt_of_lt_of_le HL.out b2.size)
    have BB := Lib.hid (HBC.out.trans (b2.mono HBC.out.size))
    have LF := Lib.hid (show (⟨hf, u, none⟩ : Addr).block < w2.heap.size ∧ (⟨w.heap.size, 0, none⟩ : Addr).block < w2.heap.size ∧ (⟨w.heap.size, 1, none⟩ : Addr).block < w2.heap.size ∧ (⟨w.heap.size, 2, none⟩ : Addr).block < w2.heap.size ∧ (ad : Addr).block < w2.heap.size ∧ (bd : Addr).block < w2.heap.size from ⟨(of_.lt hf rfl).2, HL.out, HL.out, HL.out, by (try rw [block_of_add]); have := HL.out; omega, by (try rw [block_of_add]); have := HL.out; omega⟩)
    have S0 := Lib.hid (show w2.drew.cell? ⟨hf, u, none⟩ = some (.int .i64 (RR xs ys k 0 x 0 y)) ∧ w2.drew.cell? ⟨w.heap.size, 0, none⟩ = some (.slice K0 n0 c0) ∧ w2.drew.cell? ⟨w.heap.size, 1, none⟩ = some (.slice K1 n1 c1) ∧ w2.drew.cell? ⟨w.heap.size, 2, none⟩ = some (.slice K2 n2 c2) ∧ w2.drew.cell? ad = some (.int .i64 (Tr.l xs 0)) ∧ w2.drew.cell? bd = some (.int .i64 (Tr.l ys 0)) ∧ RdG w2 w2.drew from ⟨cf, HQ.out.1, HQ.out.2.1, HQ.out.2.2, (by have h := (HA.out.here (k := 0) (by omega)).1; simpa [Addr.add] using h), (by have h := (HB.out.here (k := 0) (by omega)).1; simpa [Addr.add] using h), (Drawn.refl _).drew.toBelow⟩)
    clear hnm ot of_ hF b2 FO cf hlen
    go_wp2_with fail
    go_region_held3 (fun wq => wq.cell? ⟨hf, u, none⟩ = some (.int .i64 (RR xs ys k 0 x 0 y)) ∧ wq.cell? ⟨w.heap.size, 0, none⟩ = some (.slice K0 n0 c0) ∧ wq.cell? ⟨w.heap.size, 1, none⟩ = some (.slice K1 n1 c1) ∧ wq.cell? ⟨w.heap.size, 2, none⟩ = some (.slice K2 n2 c2) ∧ wq.cell? ad = some (.int .i64 (Tr.l xs 0)) ∧ wq.cell? bd = some (.int .i64 (Tr.l ys 0)) ∧ RdG w2 wq) (first | (with_reducible exact S0.out) | (with_reducible refine rd_keep LF.out ?_ hb; with_reducible assumption)) (first | (go_at_call 75; refine (specRelCost_any _ _ _ _ _ _ _ _ _ k (Tr.l xs 0) (Tr.l ys 0) _ (HK.out.to_below (rd_below (by assumption))) h0 h1 h2).mono ?_; rintro e w5 ⟨rfl, hb⟩; have hbr := hb))
    have BF := Lib.hid (BB.out.trans (((Drawn.refl w2).drew.toBelow (B := w2.heap.size)).trans hbr |>.mono BB.out.size))
    go_wp2
    go_ret
    exact ⟨Kit.ret_int Hf.out.symm, BF.out⟩
end

end Go.Proofs.Ytlndaflhlkbedaa
