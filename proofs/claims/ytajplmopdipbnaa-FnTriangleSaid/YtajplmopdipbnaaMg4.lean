/- Texts of one claim laid into one file, in build order: L7In, CostOkS, LabsS, RankS, LeafS, KeyS, LabOkI, Num, C1P, Cod, Base, DepI, TreeOkI, HasI, EndOfI, RankI, PostI, LeafI, SlI, SlC, KeyI, StepA, Three. -/
import Derived.Test.YtajplmopdipbnaaMg3
import Derived.BigQuiet
import Derived.Deep.RegionHeld3
import Derived.Deep.RegionLaw
import Derived.Lib.Bytealg
import Derived.Lib.Strings
import Derived.Outline
import Derived.Test.YtajplmopdipbnaaRows
import Derived.WalkKit
/- Contracts (L7In). -/
namespace Go.Proofs.Ytajplmopdipbnaa
open Go.RowKit
set_option linter.unusedVariables false

set_option maxHeartbeats 1600000 in
set_option maxRecDepth 100000 in
theorem l7In_any (A : Option Addr) (n c : Nat) (zs : List Int) (m : Nat) (w : World) (h : IntIn w w.heap.size A n zs) (hn : n ≤ 1048576) (hm : m ≤ 1000) :
    Calls Try.prog 63 #[.slice A n c, .int .i64 m] w fun e w' => e = .returned (.bool (Zs.fit zs m)) ∧ w = w' := by
  have H := Lib.hid h
  have HL := Lib.hid h.1
  clear h
  go_enter Try.func63, Try.ntmps63
  go_wp2
  go_loop [5] (fun iv => ∃ k : Nat, k ≤ n ∧ iv = .int .i64 k ∧ Zs.inTo zs k) (fun i => n - (intOf i).toNat)
  case atStart => exact ⟨0, Nat.zero_le _, rfl, fun j hj => absurd hj (Nat.not_lt_zero j)⟩
  case round =>
    obtain ⟨k, hk, rfl, hin⟩ := hrel
    have HI := Lib.hid hin
    clear hin
    by_cases hlt : k < n
    · obtain ⟨ad, rfl, _, c1⟩ := H.out.at_ hlt
      obtain ⟨z, hz⟩ : ∃ z, z = Zs.at zs k := ⟨_, rfl⟩
      rw [← hz] at c1
      have HZ := Lib.hid hz
      clear hz
      have k0 : (0 : Int) ≤ (k : Int) := by omega
      have k1 : (k : Int) < (n : Int) := by omega
      by_cases hq : 0 ≤ z ∧ z ≤ 1000
      · have q : decide (0 ≤ z ∧ z ≤ 1000) = true := by simpa using hq
        have Hq := Lib.hid hq
        clear hq
        go_wp2_with fail
        refine (l1In_any _ _ _ _).mono ?_
        rintro e w1 ⟨rfl, rfl⟩
        rw [q]
        go_wp2
        go_round
        case rel => exact ⟨k + 1, by omega, by go_num, fun j hj => by
          rcases Nat.lt_succ_iff_lt_or_eq.1 hj with h' | rfl
          · exact HI.out j h'
          · rw [← HZ.out]; exact Hq.out⟩
        case measure => simp [intOf]; omega
      · have q : decide (0 ≤ z ∧ z ≤ 1000) = false := by simpa using hq
        have Hf := Lib.hid (Zs.fit_not (zs := zs) (k := k) (n := m) (by rw [HL.out]; exact hlt) (by rw [← HZ.out]; exact hq))
        clear hq
        go_wp2_with fail
        refine (l1In_any _ _ _ _).mono ?_
        rintro e w1 ⟨rfl, rfl⟩
        rw [q]
        go_wp2
        go_ret
        exact ⟨Kit.ret_bool Hf.out.symm, rfl⟩
    · obtain rfl : k = n := by omega
      have Hf := Lib.hid (Zs.fit_all (zs := zs) (n := m) (by rw [HL.out]; exact HI.out))
      go_wp2
      go_ret
      exact ⟨Kit.ret_bool (by rw [Hf.out, HL.out, Bool.eq_iff_iff]; simp; omega), rfl⟩

end Go.Proofs.Ytajplmopdipbnaa

/- Contracts (CostOkS). -/
namespace Go.Proofs.Ytajplmopdipbnaa
open Go.RowKit
set_option linter.unusedVariables false

theorem Co.diag_not {k : Co} {a : Nat} (ha : a < 6) (h : Zs.at k.r (a * 6 + a) ≠ 0) : Co.diag k = false := by
  rw [Bool.eq_false_iff]
  intro e
  simp only [Co.diag, List.all_eq_true, List.mem_range, decide_eq_true_eq] at e
  exact h (e a ha)
def Co.diagTo (k : Co) (a : Nat) : Prop := ∀ b, b < a → Zs.at k.r (b * 6 + b) = 0
theorem Co.diag_all {k : Co} (h : Co.diagTo k 6) : Co.diag k = true := by
  simp only [Co.diag, List.all_eq_true, List.mem_range, decide_eq_true_eq]
  exact h
set_option maxHeartbeats 1600000 in
set_option maxRecDepth 100000 in
theorem specCostOk_any (A0 A1 A2 : Option Addr) (n0 n1 n2 c0 c1 c2 : Nat) (k : Co) (w : World) (h : CoIn w w.heap.size A0 A1 A2 n0 n1 n2 k) (h0 : n0 ≤ 1048576) (h1 : n1 ≤ 1048576) (h2 : n2 ≤ 1048576) :
    Calls Try.prog 23 #[.agg #[.slice A0 n0 c0, .slice A1 n1 c1, .slice A2 n2 c2]] w fun e w' => e = .returned (.bool (Co.ok k)) ∧ Below w.heap.size w w' := by
  have H := Lib.hid h
  have HL := Lib.hid h.len
  clear h
  have HB := Lib.hid ((Below.refl w.heap.size w).alloc (Nat.le_refl _) (.cells #[.slice A0 n0 c0, .slice A1 n1 c1, .slice A2 n2 c2] 27))
  have H1 := Lib.hid (H.out.to_below HB.out)
  cases e0 : Zs.fit k.d 6 with
  | false =>
    have Hf := Lib.hid (show Co.ok k = false by unfold Co.ok; rw [e0]; rfl)
    have E0 := Lib.hid e0
    clear e0
    go_enter Try.func23, Try.ntmps23
    go_wp2_with fail
    refine (l7In_any _ _ _ k.d 6 _ H1.out.1 h0 (by decide)).mono ?_
    rintro e w1 ⟨rfl, rfl⟩
    rw [E0.out]
    go_wp2
    go_ret
    exact ⟨Kit.ret_bool Hf.out.symm, HB.out⟩
  | true =>
    cases e1 : Zs.fit k.i 6 with
    | false =>
      have Hf := Lib.hid (show Co.ok k = false by unfold Co.ok; rw [e0, e1]; rfl)
      have E0 := Lib.hid e0
      have E1 := Lib.hid e1
      clear e0 e1
      go_enter Try.func23, Try.ntmps23
      go_wp2_with fail
      refine (l7In_any _ _ _ k.d 6 _ H1.out.1 h0 (by decide)).mono ?_
      rintro e w1 ⟨rfl, rfl⟩
      rw [E0.out]
      go_wp2_with fail
      refine (l7In_any _ _ _ k.i 6 _ H1.out.2.1 h1 (by decide)).mono ?_
      rintro e w1 ⟨rfl, rfl⟩
      rw [E1.out]
      go_wp2
      go_ret
      exact ⟨Kit.ret_bool Hf.out.symm, HB.out⟩
    | true =>
      cases e2 : Zs.fit k.r 36 with
      | false =>
        have Hf := Lib.hid (show Co.ok k = false by unfold Co.ok; rw [e0, e1, e2]; rfl)
        have E0 := Lib.hid e0
        have E1 := Lib.hid e1
        have E2 := Lib.hid e2
        clear e0 e1 e2
        go_enter Try.func23, Try.ntmps23
        go_wp2_with fail
        refine (l7In_any _ _ _ k.d 6 _ H1.out.1 h0 (by decide)).mono ?_
        rintro e w1 ⟨rfl, rfl⟩
        rw [E0.out]
        go_wp2_with fail
        refine (l7In_any _ _ _ k.i 6 _ H1.out.2.1 h1 (by decide)).mono ?_
        rintro e w1 ⟨rfl, rfl⟩
        rw [E1.out]
        go_wp2_with fail
        refine (l7In_any _ _ _ k.r 36 _ H1.out.2.2 h2 (by decide)).mono ?_
        rintro e w1 ⟨rfl, rfl⟩
        rw [E2.out]
        go_wp2
        go_ret
        exact ⟨Kit.ret_bool Hf.out.symm, HB.out⟩
      | true =>
        have Hf := Lib.hid (show Co.ok k = Co.diag k by unfold Co.ok; rw [e0, e1, e2]; rfl)
        have hr := (Zs.fit_iff.1 e2).1
        have hn2 : n2 = 36 := by rw [← hr]; exact HL.out.2.2.symm
        have E0 := Lib.hid e0
        have E1 := Lib.hid e1
        have E2 := Lib.hid e2
        clear e0 e1 e2 hr
        subst hn2
        obtain ⟨ad, rfl, _⟩ := H1.out.2.2.2.1 (by omega)
        go_enter Try.func23, Try.ntmps23
        go_wp2_with fail
        refine (l7In_any _ _ _ k.d 6 _ H1.out.1 h0 (by decide)).mono ?_
        rintro e w1 ⟨rfl, rfl⟩
        rw [E0.out]
        go_wp2_with fail
        refine (l7In_any _ _ _ k.i 6 _ H1.out.2.1 h1 (by decide)).mono ?_
        rintro e w1 ⟨rfl, rfl⟩
        rw [E1.out]
        go_wp2_with fail
        refine (l7In_any _ _ _ k.r 36 _ H1.out.2.2 h2 (by decide)).mono ?_
        rintro e w1 ⟨rfl, rfl⟩
        rw [E2.out]
        go_wp2
        go_loop [3] (fun iv => ∃ a : Nat, a ≤ 6 ∧ iv = .int .i64 a ∧ Co.diagTo k a) (fun i => 6 - (intOf i).toNat)
        case atStart => exact ⟨0, Nat.zero_le _, rfl, fun j hj => absurd hj (Nat.not_lt_zero j)⟩
        case round =>
          obtain ⟨a, ha, rfl, hin⟩ := hrel
          have HI := Lib.hid hin
          clear hin
          by_cases hlt : a < 6
          · have c1 := H1.out.2.2.here (k := a * 6 + a) (by omega)
            obtain ⟨z, hz⟩ : ∃ z, z = Zs.at k.r (a * 6 + a) := ⟨_, rfl⟩
            rw [← hz] at c1
            have HZ := Lib.hid hz
            clear hz
            obtain ⟨p, hp⟩ : ∃ p, p = a * 6 + a := ⟨_, rfl⟩
            rw [← hp] at c1
            have k0 : decide ((a : Int) < 6) = true := by simp; omega
            have a1 : IntKind.i64.wrap ((a : Int) * 6) = (a : Int) * 6 := Kit.w64 (by omega) (by omega)
            have a2 : IntKind.i64.wrap ((a : Int) * 6 + (a : Int)) = (p : Int) := by rw [Kit.w64 (by omega) (by omega)]; omega
            have a3 : (a : Int) * 6 + (a : Int) = (p : Int) := by omega
            have k1 : (0 : Int) ≤ (p : Int) := by omega
            have k2 : (p : Int) < 36 := by omega
            have HP := Lib.hid hp
            clear hp
            by_cases hq : z = 0
            · have q : (z != 0) = false := by simpa using hq
              have Hq := Lib.hid hq
              clear hq
              go_wp2
              refine ⟨⟨a + 1, by omega, by go_num, fun j hj => ?_⟩, by simp [intOf]; omega⟩
              rcases Nat.lt_succ_iff_lt_or_eq.1 hj with h' | rfl
              · exact HI.out j h'
              · rw [← HZ.out]; exact Hq.out
            · have q : (z != 0) = true := by simpa using hq
              have Hd := Lib.hid (Co.diag_not (k := k) hlt (by rw [← HZ.out]; exact hq))
              clear hq
              go_wp2
              go_ret
              exact ⟨Kit.ret_bool (by rw [Hf.out, Hd.out]), HB.out⟩
          · obtain rfl : a = 6 := by omega
            have Hd := Lib.hid (Co.diag_all HI.out)
            go_wp2
            go_ret
            exact ⟨Kit.ret_bool (by rw [Hf.out, Hd.out]), HB.out⟩

end Go.Proofs.Ytajplmopdipbnaa

/- Contracts (LabsS). -/
namespace Go.Proofs.Ytajplmopdipbnaa
open Go.RowKit
set_option linter.unusedVariables false

set_option maxHeartbeats 1600000 in
set_option maxRecDepth 100000 in
theorem l8Three_any (A A' : Option Addr) (n n' c c' : Nat) (xs ys : Tr) (K0 K1 K2 : Option Addr) (n0 n1 n2 c0 c1 c2 : Nat) (k : Co) (w : World) (ha : NdIn w w.heap.size A n xs) (hb : NdIn w w.heap.size A' n' ys) (hk : CoIn w w.heap.size K0 K1 K2 n0 n1 n2 k)
    (hn : n ≤ 1048576) (hn' : n' ≤ 1048576) (h0 : n0 ≤ 1048576) (h1 : n1 ≤ 1048576) (h2 : n2 ≤ 1048576) :
    Calls Try.prog 58 #[.slice A n c, .slice A' n' c', .agg #[.slice K0 n0 c0, .slice K1 n1 c1, .slice K2 n2 c2]] w fun e w' => e = .returned (.bool (Tr.ok xs && Tr.ok ys && Co.ok k)) ∧ Below w.heap.size w w' := by
  obtain ⟨wc, hwc⟩ : ∃ wc, wc = w.alloc (.cells #[.slice K0 n0 c0, .slice K1 n1 c1, .slice K2 n2 c2] 27) := ⟨_, rfl⟩
  have hbc : Below w.heap.size w wc := by rw [hwc]; exact (Below.refl _ _).alloc (Nat.le_refl _) _
  have hzc : wc.heap.size = w.heap.size + 1 := by rw [hwc]; simp
  have q : Box3 wc w.heap.size (.slice K0 n0 c0) (.slice K1 n1 c1) (.slice K2 n2 c2) := by rw [hwc]; exact Box3.made _ _ _ _ _
  have HWC := Lib.hid hwc
  have Q := Lib.hid q
  have HA := Lib.hid (ha.to_below hbc)
  have HB := Lib.hid (hb.to_below hbc)
  have HK := Lib.hid (hk.to_below hbc)
  have HBC := Lib.hid hbc
  clear ha hb hk hwc hbc hzc q
  cases hx : Tr.ok xs with
  | false =>
    have HX := Lib.hid hx
    clear hx
    go_enter Try.func58, Try.ntmps58
    go_wp2_with fail
    rw [← HWC.out]
    refine (specTreeOk_any _ _ _ xs _ HA.out hn).mono ?_
    rintro e w1 ⟨rfl, hd⟩
    have BB := Lib.hid (Drawn.below HBC.out hd)
    clear hd
    rw [HX.out]
    go_wp2
    go_ret
    exact ⟨rfl, BB.out⟩
  | true =>
    cases hy : Tr.ok ys with
    | false =>
      have HX := Lib.hid hx
      have HY := Lib.hid hy
      clear hx hy
      go_enter Try.func58, Try.ntmps58
      go_wp2_with fail
      rw [← HWC.out]
      refine (specTreeOk_any _ _ _ xs _ HA.out hn).mono ?_
      rintro e w1 ⟨rfl, hd⟩
      have HB1 := Lib.hid (HB.out.to_drawn hd)
      have BB := Lib.hid (Drawn.below HBC.out hd)
      clear hd
      rw [HX.out]
      go_wp2_with fail
      refine (specTreeOk_any _ _ _ ys _ HB1.out hn').mono ?_
      rintro e w2 ⟨rfl, hd⟩
      have BB := Lib.hid (Drawn.below BB.out hd)
      clear hd
      rw [HY.out]
      go_wp2
      go_ret
      exact ⟨rfl, BB.out⟩
    | true =>
      have HX := Lib.hid hx
      have HY := Lib.hid hy
      clear hx hy
      go_enter Try.func58, Try.ntmps58
      go_wp2_with fail
      rw [← HWC.out]
      refine (specTreeOk_any _ _ _ xs _ HA.out hn).mono ?_
      rintro e w1 ⟨rfl, hd⟩
      have HB1 := Lib.hid (HB.out.to_drawn hd)
      have HK1 := Lib.hid (HK.out.to_drawn hd)
      have Q1 := Lib.hid (Q.out.drawn hd)
      have BB := Lib.hid (Drawn.below HBC.out hd)
      clear hd
      rw [HX.out]
      go_wp2_with fail
      refine (specTreeOk_any _ _ _ ys _ HB1.out hn').mono ?_
      rintro e w2 ⟨rfl, hd⟩
      have HK2 := Lib.hid (HK1.out.to_drawn hd)
      have Q2 := Lib.hid (Q1.out.drawn hd)
      have q0 := Q2.out.1
      have q1 := Q2.out.2.1
      have q2 := Q2.out.2.2
      have BB := Lib.hid (Drawn.below BB.out hd)
      clear hd
      rw [HY.out]
      go_wp2_with fail
      refine (specCostOk_any _ _ _ _ _ _ _ _ _ k _ HK2.out h0 h1 h2).mono ?_
      rintro e w3 ⟨rfl, b3⟩
      have BB := Lib.hid (BB.out.trans (b3.mono BB.out.size))
      clear b3 q0 q1 q2
      cases ho : Co.ok k with
      | false =>
        go_wp2
        go_ret
        exact ⟨by rw [ho]; rfl, BB.out⟩
      | true =>
        go_wp2
        go_ret
        exact ⟨by rw [ho]; rfl, BB.out⟩
set_option maxHeartbeats 1600000 in
set_option maxRecDepth 100000 in
theorem l8Labels_any (A : Option Addr) (n c : Nat) (xs : Tr) (w : World) (h : NdIn w w.heap.size A n xs) (hn : n ≤ 1048576) (hok : Tr.ok xs = true) :
    Calls Try.prog 91 #[.slice A n c] w (OwnInts 3 (Tr.lab xs) w) := by
  have hnl : xs.length = n := h.1
  obtain ⟨hn1, hn24⟩ := Tr.len24 hok
  have hpl : (Zs.up (Tr.post xs)).length = xs.length := by rw [Zs.up_length, Tr.post_length hok]
  have hp3 : ∀ k, k < xs.length → ∃ i : Nat, i < xs.length ∧ Zs.at (Zs.up (Tr.post xs)) k = (i : Int) ∧ Tr.xa xs k = Tr.l xs i := fun k hk => by
    obtain ⟨i, h1, _, _, h4, h5⟩ := Tr.la_at hok hk
    have hk2 : k < (Tr.post xs).length := by rw [Tr.post_length hok]; exact hk
    refine ⟨i, h1, ?_, h4⟩
    rw [Zs.up_at _ _ hk2]
    rw [List.getElem?_eq_getElem hk2] at h5
    injection h5 with h5
    rw [h5]
  have HP3 := Lib.hid hp3
  have LL := Lib.hid (Tr.lab_len hok)
  have HPL := Lib.hid hpl
  obtain ⟨ws, hws⟩ : ∃ ws, ws = w.alloc (.cells #[] 3) := ⟨_, rfl⟩
  have hbs : Below w.heap.size w ws := by rw [hws]; exact (Below.refl _ _).alloc (Nat.le_refl _) _
  have HNW := Lib.hid h
  have H := Lib.hid (h.to_below hbs)
  have HBS := Lib.hid hbs
  have HWS := Lib.hid hws
  obtain ⟨i0, hi0, hz0, hz1, hz2⟩ := info_parts info_intZ
  have Hi := Lib.hid hi0
  clear h hok hpl hp3 hbs hws hi0
  go_enter Try.func91, Try.ntmps91
  go_wp2_with fail
  rw [← HWS.out]
  refine (specPostOrder_any _ _ _ xs _ H.out hn).mono ?_
  rintro e w3 ⟨A3, c3, rfl, o3, b3⟩
  rw [HPL.out] at o3 ⊢
  have zs : ws.heap.size = w.heap.size + 1 := by rw [HWS.out]; simp
  have o0 : ws.ownsRow w.heap.size 3 1 (.slice (some ⟨w.heap.size, 0, none⟩) 0 0) 0 (ints []) := by rw [HWS.out]; exact World.ownsRow_lit (base := w.heap.size) (e := 3) (size := 1) w #[] 0 (Nat.le_refl _) (Nat.zero_le _) rfl
  have o0' := own_below o0 b3
  obtain ⟨g3, hg3, q1, q2⟩ := own_form o3 (by omega)
  subst hg3
  have ap : Apart (.slice (some ⟨g3, 0, none⟩) xs.length c3) (.slice (some ⟨w.heap.size, 0, none⟩) 0 0) := .inr (fun e => by simp [Value.ownBlock] at e; omega)
  have O0 := Lib.hid o0'
  have O3 := Lib.hid (own_base (base' := w.heap.size) o3 (by omega))
  have AP := Lib.hid ap
  have BB := Lib.hid (HBS.out.trans (b3.mono HBS.out.size))
  have H3 := Lib.hid (H.out.to_below b3)
  have hadz : ∀ wr : World, wr.ownsRow w.heap.size 3 1 (.slice (some ⟨g3, 0, none⟩) xs.length c3) xs.length (ints (Zs.up (Tr.post xs))) → ∀ k, k < xs.length → wr.cell? ⟨g3, k, none⟩ = some (.int .i64 (Zs.at (Zs.up (Tr.post xs)) k)) := fun wr h k hk => own_int h (k := k) (by rw [HPL.out]; exact hk)
  have HAD := Lib.hid hadz
  have HN := Lib.hid (show ∀ wr, Below w.heap.size w wr → NdIn wr w.heap.size A n xs from fun wr hb => HNW.out.below hb)
  clear o3 b3 o0 o0' ap q1 q2 zs hadz
  go_wp2
  go_loopw [5, 3] (fun kv ov wr => ∃ k : Nat, k ≤ xs.length ∧ kv = .int .i64 k ∧ wr.ownsRow w.heap.size 3 1 ov ((Tr.lab xs).take k).length (ints ((Tr.lab xs).take k)) ∧ wr.ownsRow w.heap.size 3 1 (.slice (some ⟨g3, 0, none⟩) xs.length c3) xs.length (ints (Zs.up (Tr.post xs))) ∧ Apart (.slice (some ⟨g3, 0, none⟩) xs.length c3) ov ∧ Below w.heap.size w wr) (fun k _ _ => xs.length - (intOf k).toNat)
  case atStart => exact ⟨0, Nat.zero_le _, rfl, O0.out, O3.out, AP.out, BB.out⟩
  case round =>
    clear O0 O3 AP BB H3
    obtain ⟨k, hk, rfl, ho, h3, hap, hB⟩ := hrel
    have Ho := Lib.hid ho
    have H3 := Lib.hid h3
    have AP := Lib.hid hap
    have HB := Lib.hid hB
    obtain ⟨Ao, co, hov⟩ := own_slice ho
    clear ho h3 hap hB
    subst hov
    by_cases hlt : k < xs.length
    · obtain ⟨i, r1, r2, r3⟩ := HP3.out k hlt
      have cp := HAD.out wr H3.out k hlt
      rw [r2] at cp
      obtain ⟨ad, rfl, _, hl, hd⟩ := (HN.out wr HB.out).at_ (k := i) (by omega)
      have b1 : (0 : Int) ≤ (i : Int) := by omega
      have b2 : (i : Int) < (n : Int) := by omega
      have k1 : (0 : Int) ≤ (k : Int) := by omega
      have k2 : (k : Int) < (xs.length : Int) := by omega
      have ht : (Tr.lab xs).take k ++ [Tr.l xs i] = (Tr.lab xs).take (k + 1) := by
        rw [List.take_succ_eq_append_getElem (by rw [LL.out]; exact hlt), ← r3]
        congr 2
        unfold Tr.xa
        rw [List.getD_eq_getElem?_getD, List.getElem?_eq_getElem (by rw [LL.out]; exact hlt)]
        rfl
      have HT := Lib.hid ht
      have HTL := Lib.hid (show ((Tr.lab xs).take k).length = k by rw [List.length_take, LL.out]; omega)
      have HSZ := Lib.hid HB.out.size
      clear r2 r3 ht hd
      go_wp2_with (at_builtin; go_loud (refine append_int_at wr rfl _ _ 25 rfl w.heap.size 3 i0 Try.underlying25 Hi.out hz0 hz1 hz2 (.slice Ao ((Tr.lab xs).take k).length co) ((Tr.lab xs).take k).length ((Tr.lab xs).take k) rfl Ho.out rfl (Tr.l xs i) rfl (by rw [HTL.out]; omega) HSZ.out ?_); intro v' w4 hown hgrow hwh)
      rw [HT.out] at hown
      have p3 := World.ownsRow.kept (H3.out.alloc (.cells #[.int .i64 (Tr.l xs i)] 3)) hgrow AP.out
      have pa := AP.out.grew (H3.out.alloc (.cells #[.int .i64 (Tr.l xs i)] 3)) (by rw [show (wr.alloc (.cells #[.int .i64 (Tr.l xs i)] 3)).heap.size = wr.heap.size + 1 by simp]; exact hwh)
      have pb : Below w.heap.size w w4 := (HB.out.alloc HSZ.out _).grown hgrow (by have := HSZ.out; simp; omega) (fun b hb => (Ho.out.lt b hb).1)
      have P0 := Lib.hid hown
      have P3 := Lib.hid p3
      have PA := Lib.hid pa
      have PB := Lib.hid pb
      clear hown hgrow hwh p3 pa pb
      go_wp2
      go_roundw
      case rel => exact ⟨k + 1, by omega, by go_num, P0.out, P3.out, PA.out, PB.out⟩
      case measure => simp [intOf]; omega
    · have htl : (Tr.lab xs).take k = Tr.lab xs := List.take_of_length_le (by rw [LL.out]; omega)
      rw [htl] at Ho ⊢
      clear htl
      go_wp2
      go_ret
      exact ⟨Ao, co, rfl, Ho.out, HB.out⟩

end Go.Proofs.Ytajplmopdipbnaa

/- Contracts (RankS). -/
namespace Go.Proofs.Ytajplmopdipbnaa
open Go.RowKit
set_option linter.unusedVariables false

theorem made_ints (z n : Nat) : (madeCells (Value.int .i64 0).cells (n * 1)).toList = ints (List.replicate n 0) := by
  unfold madeCells ints
  refine List.ext_getElem (by simp) fun k h1 h2 => ?_
  simp at h1 h2 ⊢
  show (#[Value.int .i64 0] : Array Value)[k % 1]! = _
  rw [Nat.mod_one]
  rfl
set_option maxHeartbeats 1600000 in
set_option maxRecDepth 100000 in
theorem specRankOf_any (A : Option Addr) (n c : Nat) (xs : Tr) (w : World) (h : NdIn w w.heap.size A n xs) (hn : n ≤ 1048576) :
    Calls Try.prog 64 #[.slice A n c] w (OwnInts 3 (Zs.up (Tr.rks xs)) w) := by
  have H := Lib.hid h
  clear h
  have HB := Lib.hid (Below.refl w.heap.size w)
  obtain ⟨i0, hi, hz0, hz1, hz2⟩ := info_parts info_intP
  have Hi := Lib.hid hi
  clear hi
  have hml := Tr.post_len_le xs
  rw [H.out.1] at hml
  obtain ⟨m, hm⟩ : ∃ m, m = (Tr.post xs).length := ⟨_, rfl⟩
  have HM := Lib.hid hm
  rw [← hm] at hml
  have HS := Lib.hid (fun i k => Tr.rkTo_set (xs := xs) (i := i) (k := k))
  have HP := Lib.hid (fun k => Tr.post_at (xs := xs) (k := k))
  clear hm
  go_enter Try.func64, Try.ntmps64
  go_wp2_with fail
  refine (specPostOrder_any _ _ _ xs _ H.out hn).mono ?_
  rintro e w1 ⟨A1, c1, rfl, ho, hb⟩
  have hsx := HB.out.size
  have HB := Lib.hid (HB.out.trans (hb.mono hsx))
  have I1 := Lib.hid (IntIn.of_own ho)
  clear ho hsx
  clear hb
  rw [Zs.up_length, ← HM.out] at I1 ⊢
  have hsx := HB.out.size
  go_wp2_with (at_make; go_loud (refine wpList_make_full _ rfl _ _ 25 rfl w1.heap.size 3 i0 (.int .i64 0) 1 Try.underlying25 Hi.out hz0 hz1 _ _ _ _ m rfl rfl rfl rfl (by rw [hz2]; omega) (by unfold maxLen; omega) (Nat.le_refl _) ?_); intro w2 hown2 hgrow2)
  have hb2 : Below w1.heap.size w1 w2 := (Below.refl _ w1).grown hgrow2 (Nat.le_refl _) (fun _ h => by cases h)
  rw [made_ints 0, show List.replicate m (0 : Int) = Zs.up (Tr.rkTo xs 0) by rw [Tr.rkTo_zero, ← HM.out]; simp [Zs.up]] at hown2
  have HO2 := Lib.hid hown2
  have HB2 := Lib.hid hb2
  clear hown2 hgrow2 hb2
  go_wp2
  go_loopw [5] (fun kv wr => ∃ k : Nat, k ≤ m ∧ kv = .int .i64 k ∧ wr.ownsRow w1.heap.size 3 1 (.slice (some ⟨w1.heap.size, 0, none⟩) m m) m (ints (Zs.up (Tr.rkTo xs k))) ∧ Below w1.heap.size w1 wr) (fun k _ => m - (intOf k).toNat)
  case atStart => exact ⟨0, Nat.zero_le _, rfl, HO2.out, HB2.out⟩
  case round =>
    clear HO2 HB2
    obtain ⟨k, hk, rfl, hown, hB⟩ := hrel
    have Ho := Lib.hid hown
    have HB2 := Lib.hid hB
    clear hown hB
    by_cases hlt : k < m
    · obtain ⟨i, p1, p2, p3, p4, p5⟩ := HP.out k (by rw [← HM.out]; exact hlt)
      rw [← HM.out] at p1
      have hset := HS.out i k (by rw [← HM.out]; exact p1) p3
      obtain ⟨ad, rfl, _, c1⟩ := (I1.out.below HB2.out).at_ hlt
      have hz : Zs.at (Zs.up (Tr.post xs)) k = (i : Int) := by simp [Zs.at, Zs.up, List.getD_eq_getElem?_getD, p2]
      rw [hz] at c1
      have c0 := own_int Ho.out (k := i) (by rw [Zs.up_length, Tr.rkTo_length, ← HM.out]; exact p1)
      have f0 := Ho.out.frozenAt i
      have b0 : (0 : Int) ≤ (i : Int) := by omega
      have b1 : (i : Int) < (m : Int) := by omega
      have b2 : (0 : Int) ≤ (k : Int) := by omega
      have b3 : (k : Int) < (m : Int) := by omega
      have Hset := Lib.hid hset
      clear p2 p3 p4 p5 hset hz
      go_wp2
      go_roundw
      case rel =>
        refine ⟨k + 1, by omega, by go_num, ?_, HB2.out.setCell (Nat.le_refl _) _⟩
        have := (Ho.out.stored i (.int .i64 (k : Int))).1
        rw [ints_set] at this
        rw [← Hset.out, Zs.up, List.map_set]
        exact this
      case measure => simp [intOf]; omega
    · obtain rfl : k = m := by omega
      have Hall := Lib.hid (show Tr.rkTo xs k = Tr.rks xs by rw [HM.out]; exact Tr.rkTo_all xs)
      rw [Hall.out] at Ho
      have Hl := Lib.hid (show (Zs.up (Tr.rks xs)).length = k by rw [Zs.up_length, Tr.rks_length]; exact HM.out.symm)
      go_wp2
      go_ret
      exact ⟨some ⟨w1.heap.size, 0, none⟩, k, by rw [Hl.out]; rfl, by rw [Hl.out]; exact own_base Ho.out hsx, HB.out.trans (HB2.out.mono hsx)⟩

end Go.Proofs.Ytajplmopdipbnaa

/- Contracts (LeafS). -/
namespace Go.Proofs.Ytajplmopdipbnaa
open Go.RowKit
set_option linter.unusedVariables false

theorem apart_of {w : World} {base size n m size' : Nat} {e e' : TypeId} {a b : Value} {xs ys : List Value} {w2 : World} (ha : w2.ownsRow base e size a n xs) (hb : w.ownsRow 0 e' size' b m ys) (h : w.heap.size ≤ base) : Apart a b := by
  rcases hq : a.ownBlock with _ | g
  · exact .inl hq
  · refine .inr ?_
    rw [hq]
    intro e
    have h1 := (ha.lt g hq).1
    have h2 := (hb.lt g e.symm).2
    omega
theorem Tr.rks_at {xs : Tr} {i : Nat} (hi : i < (Tr.post xs).length) : Zs.at (Zs.up (Tr.rks xs)) i = (Tr.rk xs i : Int) := by
  simp [Zs.at, Zs.up, Tr.rks, List.getD_eq_getElem?_getD, hi]
theorem Tr.post_z {xs : Tr} {k i : Nat} (h : (Tr.post xs)[k]? = some i) : Zs.at (Zs.up (Tr.post xs)) k = (i : Int) := by simp [Zs.at, Zs.up, List.getD_eq_getElem?_getD, h]
theorem Tr.lfs_z {xs : Tr} {k i : Nat} (h : (Tr.post xs)[k]? = some i) : Zs.up ((Tr.lfs xs).take (k + 1)) = Zs.up ((Tr.lfs xs).take k) ++ [((i - Tr.dn xs i : Nat) : Int)] := by
  have hk := (List.getElem?_eq_some_iff.1 h).1
  have e : (Tr.lfs xs)[k]? = some (i - Tr.dn xs i) := by simp [Tr.lfs, h]
  rw [List.take_add_one, e, Zs.up_append]
  rfl
theorem endOf_at (A : Option Addr) (n c : Nat) (xs : Tr) (j : Nat) (hok : Tr.ok xs = true) (hj : j < xs.length) (hn : n ≤ 1048576) (w : World) (h : NdIn w w.heap.size A n xs) :
    Calls Try.prog 65 #[.slice A n c, .int .i64 j] w fun e w' => e = .returned (.int .i64 ((Tr.endN xs j : Nat) : Int)) ∧ Drawn w w' := by
  have := specEndOf_any A n c xs j w h hn
  rw [Tr.endOf_yes (Tr.has_iff.2 ⟨hok, by omega, by omega⟩)] at this
  exact this
set_option maxHeartbeats 3200000 in
set_option maxRecDepth 100000 in
theorem specLeftLeaf_any (A : Option Addr) (n c : Nat) (xs : Tr) (w : World) (h : NdIn w w.heap.size A n xs) (hn : n ≤ 1048576) :
    Calls Try.prog 25 #[.slice A n c] w (OwnInts 3 (Zs.up (Tr.lfs xs)) w) := by
  have H := Lib.hid h
  clear h
  have HL := Lib.hid H.out.1
  obtain ⟨i0, hi, hz0, hz1, hz2⟩ := info_parts info_intP
  have Hi := Lib.hid hi
  clear hi
  have hml := Tr.post_len_le xs
  rw [H.out.1] at hml
  obtain ⟨m, hm⟩ : ∃ m, m = (Tr.post xs).length := ⟨_, rfl⟩
  have HM := Lib.hid hm
  rw [← hm] at hml
  have HP := Lib.hid (fun k => Tr.post_at (xs := xs) (k := k))
  clear hm
  have Ho := Lib.hid (World.ownsRow_lit (base := w.heap.size) (e := 3) (size := 1) w #[] 0 (Nat.le_refl _) (Nat.zero_le _) rfl)
  have HB := Lib.hid ((Below.refl w.heap.size w).alloc (Nat.le_refl _) (.cells #[] 3))
  have H1 := Lib.hid ((H.out.below HB.out).more HB.out.size)
  go_enter Try.func25, Try.ntmps25
  have hpre := HB.out.size
  go_wp2_with fail
  refine (specPostOrder_any _ _ _ xs _ H1.out hn).mono ?_
  rintro e w1 ⟨A1, c1, rfl, ho, hb⟩
  have HB := Lib.hid (HB.out.trans (hb.mono hpre))
  have O1 := Lib.hid ho
  rw [Zs.up_length, ← HM.out] at O1 ⊢
  have P1 := Lib.hid (apart_of O1.out (own_base Ho.out (Nat.zero_le _)) (Nat.le_refl _))
  have Ho := Lib.hid (own_below Ho.out hb)
  clear hb ho
  have H1 := Lib.hid ((H.out.below HB.out).more HB.out.size)
  have hpre := HB.out.size
  go_wp2_with fail
  refine (specRankOf_any _ _ _ xs _ H1.out hn).mono ?_
  rintro e w2 ⟨A2, c2, rfl, ho, hb⟩
  have HB := Lib.hid (HB.out.trans (hb.mono hpre))
  have O2 := Lib.hid ho
  rw [Zs.up_length, Tr.rks_length, ← HM.out] at O2 ⊢
  have P2 := Lib.hid (apart_of O2.out (own_base Ho.out (Nat.zero_le _)) (Nat.le_refl _))
  have Ho := Lib.hid (own_below Ho.out hb)
  have O1 := Lib.hid (own_base (own_below O1.out hb) (show w.heap.size ≤ _ by simp))
  have O2 := Lib.hid (own_base O2.out hpre)
  have hsx := HB.out.size
  clear hb ho
  go_wp2
  go_loopw [6, 3] (fun kv ov wr => ∃ k : Nat, k ≤ m ∧ kv = .int .i64 k ∧ wr.ownsRow w.heap.size 3 1 ov (Zs.up ((Tr.lfs xs).take k)).length (ints (Zs.up ((Tr.lfs xs).take k))) ∧ wr.ownsRow w.heap.size 3 1 (.slice A1 m c1) m (ints (Zs.up (Tr.post xs))) ∧ wr.ownsRow w.heap.size 3 1 (.slice A2 m c2) m (ints (Zs.up (Tr.rks xs))) ∧ Apart (.slice A1 m c1) ov ∧ Apart (.slice A2 m c2) ov ∧ Below w.heap.size w wr) (fun k _ _ => m - (intOf k).toNat)
  case atStart => exact ⟨0, Nat.zero_le _, rfl, Ho.out, O1.out, O2.out, P1.out, P2.out, HB.out⟩
  case round =>
    clear Ho HB O1 O2 P1 P2 hsx hpre
    obtain ⟨k, hk, rfl, hown, ho1, ho2, hp1, hp2, hB⟩ := hrel
    have Ho := Lib.hid hown
    have O1 := Lib.hid ho1
    have O2 := Lib.hid ho2
    have P1 := Lib.hid hp1
    have P2 := Lib.hid hp2
    have HB := Lib.hid hB
    clear hown ho1 ho2 hp1 hp2 hB
    obtain ⟨Ao, co, rfl⟩ := own_slice Ho.out
    by_cases hlt : k < m
    · obtain ⟨j, p1, p2, p3, p4, p5⟩ := HP.out k (by rw [← HM.out]; exact hlt)
      rw [← HM.out] at p1 p5
      obtain ⟨g1, rfl, _, _⟩ := own_form O1.out (by omega)
      obtain ⟨g2, rfl, _, _⟩ := own_form O2.out (by omega)
      have c1' := own_int O1.out (k := k) (by rw [Zs.up_length, ← HM.out]; exact hlt)
      rw [Tr.post_z p2] at c1'
      have Hz := Lib.hid (Tr.lfs_z p2)
      have Hch := Lib.hid (fun i => Tr.chain_end p4 (i0 := j) (i := i))
      have hj : j < xs.length := by omega
      have HE := Lib.hid (fun w' h' => endOf_at A n c xs j p4 hj hn w' h')
      have hE := Tr.endN_dn p4 hj
      have hE1 := hE.1
      have hE2 := hE.2.1
      rw [← p5] at hE2
      have Hdn := Lib.hid (fun i (hi : i < xs.length) => Tr.dn_eq p4 hi)
      have Hbd := Lib.hid (fun i (hi : i < xs.length) => (Tr.ok_at p4 hi).2.1)
      have hxn : n = m := by rw [p5]; exact HL.out.symm
      have k0 : (0 : Int) ≤ (k : Int) := by omega
      have k1 : (k : Int) < (m : Int) := by omega
      subst hxn
      have hml2 : n ≤ 24 := by have := (Tr.ok_iff.1 p4).2; omega
      clear hE p2 p3 p4 p5 hj
      go_wp2
      go_loopw [7] (fun iv wr' => ∃ i : Nat, j ≤ i ∧ i < Tr.endN xs j ∧ iv = .int .i64 i ∧ Tr.dn xs i = Tr.dn xs j + (i - j) ∧ Drawn wr wr') (fun i _ => n - (intOf i).toNat)
      case atStart => exact ⟨j, Nat.le_refl _, hE1, rfl, by omega, Drawn.refl _⟩
      case round =>
        obtain ⟨i, hi1, hi2, rfl, hid, hD⟩ := hrel
        have HD := Lib.hid hD
        have Hid := Lib.hid hid
        have c1'' : wr.cell? ⟨g1, k, none⟩ = some (.int .i64 (j : Int)) := by obtain ⟨q, rfl⟩ := hD; exact c1'
        have H2 := Lib.hid (((H.out.below HB.out).more HB.out.size).to_drawn hD)
        obtain ⟨ad, rfl, _, hl, hd⟩ := H2.out.at_ (k := i) (by omega)
        have a1 : IntKind.i64.wrap ((i : Int) + 1) = (i : Int) + 1 := Kit.w64 (by omega) (by omega)
        have hbi := Hbd.out i (by rw [HL.out]; omega)
        have a5 : IntKind.i64.wrap (Tr.d xs i + 1) = Tr.d xs i + 1 := Kit.w64 (by omega) (by omega)
        have i0' : (0 : Int) ≤ (i : Int) := by omega
        have i1' : (i : Int) < (n : Int) := by omega
        clear hD hid
        by_cases g1' : i + 1 < Tr.endN xs j
        · have e1 : decide ((i : Int) + 1 < ((Tr.endN xs j : Nat) : Int)) = true := by simp; omega
          have e1n : decide (i + 1 < Tr.endN xs j) = true := by simpa using g1'
          obtain ⟨hl', hd'⟩ := H2.out.here (k := i + 1) (by omega)
          have a2 : ((i : Int) + 1).toNat = i + 1 := by omega
          have a3 : (0 : Int) ≤ (i : Int) + 1 := by omega
          have a4 : (i : Int) + 1 < (n : Int) := by omega
          by_cases g2' : Tr.d xs (i + 1) = Tr.d xs i + 1
          · have e2 : (Tr.d xs (i + 1) == Tr.d xs i + 1) = true := by simpa using g2'
            have hd3 := Hdn.out i (by rw [HL.out]; omega)
            have hd4 := Hdn.out (i + 1) (by rw [HL.out]; omega)
            have Hn := Lib.hid (show Tr.dn xs (i + 1) = Tr.dn xs j + (i + 1 - j) by have := Hid.out; omega)
            clear hd3 hd4 g2'
            go_wp2
            go_quiet (first | (go_at_call 65; exact quiet_drawn (HE.out _ (H2.out.drewN _))))
            go_wp2
            go_roundw
            case rel => exact ⟨i + 1, by omega, g1', by go_num, Hn.out, HD.out.drewN _⟩
            case measure => simp [intOf]; omega
          · have e2 : (Tr.d xs (i + 1) == Tr.d xs i + 1) = false := by simpa using g2'
            have Hr := Lib.hid (Hch.out i hi1 hi2 (by rw [HL.out]; omega) Hid.out (fun q => g2' q.2))
            clear g2'
            go_wp2
            go_quiet (first | (go_at_call 65; exact quiet_drawn (HE.out _ (H2.out.drewN _))))
            have HDq := Lib.hid (HD.out.drewN nq)
            have Ho := Lib.hid (own_drawn Ho.out HDq.out)
            have O1 := Lib.hid (own_drawn O1.out HDq.out)
            have O2 := Lib.hid (own_drawn O2.out HDq.out)
            have HB := Lib.hid (Drawn.below HB.out HDq.out)
            have c2' := own_int O2.out (k := i) (by rw [Zs.up_length, Tr.rks_length, ← HM.out]; omega)
            rw [Tr.rks_at (by rw [← HM.out]; omega), Hr.out] at c2'
            have hsx := HB.out.size
            have hlt2 : ((Tr.lfs xs).take k).length ≤ k := List.length_take_le _ _
            go_wp2_with (at_builtin; go_loud (refine append_int_at (World.drewN wr nq) rfl _ _ 25 rfl w.heap.size 3 i0 Try.underlying25 Hi.out hz0 hz1 hz2 (.slice Ao (Zs.up ((Tr.lfs xs).take k)).length co) (Zs.up ((Tr.lfs xs).take k)).length (Zs.up ((Tr.lfs xs).take k)) rfl Ho.out rfl ((j - Tr.dn xs j : Nat) : Int) rfl (by rw [Zs.up_length]; omega) hsx ?_); intro v' w3 hown hgrow hwhere)
            have hb3 := Kit.below_own HB.out Ho.out hgrow
            have O1' := Lib.hid (World.ownsRow.kept (World.ownsRow.alloc O1.out _) hgrow P1.out)
            have O2' := Lib.hid (World.ownsRow.kept (World.ownsRow.alloc O2.out _) hgrow P2.out)
            have P1' := Lib.hid (P1.out.grew (World.ownsRow.alloc O1.out (.cells #[.int .i64 ((j - Tr.dn xs j : Nat) : Int)] 3)) (by simpa using hwhere))
            have P2' := Lib.hid (P2.out.grew (World.ownsRow.alloc O2.out (.cells #[.int .i64 ((j - Tr.dn xs j : Nat) : Int)] 3)) (by simpa using hwhere))
            rw [← Hz.out] at hown
            go_roundw
            case rel => exact ⟨k + 1, by omega, by go_num, hown, O1'.out, O2'.out, P1'.out, P2'.out, hb3⟩
            case measure => simp [intOf]; omega
        · have e1 : decide ((i : Int) + 1 < ((Tr.endN xs j : Nat) : Int)) = false := by simp; omega
          have e1n : decide (i + 1 < Tr.endN xs j) = false := by simpa using g1'
          have Hr := Lib.hid (Hch.out i hi1 hi2 (by rw [HL.out]; omega) Hid.out (fun q => g1' q.1))
          go_wp2
          go_quiet (first | (go_at_call 65; exact quiet_drawn (HE.out _ (H2.out.drewN _))))
          have HDq := Lib.hid (HD.out.drewN nq)
          have Ho := Lib.hid (own_drawn Ho.out HDq.out)
          have O1 := Lib.hid (own_drawn O1.out HDq.out)
          have O2 := Lib.hid (own_drawn O2.out HDq.out)
          have HB := Lib.hid (Drawn.below HB.out HDq.out)
          have c2' := own_int O2.out (k := i) (by rw [Zs.up_length, Tr.rks_length, ← HM.out]; omega)
          rw [Tr.rks_at (by rw [← HM.out]; omega), Hr.out] at c2'
          have hsx := HB.out.size
          have hlt2 : ((Tr.lfs xs).take k).length ≤ k := List.length_take_le _ _
          go_wp2_with (at_builtin; go_loud (refine append_int_at (World.drewN wr nq) rfl _ _ 25 rfl w.heap.size 3 i0 Try.underlying25 Hi.out hz0 hz1 hz2 (.slice Ao (Zs.up ((Tr.lfs xs).take k)).length co) (Zs.up ((Tr.lfs xs).take k)).length (Zs.up ((Tr.lfs xs).take k)) rfl Ho.out rfl ((j - Tr.dn xs j : Nat) : Int) rfl (by rw [Zs.up_length]; omega) hsx ?_); intro v' w3 hown hgrow hwhere)
          have hb3 := Kit.below_own HB.out Ho.out hgrow
          have O1' := Lib.hid (World.ownsRow.kept (World.ownsRow.alloc O1.out _) hgrow P1.out)
          have O2' := Lib.hid (World.ownsRow.kept (World.ownsRow.alloc O2.out _) hgrow P2.out)
          have P1' := Lib.hid (P1.out.grew (World.ownsRow.alloc O1.out (.cells #[.int .i64 ((j - Tr.dn xs j : Nat) : Int)] 3)) (by simpa using hwhere))
          have P2' := Lib.hid (P2.out.grew (World.ownsRow.alloc O2.out (.cells #[.int .i64 ((j - Tr.dn xs j : Nat) : Int)] 3)) (by simpa using hwhere))
          rw [← Hz.out] at hown
          go_roundw
          case rel => exact ⟨k + 1, by omega, by go_num, hown, O1'.out, O2'.out, P1'.out, P2'.out, hb3⟩
          case measure => simp [intOf]; omega
    · obtain rfl : k = m := by omega
      have Hl := Lib.hid (show (Tr.lfs xs).take k = Tr.lfs xs by rw [List.take_of_length_le (by rw [Tr.lfs_length]; exact Nat.le_of_eq HM.out.symm)])
      go_wp2
      go_ret
      exact ⟨Ao, co, by rw [show (Zs.up (Tr.lfs xs)).length = (Zs.up ((Tr.lfs xs).take k)).length by rw [Hl.out]]; rfl, by have := Ho.out; rw [Hl.out] at this; exact this, HB.out⟩

end Go.Proofs.Ytajplmopdipbnaa

/- Contracts (KeyS). -/
namespace Go.Proofs.Ytajplmopdipbnaa
open Go.RowKit
set_option linter.unusedVariables false

theorem Tr.lfs_at {xs : Tr} {k : Nat} (hk : k < (Tr.lfs xs).length) : Zs.at (Zs.up (Tr.lfs xs)) k = ((Tr.lfs xs).getD k 0 : Nat) := by
  simp [Zs.at, Zs.up, List.getD_eq_getElem?_getD, hk]
set_option maxHeartbeats 3200000 in
set_option maxRecDepth 100000 in
theorem specKeyRoots_any (A : Option Addr) (n c : Nat) (xs : Tr) (w : World) (h : NdIn w w.heap.size A n xs) (hn : n ≤ 1048576) :
    Calls Try.prog 92 #[.slice A n c] w (OwnInts 3 (Zs.up (Tr.krs xs)) w) := by
  have H := Lib.hid h
  clear h
  obtain ⟨i0, hi, hz0, hz1, hz2⟩ := info_parts info_intP
  have Hi := Lib.hid hi
  clear hi
  have hml := Tr.post_len_le xs
  rw [H.out.1, ← Tr.lfs_length] at hml
  obtain ⟨m, hm⟩ : ∃ m, m = (Tr.lfs xs).length := ⟨_, rfl⟩
  have HM := Lib.hid hm
  rw [← hm] at hml
  obtain ⟨F, hF⟩ : ∃ F, F = Tr.lfs xs := ⟨_, rfl⟩
  have HF := Lib.hid hF
  have HAt := Lib.hid (fun k => Tr.lfs_at (xs := xs) (k := k))
  have HS := Lib.hid (fun k => Tr.krTo_succ xs k)
  have HLe := Lib.hid (fun k => Tr.krTo_le xs k)
  have HK := Lib.hid (show Tr.krs xs = Tr.krTo xs m by rw [hm]; rfl)
  clear hm hF
  have Ho := Lib.hid (World.ownsRow_lit (base := w.heap.size) (e := 3) (size := 1) w #[] 0 (Nat.le_refl _) (Nat.zero_le _) rfl)
  have HB := Lib.hid ((Below.refl w.heap.size w).alloc (Nat.le_refl _) (.cells #[] 3))
  have H1 := Lib.hid ((H.out.below HB.out).more HB.out.size)
  go_enter Try.func92, Try.ntmps92
  have hpre := HB.out.size
  go_wp2_with fail
  refine (specLeftLeaf_any _ _ _ xs _ H1.out hn).mono ?_
  rintro e w1 ⟨A1, c1, rfl, ho, hb⟩
  have HB := Lib.hid (HB.out.trans (hb.mono hpre))
  have O1 := Lib.hid ho
  rw [Zs.up_length, ← HM.out] at O1 ⊢
  have P1 := Lib.hid (apart_of O1.out (own_base Ho.out (Nat.zero_le _)) (Nat.le_refl _))
  have Ho := Lib.hid (own_below Ho.out hb)
  have O1 := Lib.hid (own_base O1.out (show w.heap.size ≤ _ by simp))
  clear hb ho
  go_wp2
  go_loopw [5, 3] (fun kv ov wr => ∃ k : Nat, k ≤ m ∧ kv = .int .i64 k ∧ wr.ownsRow w.heap.size 3 1 ov (Zs.up (Tr.krTo xs k)).length (ints (Zs.up (Tr.krTo xs k))) ∧ wr.ownsRow w.heap.size 3 1 (.slice A1 m c1) m (ints (Zs.up (Tr.lfs xs))) ∧ Apart (.slice A1 m c1) ov ∧ Below w.heap.size w wr) (fun k _ _ => m - (intOf k).toNat)
  case atStart => exact ⟨0, Nat.zero_le _, rfl, Ho.out, O1.out, P1.out, HB.out⟩
  case round =>
    clear Ho HB O1 P1 hpre
    obtain ⟨k, hk, rfl, hown, ho1, hp1, hB⟩ := hrel
    have Ho := Lib.hid hown
    have O1 := Lib.hid ho1
    have P1 := Lib.hid hp1
    have HB := Lib.hid hB
    clear hown ho1 hp1 hB
    obtain ⟨Ao, co, rfl⟩ := own_slice Ho.out
    by_cases hlt : k < m
    · obtain ⟨g1, rfl, _, _⟩ := own_form O1.out (by omega)
      have k0 : (0 : Int) ≤ (k : Int) := by omega
      have k1 : (k : Int) < (m : Int) := by omega
      have a1 : IntKind.i64.wrap ((k : Int) + 1) = (k : Int) + 1 := Kit.w64 (by omega) (by omega)
      obtain ⟨x, hx⟩ : ∃ x : Int, x = ((F.getD k 0 : Nat) : Int) := ⟨_, rfl⟩
      have hck := own_int O1.out (k := k) (by rw [Zs.up_length, ← HM.out]; exact hlt)
      rw [HAt.out k (by rw [← HM.out]; exact hlt), ← HF.out, ← hx] at hck
      have Hx := Lib.hid hx
      clear hx
      go_wp2
      go_loopw [6, 7] (fun lv jv wr' => ∃ j : Nat, k < j ∧ j ≤ m ∧ lv = .bool (Zs.lastTo F k j) ∧ jv = .int .i64 j ∧ Drawn wr wr') (fun _ j _ => m - (intOf j).toNat)
      case atStart => exact ⟨k + 1, by omega, by omega, by rw [Zs.lastTo_start], by go_num, Drawn.refl _⟩
      case round =>
        obtain ⟨j, hj1, hj2, rfl, rfl, hD⟩ := hrel
        have HD := Lib.hid hD
        have O1 := Lib.hid (own_drawn O1.out hD)
        have Ho := Lib.hid (own_drawn Ho.out hD)
        have HB := Lib.hid (Drawn.below HB.out hD)
        have hck' : wr.cell? ⟨g1, k, none⟩ = some (.int .i64 x) := by obtain ⟨q, rfl⟩ := hD; exact hck
        clear hD
        by_cases hjm : j < m
        · have j0 : (0 : Int) ≤ (j : Int) := by omega
          have j1 : (j : Int) < (m : Int) := by omega
          have a2 : IntKind.i64.wrap ((j : Int) + 1) = (j : Int) + 1 := Kit.w64 (by omega) (by omega)
          obtain ⟨y, hy⟩ : ∃ y : Int, y = ((F.getD j 0 : Nat) : Int) := ⟨_, rfl⟩
          have hcj := own_int O1.out (k := j) (by rw [Zs.up_length, ← HM.out]; exact hjm)
          rw [HAt.out j (by rw [← HM.out]; exact hjm), ← HF.out, ← hy] at hcj
          have hs := Zs.lastTo_succ F k j hj1
          have hne : decide (F.getD j 0 ≠ F.getD k 0) = (y != x) := by
            rw [hy, Hx.out, Bool.eq_iff_iff]
            simp
            omega
          rw [hne] at hs
          have Hs := Lib.hid hs
          clear hs hne hy
          cases hb0 : Zs.lastTo F k j with
          | false =>
            rw [hb0] at Hs
            go_wp2
            go_quiet (fail)
            go_wp2
            go_roundw
            case rel => exact ⟨j + 1, by omega, by omega, by rw [Hs.out]; rfl, by go_num, HD.out.drewN _⟩
            case measure => simp [intOf]; omega
          | true =>
            rw [hb0] at Hs
            cases hq : (y != x) with
            | false =>
              rw [hq] at Hs
              go_wp2
              go_quiet (fail)
              go_wp2
              go_roundw
              case rel => exact ⟨j + 1, by omega, by omega, by rw [Hs.out]; rfl, by go_num, HD.out.drewN _⟩
              case measure => simp [intOf]; omega
            | true =>
              rw [hq] at Hs
              go_wp2
              go_quiet (fail)
              go_wp2
              go_roundw
              case rel => exact ⟨j + 1, by omega, by omega, by rw [Hs.out]; rfl, by go_num, HD.out.drewN _⟩
              case measure => simp [intOf]; omega
        · obtain rfl : j = m := by omega
          have hs := HS.out k
          rw [← HF.out, HF.out, ← HM.out, ← HF.out] at hs
          have hle := HLe.out k
          have hsx := HB.out.size
          cases hb0 : Zs.lastTo F k j with
          | false =>
            rw [hb0, if_neg (by simp)] at hs
            have Hs := Lib.hid hs
            clear hs
            go_wp2
            go_roundw
            case rel => exact ⟨k + 1, by omega, by go_num, by rw [Hs.out]; exact Ho.out, O1.out, P1.out, HB.out⟩
            case measure => simp [intOf]; omega
          | true =>
            rw [hb0, if_pos rfl] at hs
            have Hs := Lib.hid hs
            clear hs
            go_wp2_with (at_builtin; go_loud (refine append_int_at wr rfl _ _ 25 rfl w.heap.size 3 i0 Try.underlying25 Hi.out hz0 hz1 hz2 (.slice Ao (Zs.up (Tr.krTo xs k)).length co) (Zs.up (Tr.krTo xs k)).length (Zs.up (Tr.krTo xs k)) rfl Ho.out rfl (k : Int) rfl (by rw [Zs.up_length]; omega) hsx ?_); intro v' w3 hown hgrow hwhere)
            have hb3 := Kit.below_own HB.out Ho.out hgrow
            have O1' := Lib.hid (World.ownsRow.kept (World.ownsRow.alloc O1.out _) hgrow P1.out)
            have P1' := Lib.hid (P1.out.grew (World.ownsRow.alloc O1.out (.cells #[.int .i64 (k : Int)] 3)) (by simpa using hwhere))
            rw [show Zs.up (Tr.krTo xs k) ++ [(k : Int)] = Zs.up (Tr.krTo xs (k + 1)) by rw [Hs.out, Zs.up_append]; rfl] at hown
            go_roundw
            case rel => exact ⟨k + 1, by omega, by go_num, hown, O1'.out, P1'.out, hb3⟩
            case measure => simp [intOf]; omega
    · obtain rfl : k = m := by omega
      go_wp2
      go_ret
      exact ⟨Ao, co, by rw [show (Zs.up (Tr.krs xs)).length = (Zs.up (Tr.krTo xs k)).length by rw [HK.out]]; rfl, by rw [HK.out]; exact Ho.out, HB.out⟩

end Go.Proofs.Ytajplmopdipbnaa

/- Contracts (LabOkI). -/
namespace Go.Proofs.Ytajplmopdipbnaa
open Go.RowKit
set_option linter.unusedVariables false

set_option maxHeartbeats 400000 in
theorem implLabelOk_any (n : Int) (w : World) :
    Calls Try.prog 77 #[.int .i64 n] w fun e w' => e = .returned (.bool (Lab.ok n)) ∧ w = w' := by
  go_enter Try.func77, Try.ntmps77
  go_wp2
  all_goals go_ret
  all_goals exact ⟨Kit.ret_bool (by unfold Lab.ok; first | (rw [decide_eq_decide]; omega) | (symm; rw [decide_eq_false_iff_not]; omega)), rfl⟩

end Go.Proofs.Ytajplmopdipbnaa

/- Plain mathematics of chapter 1 (bytes of a number), without the program. -/
namespace Go.Proofs.Ytajplmopdipbnaa.Num

/-- n divided k times by 256 -/
def dn (n : Nat) : Nat → Nat
  | 0 => n
  | k + 1 => dn n k / 256

/-- the k low bytes of n, the most significant first -/
def fix (n : Nat) : Nat → List UInt8
  | 0 => []
  | k + 1 => UInt8.ofNat (dn n k % 256) :: fix n k

theorem fix_length (n k : Nat) : (fix n k).length = k := by
  induction k with
  | zero => rfl
  | succ k ih => simp [fix, ih]

theorem dn_pow (n k : Nat) : dn n k = n / 2 ^ (8 * k) := by
  induction k with
  | zero => simp [dn]
  | succ k ih =>
    rw [dn, ih, Nat.div_div_eq_div_mul]
    congr 1
    rw [Nat.mul_add, Nat.pow_add]

theorem dn_le (n k : Nat) : dn n k ≤ n := by
  rw [dn_pow]; exact Nat.div_le_self _ _

/-- what Fixed gives -/
def fixR (n wd : Int) : List UInt8 :=
  if 1 ≤ wd ∧ wd ≤ 7 ∧ 0 ≤ n ∧ dn n.toNat wd.toNat = 0 then fix n.toNat wd.toNat else []

theorem fixR_no {n wd : Int} (h : n < 0 ∨ wd < 1 ∨ 7 < wd) : fixR n wd = [] := by
  unfold fixR; rw [if_neg (by omega)]
theorem fixR_big {m : Nat} {wd : Int} (h : dn m wd.toNat ≠ 0) : fixR m wd = [] := by
  unfold fixR; rw [if_neg (by simp; omega)]
theorem fixR_yes {m : Nat} {wd : Int} (h1 : 1 ≤ wd) (h7 : wd ≤ 7) (h : dn m wd.toNat = 0) : fixR m wd = fix m wd.toNat := by
  unfold fixR; rw [if_pos (by simp; omega)]; simp

/-- the row of bytes when k of its d places are filled from the right -/
def fixCells (m d k : Nat) : List Value := List.replicate (d - k) (.int .u8 0) ++ (fix m k).map fun b => .int .u8 b.toNat

theorem made_cells (m d : Nat) : (madeCells (Value.int .u8 0).cells (d * 1)).toList = fixCells m d 0 := by
  rw [show (Value.int .u8 0).cells = #[.int .u8 0] from rfl, toList_madeCells_one]
  simp [fixCells, fix]

theorem fixCells_at (m : Nat) {d k : Nat} (h : k < d) : (fixCells m d k)[d - 1 - k]? = some (.int .u8 0) := by
  unfold fixCells
  rw [List.getElem?_append_left (by simp; omega), List.getElem?_replicate, if_pos (by omega)]

theorem fixCells_set (m : Nat) {d k : Nat} (h : k < d) : (fixCells m d k).set (d - 1 - k) (.int .u8 ((dn m k : Int) % 256)) = fixCells m d (k + 1) := by
  unfold fixCells
  rw [List.set_append_left _ _ (by simp; omega)]
  have e : d - k = (d - (k + 1)) + 1 := by omega
  have e2 : d - 1 - k = d - (k + 1) := by omega
  rw [e, e2, List.replicate_succ']
  rw [List.set_append_right _ _ (by simp)]
  simp [fix]

theorem fixCells_full {w : World} {B e m d : Nat} (h : w.ownsRow B e 1 (.slice (some ⟨B, 0, none⟩) d d) d (fixCells m d d)) :
    ∀ j (hj : j < (fix m d).length), w.cell? ((⟨B, 0, none⟩ : Addr).add j) = some (.int .u8 ((fix m d)[j].toNat : Int)) := by
  intro j hj
  have hj' := hj
  rw [fix_length] at hj'
  have := h.cellAt j (by omega)
  rw [show ((⟨B, 0, none⟩ : Addr).add j) = ⟨B, j, none⟩ from by unfold Addr.add; split <;> simp_all]
  rw [this]
  simp [fixCells, hj]

end Go.Proofs.Ytajplmopdipbnaa.Num

/- Plain mathematics of chapter 1. -/
namespace Go.Proofs.Ytajplmopdipbnaa
open Go.RowKit
set_option linter.unusedVariables false

/-- bytes as a number, the most significant first -/
def Num.rd (l : List UInt8) : Nat := l.foldl (fun n b => n * 256 + b.toNat) 0

theorem Num.rd_snoc (l : List UInt8) (b : UInt8) : Num.rd (l ++ [b]) = Num.rd l * 256 + b.toNat := by
  simp [Num.rd]

theorem Num.rd_lt (l : List UInt8) : Num.rd l < 2 ^ (8 * l.length) := by
  refine Kit.snoc_rec (P := fun l => Num.rd l < 2 ^ (8 * l.length)) (by simp [Num.rd]) (fun l b ih => ?_) l
  rw [Num.rd_snoc]
  have hb : b.toNat < 256 := b.toNat_lt
  simp only [List.length_append, List.length_singleton, Nat.mul_add, Nat.pow_add]
  omega

theorem Num.rd_small (l : List UInt8) (h : l.length ≤ 6) : Num.rd l ≤ 281474976710655 := by
  have h1 := Num.rd_lt l
  have h2 : 2 ^ (8 * l.length) ≤ 2 ^ 48 := Nat.pow_le_pow_right (by omega) (by omega)
  omega

/-- the answer of ReadFixed -/
def Num.readB (s : ByteArray) (wd : Int) : Bool := decide (1 ≤ wd ∧ wd ≤ 7 ∧ wd ≤ s.size)

def Num.readN (s : ByteArray) (wd : Int) : Nat := if Num.readB s wd then Num.rd (s.data.toList.take wd.toNat) else 0

/-- the varint of a number below 128^(f+1) -/
def Num.varF : Nat → Nat → List UInt8
  | 0, q => [UInt8.ofNat q]
  | f + 1, q => if q < 128 then [UInt8.ofNat q] else UInt8.ofNat (128 + q % 128) :: Num.varF f (q / 128)

/-- what Var gives -/
def Num.varR (n : Int) : List UInt8 := if 0 ≤ n ∧ n ≤ 562949953421311 then Num.varF 6 n.toNat else []

theorem Num.varF_small (f q : Nat) (h : q < 128) : Num.varF f q = [UInt8.ofNat q] := by
  cases f <;> simp [Num.varF, h]

theorem Num.varF_big (f q : Nat) (h : 128 ≤ q) : Num.varF (f + 1) q = UInt8.ofNat (128 + q % 128) :: Num.varF f (q / 128) := by
  rw [Num.varF, if_neg (by omega)]

/-- what holds at each round's head: f bytes at most come behind those that are gathered -/
def Num.VarAt (m f q : Nat) (acc : List UInt8) : Prop := acc.length + f = 6 ∧ q < 128 ^ (f + 1) ∧ acc ++ Num.varF f q = Num.varF 6 m

theorem Num.VarAt.start {m : Nat} (h : m ≤ 562949953421311) : Num.VarAt m 6 m [] := ⟨rfl, by omega, by simp⟩

theorem Num.VarAt.len {m f q : Nat} {acc : List UInt8} (h : Num.VarAt m f q acc) : acc.length ≤ 6 := by have := h.1; omega

theorem Num.VarAt.step {m f q : Nat} {acc : List UInt8} (h : Num.VarAt m f q acc) (hq : 128 ≤ q) :
    ∃ f', f = f' + 1 ∧ Num.VarAt m f' (q / 128) (acc ++ [UInt8.ofNat (128 + q % 128)]) := by
  obtain ⟨h1, h2, h3⟩ := h
  cases f with
  | zero => omega
  | succ f =>
    refine ⟨f, rfl, by simp; omega, ?_, ?_⟩
    · rw [Nat.pow_succ] at h2
      exact Nat.div_lt_of_lt_mul (by omega)
    · rw [Num.varF_big f q hq] at h3
      simpa using h3

theorem Num.VarAt.stop {m f q : Nat} {acc : List UInt8} (h : Num.VarAt m f q acc) (hq : q < 128) : acc ++ [UInt8.ofNat q] = Num.varF 6 m := by
  have := h.2.2
  rwa [Num.varF_small f q hq] at this

theorem Num.VarAt.le {m f q : Nat} {acc : List UInt8} (h : Num.VarAt m f q acc) : q ≤ 562949953421311 := by
  obtain ⟨h1, h2, _⟩ := h
  have : 128 ^ (f + 1) ≤ 128 ^ 7 := Nat.pow_le_pow_right (by omega) (by omega)
  omega

/-- the digit of a number below 16 -/
def Num.hexd (k : Nat) : UInt8 := if k < 10 then UInt8.ofNat (48 + k) else UInt8.ofNat (87 + k)

/-- what Hex gives -/
def Num.hexL : List UInt8 → List UInt8
  | [] => []
  | b :: l => Num.hexd (b.toNat / 16) :: Num.hexd (b.toNat % 16) :: Num.hexL l

theorem Num.hexL_snoc (l : List UInt8) (b : UInt8) : Num.hexL (l ++ [b]) = Num.hexL l ++ [Num.hexd (b.toNat / 16), Num.hexd (b.toNat % 16)] := by
  induction l with
  | nil => rfl
  | cons a l ih => simp [Num.hexL, ih]

theorem Num.hexL_length (l : List UInt8) : (Num.hexL l).length = 2 * l.length := by
  induction l with
  | nil => rfl
  | cons a l ih => simp [Num.hexL, ih]; omega

theorem Num.hexIdx : ∀ n : Fin 16, (ByteArray.mk #[48, 49, 50, 51, 52, 53, 54, 55, 56, 57, 97, 98, 99, 100, 101, 102])[n.1]'n.2 = Num.hexd n.1 := by decide

theorem Num.hexAt (n : Nat) (h : n < (ByteArray.mk #[48, 49, 50, 51, 52, 53, 54, 55, 56, 57, 97, 98, 99, 100, 101, 102]).size) : (ByteArray.mk #[48, 49, 50, 51, 52, 53, 54, 55, 56, 57, 97, 98, 99, 100, 101, 102])[n]'h = Num.hexd n :=
  Num.hexIdx ⟨n, h⟩

/-- the value of a digit, or -1 -/
def Num.fromHex (b : UInt8) : Int := if 48 ≤ b.toNat ∧ b.toNat ≤ 57 then b.toNat - 48 else if 97 ≤ b.toNat ∧ b.toNat ≤ 102 then b.toNat - 87 else -1

theorem Num.fromHex_hit {k : Nat} {b : UInt8} (hk : k < 16) (h : Num.hexd k = b) : Num.fromHex b = k := by
  have : ∀ k : Fin 16, Num.fromHex (Num.hexd k.1) = (k.1 : Int) := by decide
  subst h
  exact this ⟨k, hk⟩

theorem Num.fromHex_miss {b : UInt8} (h : ∀ j, j < 16 → Num.hexd j ≠ b) : Num.fromHex b = -1 := by
  have ofn : ∀ n, n = b.toNat → UInt8.ofNat n = b := by intro n hn; subst hn; exact UInt8.ofNat_toNat
  unfold Num.fromHex
  by_cases h1 : 48 ≤ b.toNat ∧ b.toNat ≤ 57
  · exact absurd (by unfold Num.hexd; rw [if_pos (by omega)]; exact ofn _ (by omega)) (h (b.toNat - 48) (by omega))
  · by_cases h2 : 97 ≤ b.toNat ∧ b.toNat ≤ 102
    · exact absurd (by unfold Num.hexd; rw [if_neg (by omega)]; exact ofn _ (by omega)) (h (b.toNat - 87) (by omega))
    · rw [if_neg h1, if_neg h2]

theorem Num.fromHex_bd (b : UInt8) : -1 ≤ Num.fromHex b ∧ Num.fromHex b < 16 := by
  unfold Num.fromHex; split
  · omega
  · split <;> omega

/-- what Unhex gives -/
def Num.unhex : List UInt8 → Option (List UInt8)
  | [] => some []
  | [_] => none
  | a :: b :: l => if Num.fromHex a < 0 ∨ Num.fromHex b < 0 then none else (Num.unhex l).map (UInt8.ofNat (16 * Num.fromHex a + Num.fromHex b).toNat :: ·)

theorem Num.unhex_append : ∀ (n : Nat) (l m : List UInt8), l.length = 2 * n → Num.unhex (l ++ m) = (Num.unhex l).bind fun x => (Num.unhex m).map (x ++ ·)
  | 0, l, m, h => by
    obtain rfl := List.eq_nil_of_length_eq_zero (by simpa using h)
    simp [Num.unhex]
  | n + 1, l, m, h => by
    match l, h with
    | a :: b :: l, h =>
      simp only [List.cons_append, Num.unhex]
      split
      · rfl
      · rw [Num.unhex_append n l m (by simp at h; omega)]
        cases Num.unhex l <;> simp [Function.comp_def]

theorem Num.unhex_odd : ∀ (n : Nat) (l : List UInt8), l.length = 2 * n + 1 → Num.unhex l = none
  | 0, l, h => by
    match l, h with
    | [_], _ => rfl
  | n + 1, l, h => by
    match l, h with
    | a :: b :: l, h =>
      simp only [Num.unhex]
      split
      · rfl
      · rw [Num.unhex_odd n l (by simp at h; omega)]; rfl

theorem Num.take_two (s : ByteArray) (k : Nat) (h : 2 * k + 1 < s.size) : s.data.toList.take (2 * (k + 1)) = s.data.toList.take (2 * k) ++ [s[2 * k], s[2 * k + 1]] := by
  rw [show 2 * (k + 1) = 2 * k + 1 + 1 by omega, Kit.take_snoc s _ h, Kit.take_snoc s _ (by omega)]
  simp

theorem Num.drop_two (s : ByteArray) (k : Nat) (h : 2 * k + 1 < s.size) : s.data.toList = s.data.toList.take (2 * k) ++ s[2 * k] :: s[2 * k + 1] :: s.data.toList.drop (2 * (k + 1)) := by
  have := Num.take_two s k h
  have e := List.take_append_drop (2 * (k + 1)) s.data.toList
  rw [this] at e
  simpa using e.symm

theorem Num.unhex_step {s : ByteArray} {k : Nat} {acc : List UInt8} (h : 2 * k + 1 < s.size) (ha : Num.unhex (s.data.toList.take (2 * k)) = some acc) (h1 : 0 ≤ Num.fromHex s[2 * k]) (h2 : 0 ≤ Num.fromHex s[2 * k + 1]) :
    Num.unhex (s.data.toList.take (2 * (k + 1))) = some (acc ++ [UInt8.ofNat (16 * Num.fromHex s[2 * k] + Num.fromHex s[2 * k + 1]).toNat]) := by
  rw [Num.take_two s k h, Num.unhex_append k _ _ (by simp; omega), ha]
  simp only [Num.unhex]
  rw [if_neg (by omega)]
  rfl

theorem Num.unhex_bad {s : ByteArray} {k : Nat} {acc : List UInt8} (h : 2 * k + 1 < s.size) (ha : Num.unhex (s.data.toList.take (2 * k)) = some acc) (h1 : Num.fromHex s[2 * k] < 0 ∨ Num.fromHex s[2 * k + 1] < 0) :
    Num.unhex s.data.toList = none := by
  rw [Num.drop_two s k h, Num.unhex_append k _ _ (by simp; omega), ha]
  simp only [Num.unhex]
  rw [if_pos h1]
  rfl

theorem Num.idxHex : ∀ n : Fin 256, Lib.indexByte [48, 49, 50, 51, 52, 53, 54, 55, 56, 57, 97, 98, 99, 100, 101, 102] (UInt8.ofNat n.1) = Num.fromHex (UInt8.ofNat n.1) := by decide +kernel

theorem Kit.or16 (x y : Nat) (hx : x < 16) (hy : y < 16) : bits .or .i64 ((x : Int) * 16) (y : Int) = 16 * (x : Int) + y := by
  have h := Kit.i64_or (x * 16) y (by omega) (by omega)
  rw [nat_join 4 (x * 16) y (by omega) (by omega)] at h
  rw [Int.mul_comm 16]
  simpa using h

theorem Kit.or16i {x y : Int} (h0 : 0 ≤ x) (h1 : x < 16) (h2 : 0 ≤ y) (h3 : y < 16) : bits .or .i64 (x * 16) y = 16 * x + y := by
  obtain ⟨a, rfl⟩ := Int.eq_ofNat_of_zero_le h0
  obtain ⟨b, rfl⟩ := Int.eq_ofNat_of_zero_le h2
  exact Kit.or16 a b (by omega) (by omega)

def Num.unhexS (s : ByteArray) : List UInt8 := (Num.unhex s.data.toList).getD []

def Num.unhexB (s : ByteArray) : Bool := (Num.unhex s.data.toList).isSome

/-- the number of seven bits a byte, the least significant first -/
def Num.val7 : List UInt8 → Nat
  | [] => 0
  | b :: l => b.toNat % 128 + 128 * Num.val7 l

theorem Num.val7_lt (l : List UInt8) : Num.val7 l < 128 ^ l.length := by
  induction l with
  | nil => simp [Num.val7]
  | cons b l ih =>
    simp only [Num.val7, List.length_cons, Nat.pow_succ]
    have : b.toNat % 128 < 128 := Nat.mod_lt _ (by decide)
    omega

theorem Num.val7_small (l : List UInt8) (h : l.length ≤ 7) : Num.val7 l ≤ 562949953421311 := by
  have h1 := Num.val7_lt l
  have h2 : 128 ^ l.length ≤ 128 ^ 7 := Nat.pow_le_pow_right (by omega) h
  omega

theorem Num.val7_small6 (l : List UInt8) (h : l.length ≤ 6) : Num.val7 l ≤ 4398046511103 := by
  have h1 := Num.val7_lt l
  have h2 : 128 ^ l.length ≤ 128 ^ 6 := Nat.pow_le_pow_right (by omega) h
  omega

/-- the length up to the first byte below 128, among the first seven -/
def Num.vsz : Nat → List UInt8 → Nat → Nat
  | 0, _, _ => 0
  | _ + 1, [], _ => 0
  | f + 1, b :: l, i => if b.toNat < 128 then i + 1 else Num.vsz f l (i + 1)

def Num.vsize (l : List UInt8) : Nat := Num.vsz 7 l 0

theorem Num.vsz_le (f : Nat) : ∀ (l : List UInt8) (i : Nat), Num.vsz f l i = 0 ∨ (i < Num.vsz f l i ∧ Num.vsz f l i ≤ i + f ∧ Num.vsz f l i ≤ i + l.length) := by
  induction f with
  | zero => intro l i; left; rfl
  | succ f ih =>
    intro l i
    cases l with
    | nil => left; rfl
    | cons b l =>
      simp only [Num.vsz, List.length_cons]
      split
      · right; omega
      · rcases ih l (i + 1) with h | h
        · left; exact h
        · right; omega

theorem Num.vsize_le (l : List UInt8) : Num.vsize l ≤ 7 ∧ Num.vsize l ≤ l.length := by
  have := Num.vsz_le 7 l 0
  unfold Num.vsize; omega

theorem Num.vsz_var : ∀ (f q : Nat) (rest : List UInt8) (i : Nat), q < 128 ^ (f + 1) → Num.vsz (f + 1) (Num.varF f q ++ rest) i = i + (Num.varF f q).length
  | 0, q, rest, i, h => by
    have hq : q < 128 := by simpa using h
    simp [Num.varF, Num.vsz, UInt8.toNat_ofNat', Nat.mod_eq_of_lt (show q < 256 by omega), hq]
  | f + 1, q, rest, i, h => by
    by_cases hq : q < 128
    · rw [Num.varF_small _ _ hq]
      simp [Num.vsz, UInt8.toNat_ofNat', Nat.mod_eq_of_lt (show q < 256 by omega), hq]
    · rw [Num.varF_big _ _ (by omega)]
      have hb : (UInt8.ofNat (128 + q % 128)).toNat = 128 + q % 128 := by rw [UInt8.toNat_ofNat']; omega
      simp only [List.cons_append, Num.vsz, hb, List.length_cons]
      rw [if_neg (by omega), Num.vsz_var f (q / 128) rest (i + 1) (by rw [Nat.pow_succ] at h; exact Nat.div_lt_of_lt_mul (by omega))]
      omega

/-- is the beginning of k bytes the varint of what it says? -/
def Num.good (l : List UInt8) (k : Nat) : Prop := Num.varF 6 (Num.val7 (l.take k)) = l.take k

theorem Num.good_size {l : List UInt8} {k : Nat} (h7 : k ≤ 7) (hk : k ≤ l.length) (h : Num.good l k) : Num.vsize l = k := by
  have h1 : l = Num.varF 6 (Num.val7 (l.take k)) ++ l.drop k := by
    rw [h]; exact (List.take_append_drop k l).symm
  have h2 := Num.vsz_var 6 (Num.val7 (l.take k)) (l.drop k) 0 (by
    have := Num.val7_small (l.take k) (by simp; omega)
    omega)
  rw [← h1, h] at h2
  unfold Num.vsize
  rw [h2]; simp; omega

instance (l : List UInt8) (k : Nat) : Decidable (Num.good l k) := by unfold Num.good; infer_instance

/-- what ReadVar gives -/
def Num.rvK (s : ByteArray) : Nat := if Num.good s.data.toList (Num.vsize s.data.toList) then Num.vsize s.data.toList else 0

def Num.rvN (s : ByteArray) : Nat := Num.val7 (s.data.toList.take (Num.rvK s))

theorem Num.rv_good {s : ByteArray} {k : Nat} (h7 : k ≤ 7) (hk : k ≤ s.size) (h : Num.good s.data.toList k) : Num.rvK s = k ∧ Num.rvN s = Num.val7 (s.data.toList.take k) := by
  have hs := Num.good_size h7 (by simpa using hk) h
  have : Num.rvK s = k := by unfold Num.rvK; rw [hs, if_pos h]
  exact ⟨this, by unfold Num.rvN; rw [this]⟩

theorem Num.not_good_zero (l : List UInt8) : ¬ Num.good l 0 := by
  unfold Num.good
  simp [Num.val7, Num.varF]

theorem Num.rv_none {s : ByteArray} (h : ∀ k, 1 ≤ k → k ≤ 7 → k ≤ s.size → ¬ Num.good s.data.toList k) : Num.rvK s = 0 ∧ Num.rvN s = 0 := by
  have h0 : Num.rvK s = 0 := by
    unfold Num.rvK
    split
    · rename_i hg
      have hle := Num.vsize_le s.data.toList
      rcases Nat.eq_zero_or_pos (Num.vsize s.data.toList) with hz | hz
      · exact hz
      · exact absurd hg (h _ hz hle.1 (by simpa using hle.2))
    · rfl
  exact ⟨h0, by unfold Num.rvN; rw [h0]; rfl⟩

/-- the value of the bytes from i on, among the first k -/
theorem Num.val7_drop (s : ByteArray) (k i : Nat) (hi : i < k) (hk : k ≤ s.size) : Num.val7 ((s.data.toList.take k).drop i) = s[i].toNat % 128 + 128 * Num.val7 ((s.data.toList.take k).drop (i + 1)) := by
  have hl : i < (s.data.toList.take k).length := by simp; omega
  rw [List.drop_eq_getElem_cons hl]
  simp only [Num.val7]
  rw [List.getElem_take]
  rfl

theorem Num.good_test {s : ByteArray} {k : Nat} (h7 : k ≤ 7) : (Num.varR (Num.val7 (s.data.toList.take k) : Nat) == (s.extract 0 k).toList) = decide (Num.good s.data.toList k) := by
  have hs := Num.val7_small (s.data.toList.take k) (by simp; omega)
  have e : (s.extract 0 k).toList = s.data.toList.take k := by rw [Lib.extract_toList]; simp
  unfold Num.varR Num.good
  rw [if_pos (by omega), e, Int.toNat_natCast]
  rw [Bool.eq_iff_iff, beq_iff_eq]; exact decide_eq_true_iff.symm

theorem Num.vsz_skip (s : ByteArray) : ∀ (k f : Nat), k ≤ s.size → (∀ j (h : j < s.size), j < k → 128 ≤ s[j].toNat) → Num.vsz (k + f) s.data.toList 0 = Num.vsz f (s.data.toList.drop k) k := by
  have key : ∀ (k f i : Nat) (l : List UInt8), k ≤ l.length → (∀ j (h : j < l.length), j < k → 128 ≤ l[j].toNat) → Num.vsz (k + f) l i = Num.vsz f (l.drop k) (i + k) := by
    intro k
    induction k with
    | zero => intro f i l _ _; simp
    | succ k ih =>
      intro f i l hk h
      cases l with
      | nil => simp at hk
      | cons b l =>
        have h0 := h 0 (by simp) (by omega)
        simp at h0
        rw [show k + 1 + f = (k + f) + 1 by omega]
        simp only [Num.vsz]
        rw [if_neg (by omega), ih f (i + 1) l (by simpa using hk) (fun j hj hjk => by
          have := h (j + 1) (by simpa using hj) (by omega)
          simpa using this)]
        simp
        congr 1; omega
  intro k f hk h
  have := key k f 0 s.data.toList (by simpa using hk) (fun j hj hjk => h j (by simpa using hj) hjk)
  simpa using this

theorem Num.vsize_hit {s : ByteArray} {k : Nat} (h7 : k < 7) (hk : k < s.size) (h : ∀ j (h : j < s.size), j < k → 128 ≤ s[j].toNat) (hb : s[k].toNat < 128) : Num.vsize s.data.toList = k + 1 := by
  have h1 := Num.vsz_skip s k (7 - k) (by omega) h
  rw [show k + (7 - k) = 7 by omega] at h1
  unfold Num.vsize
  rw [h1, show 7 - k = (6 - k) + 1 by omega, List.drop_eq_getElem_cons (by simpa using hk)]
  simp only [Num.vsz]
  rw [if_pos (by exact hb)]

theorem Num.vsize_miss {s : ByteArray} {k : Nat} (h7 : k ≤ 7) (hk : k ≤ s.size) (hl : k = 7 ∨ k = s.size) (h : ∀ j (h : j < s.size), j < k → 128 ≤ s[j].toNat) : Num.vsize s.data.toList = 0 := by
  have h1 := Num.vsz_skip s k (7 - k) hk h
  rw [show k + (7 - k) = 7 by omega] at h1
  unfold Num.vsize
  rw [h1]
  rcases hl with rfl | rfl
  · rfl
  · rw [List.drop_eq_nil_of_le (by simp)]
    cases 7 - s.size <;> rfl

end Go.Proofs.Ytajplmopdipbnaa

/- Contracts (Cod). -/
namespace Go.Proofs.Ytajplmopdipbnaa
open Go.RowKit
set_option linter.unusedVariables false


theorem Num.varF_len' (f q : Nat) : (Num.varF f q).length ≤ f + 1 := by
  induction f generalizing q with
  | zero => by_cases h : q < 128 <;> simp [Num.varF]
  | succ f ih =>
    by_cases h : q < 128
    · rw [Num.varF_small _ _ h]; simp
    · rw [Num.varF_big _ _ (by omega)]
      have := ih (q / 128)
      simp; omega
/-- the bytes of a number -/
def Num.varB (n : Int) : ByteArray := ⟨(Num.varR n).toArray⟩
theorem Num.varB_size (n : Int) : (Num.varB n).size ≤ 7 := by
  unfold Num.varB
  show (Num.varR n).toArray.size ≤ 7
  simp only [List.size_toArray]
  unfold Num.varR
  split
  · have := Num.varF_len' 6 n.toNat
    omega
  · simp
/-- the bytes of a tree's count and of its first k nodes -/
def Tr.putTo (xs : Tr) : Nat → ByteArray
  | 0 => Num.varB xs.length
  | k + 1 => Tr.putTo xs k ++ Num.varB (Tr.l xs k) ++ Num.varB (Tr.d xs k)
def Tr.put (xs : Tr) : ByteArray := if Tr.ok xs then Tr.putTo xs xs.length else ⟨#[]⟩
theorem Tr.putTo_size (xs : Tr) (k : Nat) : (Tr.putTo xs k).size ≤ 7 + 14 * k := by
  induction k with
  | zero => exact Num.varB_size _
  | succ k ih =>
    have h1 := Num.varB_size (Tr.l xs k)
    have h2 := Num.varB_size (Tr.d xs k)
    simp only [Tr.putTo, ByteArray.size_append]
    omega
theorem Tr.putTo_two (xs : Tr) (k : Nat) : Tr.putTo xs (k + 1) = Tr.putTo xs k ++ (Num.varB (Tr.l xs k) ++ Num.varB (Tr.d xs k)) := by
  simp only [Tr.putTo, ByteArray.append_assoc]

/-- may a node of depth d come behind the first n nodes -/
def Tr.fits (xs : Tr) (n : Nat) (d : Int) : Bool := if n = 0 then decide (d = 0) else decide (1 ≤ d ∧ d ≤ Tr.d xs (n - 1) + 1)
theorem Tr.okAt_fits {xs : Tr} {k : Nat} (h1 : 0 ≤ Tr.l xs k ∧ Tr.l xs k ≤ 5) (h0 : 0 < k → 0 ≤ Tr.d xs (k - 1)) : Tr.okAt xs k = (decide (Tr.d xs k ≤ 12) && Tr.fits xs k (Tr.d xs k)) := by
  rw [Tr.okAt, Tr.fits, Bool.eq_iff_iff]
  by_cases hk : k = 0
  · simp [hk] at h1 ⊢; omega
  · have := h0 (by omega)
    simp [hk]; omega

/-- what stands behind the first u bytes -/
def Num.rest (t : ByteArray) (u : Nat) : ByteArray := t.extract u t.size
theorem Num.rest_size (t : ByteArray) (u : Nat) : (Num.rest t u).size = t.size - u := by simp [Num.rest]
theorem Num.rest_rest (t : ByteArray) (u v : Nat) : Num.rest (Num.rest t u) v = Num.rest t (u + v) := by
  unfold Num.rest
  rw [ByteArray.extract_extract, ByteArray.size_extract]
  congr 1
  omega

/-- the node at the start of t, behind the nodes xs: the node, its length, its code -/
def Tr.node (t : ByteArray) (xs : Tr) : (Int × Int) × Nat × Int :=
  if Num.rvK t = 0 then ((0, 0), 0, 1)
  else if Lab.ok (Num.rvN t) = false then ((0, 0), 0, 3)
  else if Num.rvK (Num.rest t (Num.rvK t)) = 0 then ((0, 0), 0, 1)
  else if 12 < Num.rvN (Num.rest t (Num.rvK t)) then ((0, 0), 0, 4)
  else if Tr.fits xs xs.length (Num.rvN (Num.rest t (Num.rvK t))) = false then ((0, 0), 0, 5)
  else (((Num.rvN t : Int), (Num.rvN (Num.rest t (Num.rvK t)) : Int)), Num.rvK t + Num.rvK (Num.rest t (Num.rvK t)), 0)
/-- r nodes off t, behind the nodes xs: all nodes and the code -/
def Tr.getB : Nat → ByteArray → Tr → Tr × Int
  | 0, t, xs => if t.size = 0 then (xs, 0) else ([], 6)
  | r + 1, t, xs => if (Tr.node t xs).2.2 = 0 then Tr.getB r (Num.rest t (Tr.node t xs).2.1) (xs ++ [(Tr.node t xs).1]) else ([], (Tr.node t xs).2.2)
def Tr.get (s : ByteArray) : Tr × Int :=
  if Num.rvK s = 0 then ([], 1)
  else if 1 ≤ Num.rvN s ∧ Num.rvN s ≤ 24 then Tr.getB (Num.rvN s) (Num.rest s (Num.rvK s)) []
  else ([], 2)

section
variable {t : ByteArray} {xs : Tr}
theorem Tr.node_n1 (h : Num.rvK t = 0) : Tr.node t xs = ((0, 0), 0, 1) := by unfold Tr.node; rw [if_pos h]
theorem Tr.node_n2 (h : ¬ Num.rvK t = 0) (h2 : Lab.ok (Num.rvN t) = false) : Tr.node t xs = ((0, 0), 0, 3) := by unfold Tr.node; rw [if_neg h, if_pos h2]
theorem Tr.node_n3 (h : ¬ Num.rvK t = 0) (h2 : Lab.ok (Num.rvN t) = true) (h3 : Num.rvK (Num.rest t (Num.rvK t)) = 0) : Tr.node t xs = ((0, 0), 0, 1) := by
  unfold Tr.node; rw [if_neg h, if_neg (by simp [h2]), if_pos h3]
theorem Tr.node_n4 (h : ¬ Num.rvK t = 0) (h2 : Lab.ok (Num.rvN t) = true) (h3 : ¬ Num.rvK (Num.rest t (Num.rvK t)) = 0) (h4 : 12 < Num.rvN (Num.rest t (Num.rvK t))) : Tr.node t xs = ((0, 0), 0, 4) := by
  unfold Tr.node; rw [if_neg h, if_neg (by simp [h2]), if_neg h3, if_pos h4]
theorem Tr.node_n5 (h : ¬ Num.rvK t = 0) (h2 : Lab.ok (Num.rvN t) = true) (h3 : ¬ Num.rvK (Num.rest t (Num.rvK t)) = 0) (h4 : ¬ 12 < Num.rvN (Num.rest t (Num.rvK t)))
    (h5 : Tr.fits xs xs.length (Num.rvN (Num.rest t (Num.rvK t))) = false) : Tr.node t xs = ((0, 0), 0, 5) := by
  unfold Tr.node; rw [if_neg h, if_neg (by simp [h2]), if_neg h3, if_neg h4, if_pos h5]
theorem Tr.node_y (h : ¬ Num.rvK t = 0) (h2 : Lab.ok (Num.rvN t) = true) (h3 : ¬ Num.rvK (Num.rest t (Num.rvK t)) = 0) (h4 : ¬ 12 < Num.rvN (Num.rest t (Num.rvK t)))
    (h5 : Tr.fits xs xs.length (Num.rvN (Num.rest t (Num.rvK t))) = true) :
    Tr.node t xs = (((Num.rvN t : Int), (Num.rvN (Num.rest t (Num.rvK t)) : Int)), Num.rvK t + Num.rvK (Num.rest t (Num.rvK t)), 0) := by
  unfold Tr.node; rw [if_neg h, if_neg (by simp [h2]), if_neg h3, if_neg h4, if_neg (by simp [h5])]
theorem Num.rvK_le (s : ByteArray) : Num.rvK s ≤ 7 ∧ Num.rvK s ≤ s.size := by
  have := Num.vsize_le s.data.toList
  unfold Num.rvK
  split
  · simpa using this
  · omega
theorem Num.rvN_le (s : ByteArray) : Num.rvN s ≤ 562949953421311 := Num.val7_small _ (by have := (Num.rvK_le s).1; simp; omega)
/-- a node is read, or there is none -/
theorem Tr.node_cases (t : ByteArray) (xs : Tr) : (∃ code : Int, Tr.node t xs = ((0, 0), 0, code) ∧ 1 ≤ code ∧ code ≤ 5) ∨
    (∃ (l d : Int) (u : Nat), Tr.node t xs = ((l, d), u, 0) ∧ u ≤ t.size ∧ (0 ≤ l ∧ l ≤ 5) ∧ (0 ≤ d ∧ d ≤ 12)) := by
  by_cases h : Num.rvK t = 0
  · exact .inl ⟨_, Tr.node_n1 h, by omega, by omega⟩
  · rcases h2 : Lab.ok (Num.rvN t) with _ | _
    · exact .inl ⟨_, Tr.node_n2 h h2, by omega, by omega⟩
    · by_cases h3 : Num.rvK (Num.rest t (Num.rvK t)) = 0
      · exact .inl ⟨_, Tr.node_n3 h h2 h3, by omega, by omega⟩
      · by_cases h4 : 12 < Num.rvN (Num.rest t (Num.rvK t))
        · exact .inl ⟨_, Tr.node_n4 h h2 h3 h4, by omega, by omega⟩
        · rcases h5 : Tr.fits xs xs.length (Num.rvN (Num.rest t (Num.rvK t))) with _ | _
          · exact .inl ⟨_, Tr.node_n5 h h2 h3 h4 h5, by omega, by omega⟩
          · refine .inr ⟨_, _, _, Tr.node_y h h2 h3 h4 h5, ?_, ?_, ?_⟩
            · have h6 := Num.rvK_le (Num.rest t (Num.rvK t))
              have h7 := Num.rvK_le t
              rw [Num.rest_size] at h6
              omega
            · simpa [Lab.ok] using h2
            · omega
end
theorem Tr.getB_end {t : ByteArray} {xs : Tr} (h : t.size = 0) : Tr.getB 0 t xs = (xs, 0) := by unfold Tr.getB; rw [if_pos h]
theorem Tr.getB_left {t : ByteArray} {xs : Tr} (h : ¬ t.size = 0) : Tr.getB 0 t xs = ([], 6) := by unfold Tr.getB; rw [if_neg h]
theorem Tr.getB_no {r : Nat} {t : ByteArray} {xs : Tr} {p : Int × Int} {u : Nat} {code : Int} (h : Tr.node t xs = (p, u, code)) (hc : 1 ≤ code) : Tr.getB (r + 1) t xs = ([], code) := by
  unfold Tr.getB; rw [h, if_neg (show ¬ code = 0 by omega)]
theorem Tr.getB_yes {r : Nat} {t : ByteArray} {xs : Tr} {p : Int × Int} {u : Nat} (h : Tr.node t xs = (p, u, 0)) : Tr.getB (r + 1) t xs = Tr.getB r (Num.rest t u) (xs ++ [p]) := by
  show (if (Tr.node t xs).2.2 = 0 then Tr.getB r (Num.rest t (Tr.node t xs).2.1) (xs ++ [(Tr.node t xs).1]) else ([], (Tr.node t xs).2.2)) = _
  rw [h, if_pos rfl]
theorem Tr.getB_len (r : Nat) (t : ByteArray) (xs : Tr) : (Tr.getB r t xs).1.length ≤ xs.length + r := by
  induction r generalizing t xs with
  | zero => unfold Tr.getB; split <;> simp
  | succ r ih =>
    unfold Tr.getB
    split
    · refine Nat.le_trans (ih _ _) ?_
      simp; omega
    · simp
theorem Tr.get_len (s : ByteArray) : (Tr.get s).1.length ≤ 24 := by
  unfold Tr.get
  split
  · simp
  · split
    · refine Nat.le_trans (Tr.getB_len _ _ _) ?_
      simp; omega
    · simp
theorem Tr.get_n1 {s : ByteArray} (h : Num.rvK s = 0) : Tr.get s = ([], 1) := by unfold Tr.get; rw [if_pos h]
theorem Tr.get_n2 {s : ByteArray} (h : ¬ Num.rvK s = 0) (h2 : ¬ (1 ≤ Num.rvN s ∧ Num.rvN s ≤ 24)) : Tr.get s = ([], 2) := by unfold Tr.get; rw [if_neg h, if_neg h2]
theorem Tr.get_y {s : ByteArray} (h : ¬ Num.rvK s = 0) (h2 : 1 ≤ Num.rvN s ∧ Num.rvN s ≤ 24) : Tr.get s = Tr.getB (Num.rvN s) (Num.rest s (Num.rvK s)) [] := by unfold Tr.get; rw [if_neg h, if_pos h2]

end Go.Proofs.Ytajplmopdipbnaa

/- Closed facts of this seat's program. -/
namespace Go.Proofs.Ytajplmopdipbnaa
open Go.RowKit
theorem info_u8 : (Try.prog.info? 5).map (fun i => (i.zero, i.size, i.bytes)) = some (some (.int .u8 0), 1, 1) := by kernel_rfl
end Go.Proofs.Ytajplmopdipbnaa

/- Contracts (DepI). -/
namespace Go.Proofs.Ytajplmopdipbnaa
open Go.RowKit
set_option linter.unusedVariables false

set_option maxHeartbeats 800000 in
set_option maxRecDepth 100000 in
theorem depthFits_any (A : Option Addr) (n c : Nat) (xs : Tr) (d : Int) (w : World) (h : NdIn w w.heap.size A n xs) (hn : n ≤ 1048576) (hb : 0 < n → 0 ≤ Tr.d xs (n - 1) ∧ Tr.d xs (n - 1) ≤ 12) :
    Calls Try.prog 110 #[.slice A n c, .int .i64 d] w fun e w' => e = .returned (.bool (Tr.fits xs n d)) ∧ w = w' := by
  have H := Lib.hid h
  clear h
  rcases Nat.eq_zero_or_pos n with rfl | h0
  · have Hf := Lib.hid (show Tr.fits xs 0 d = (d == 0) by rw [Tr.fits, if_pos rfl, Bool.eq_iff_iff]; simp)
    clear hb
    go_enter Try.func110, Try.ntmps110
    go_wp2
    go_ret
    exact ⟨Kit.ret_bool Hf.out.symm, rfl⟩
  · obtain ⟨ad, rfl, _, hl', hd'⟩ := H.out.at_ (k := n - 1) (by omega)
    have hbd := hb h0
    have e0 : ((n : Int) == 0) = false := beq_eq_false_iff_ne.2 (by omega)
    have a1 : IntKind.i64.wrap ((n : Int) - 1) = (n : Int) - 1 := Kit.w64 (by omega) (by omega)
    have a2 : ((n : Int) - 1).toNat = n - 1 := by omega
    have a3 : (1 : Int) ≤ (n : Int) := by omega
    have a4 : (n : Int) - 1 < (n : Int) := by omega
    have a5 : IntKind.i64.wrap (Tr.d xs (n - 1) + 1) = Tr.d xs (n - 1) + 1 := Kit.w64 (by omega) (by omega)
    have Hf := Lib.hid (show Tr.fits xs n d = (decide (1 ≤ d) && decide (d ≤ Tr.d xs (n - 1) + 1)) by rw [Tr.fits, if_neg (by omega), Bool.eq_iff_iff]; simp)
    clear hb hbd
    by_cases h1 : 1 ≤ d
    · have e1 : decide (1 ≤ d) = true := by simpa using h1
      rw [e1] at Hf
      go_enter Try.func110, Try.ntmps110
      go_wp2
      go_ret
      exact ⟨Kit.ret_bool (by rw [Hf.out]; simp), rfl⟩
    · have e1 : decide (1 ≤ d) = false := by simpa using h1
      rw [e1] at Hf
      go_enter Try.func110, Try.ntmps110
      go_wp2
      go_ret
      exact ⟨Kit.ret_bool (by rw [Hf.out]; simp), rfl⟩

end Go.Proofs.Ytajplmopdipbnaa

/- Contracts (TreeOkI). -/
namespace Go.Proofs.Ytajplmopdipbnaa
open Go.RowKit
set_option linter.unusedVariables false

theorem Tr.fits_take {xs : Tr} {k : Nat} {d : Int} : Tr.fits (xs.take k) k d = Tr.fits xs k d := by
  unfold Tr.fits
  by_cases h : k = 0
  · simp [h]
  · rw [if_neg h, if_neg h]
    simp [Tr.d, List.getD_eq_getElem?_getD, show k - 1 < k by omega]
theorem Tr.d_take {xs : Tr} {k j : Nat} (h : j < k) : Tr.d (xs.take k) j = Tr.d xs j := by simp [Tr.d, List.getD_eq_getElem?_getD, h]
theorem NdIn.head {w : World} {B n : Nat} {A : Option Addr} {xs : Tr} (h : NdIn w B A n xs) {k : Nat} (hk : k ≤ n) : NdIn w B A k (xs.take k) := by
  refine ⟨by have := h.1; simp; omega, fun h0 => h.2.1 (by omega), fun ad e j hj => ?_⟩
  have := h.2.2 ad e j (by omega)
  have hg : (xs.take k).getD j (0, 0) = xs.getD j (0, 0) := by simp [List.getD_eq_getElem?_getD, hj]
  simp only [Tr.l, Tr.d] at this ⊢
  rw [hg]
  exact this
set_option maxHeartbeats 800000 in
set_option maxRecDepth 100000 in
theorem implTreeOk_any (A : Option Addr) (n c : Nat) (xs : Tr) (w : World) (h : NdIn w w.heap.size A n xs) (hn : n ≤ 1048576) (hnc : n ≤ c) :
    Calls Try.prog 95 #[.slice A n c] w fun e w' => e = .returned (.bool (Tr.ok xs)) ∧ Below w.heap.size w w' := by
  have H := Lib.hid h
  clear h
  have HL := Lib.hid H.out.1
  by_cases hn1 : n < 1
  · have Hf := Lib.hid (show Tr.ok xs = false by rw [Bool.eq_false_iff, Ne, Tr.ok_iff, HL.out]; omega)
    go_enter Try.func95, Try.ntmps95
    go_wp2
    go_ret
    exact ⟨Kit.ret_bool Hf.out.symm, Below.refl _ _⟩
  by_cases hn2 : 24 < n
  · have Hf := Lib.hid (show Tr.ok xs = false by rw [Bool.eq_false_iff, Ne, Tr.ok_iff, HL.out]; omega)
    go_enter Try.func95, Try.ntmps95
    go_wp2
    go_ret
    exact ⟨Kit.ret_bool Hf.out.symm, Below.refl _ _⟩
  obtain ⟨ad, rfl, _⟩ := H.out.2.1 (by omega)
  go_enter Try.func95, Try.ntmps95
  go_wp2
  go_loopw [15] (fun iv wr => ∃ k : Nat, k ≤ n ∧ iv = .int .i64 k ∧ Tr.okTo xs k ∧ Below w.heap.size w wr) (fun i _ => n - (intOf i).toNat)
  case atStart => exact ⟨0, Nat.zero_le _, rfl, fun j hj => absurd hj (by omega), Below.refl _ _⟩
  case round =>
    obtain ⟨k, hk, rfl, hok, hB⟩ := hrel
    have hsz := hB.size
    have Hok := Lib.hid hok
    have HB := Lib.hid hB
    clear hok hB
    by_cases hlt : k < n
    · obtain ⟨hl, hd⟩ := (H.out.below HB.out).here hlt
      have hkc : (k : Int) ≤ (c : Int) := by omega
      have hk0 : (0 : Int) ≤ (k : Int) := by omega
      have Hbk := Lib.hid (show 0 < k → 0 ≤ Tr.d (xs.take k) (k - 1) ∧ Tr.d (xs.take k) (k - 1) ≤ 12 by
        intro h0
        rw [Tr.d_take (by omega)]
        exact (Tr.okTo_at Hok.out (show k - 1 < k by omega)).2.1)
      have Hfit := Lib.hid (Tr.fits_take (xs := xs) (k := k) (d := Tr.d xs k))
      have Hc := Lib.hid (((H.out.below HB.out).more HB.out.size).to_below ((Below.refl _ _).alloc (Nat.le_refl _) (.cells #[.int .i64 (Tr.l xs k), .int .i64 (Tr.d xs k)] 42)) |>.head (Nat.le_of_lt hlt))
      by_cases h1 : 0 ≤ Tr.l xs k ∧ Tr.l xs k ≤ 5
      · have h1' : Lab.ok (Tr.l xs k) = true := by simp [Lab.ok, h1]
        have Hat := Lib.hid (Tr.okAt_fits (xs := xs) (k := k) h1 (fun h0 => (Tr.okTo_at Hok.out (show k - 1 < k by omega)).2.1.1))
        clear h1
        by_cases h2 : Tr.d xs k ≤ 12
        · have e2 : decide (12 < Tr.d xs k) = false := by simpa using h2
          cases h3 : Tr.fits (xs.take k) k (Tr.d xs k) with
          | true =>
            have Hk := Lib.hid (show Tr.okAt xs k = true by rw [Hat.out, ← Hfit.out, h3]; simp [h2])
            clear h2
            go_wp2
            go_quiet (first
              | (go_at_call 77; exact quiet_same (implLabelOk_any _ _))
              | (go_at_call 110; exact quiet_same (depthFits_any _ _ _ _ _ _ (Hc.out.drewN _) (by omega) Hbk.out)))
            go_wp2
            go_roundw
            case rel => exact ⟨k + 1, by omega, by go_num, Tr.okTo_succ Hok.out Hk.out, Drawn.below (HB.out.alloc HB.out.size _) ⟨_, rfl⟩⟩
            case measure => simp [intOf]; omega
          | false =>
            have Hf := Lib.hid (Tr.not_ok (xs := xs) (k := k) (by rw [HL.out]; exact hlt) (by rw [Hat.out, ← Hfit.out, h3]; simp))
            clear h2
            go_wp2
            go_quiet (first
              | (go_at_call 77; exact quiet_same (implLabelOk_any _ _))
              | (go_at_call 110; exact quiet_same (depthFits_any _ _ _ _ _ _ (Hc.out.drewN _) (by omega) Hbk.out)))
            go_wp2
            go_ret
            exact ⟨Kit.ret_bool Hf.out.symm, Drawn.below (HB.out.alloc HB.out.size _) ⟨_, rfl⟩⟩
        · have e2 : decide (12 < Tr.d xs k) = true := by simpa using h2
          have Hf := Lib.hid (Tr.not_ok (xs := xs) (k := k) (by rw [HL.out]; exact hlt) (by rw [Hat.out]; simp [h2]))
          clear h2
          go_wp2
          go_quiet (first
            | (go_at_call 77; exact quiet_same (implLabelOk_any _ _))
            | (go_at_call 110; exact quiet_same (depthFits_any _ _ _ _ _ _ (Hc.out.drewN _) (by omega) Hbk.out)))
          go_wp2
          go_ret
          exact ⟨Kit.ret_bool Hf.out.symm, Drawn.below (HB.out.alloc HB.out.size _) ⟨_, rfl⟩⟩
      · have h1' : Lab.ok (Tr.l xs k) = false := by simpa [Lab.ok] using h1
        have Hf := Lib.hid (Tr.not_ok (xs := xs) (k := k) (by rw [HL.out]; exact hlt) (by simp [Tr.okAt]; omega))
        clear h1
        go_wp2
        go_quiet (first
          | (go_at_call 77; exact quiet_same (implLabelOk_any _ _))
          | (go_at_call 110; exact quiet_same (depthFits_any _ _ _ _ _ _ (Hc.out.drewN _) (by omega) Hbk.out)))
        go_wp2
        go_ret
        exact ⟨Kit.ret_bool Hf.out.symm, Drawn.below (HB.out.alloc HB.out.size _) ⟨_, rfl⟩⟩
    · obtain rfl : k = n := by omega
      go_wp2
      go_ret
      exact ⟨Kit.ret_bool (Tr.ok_iff.2 (by rw [HL.out]; exact ⟨Hok.out, by omega, by omega⟩)).symm, HB.out⟩

end Go.Proofs.Ytajplmopdipbnaa

/- Contracts (HasI). -/
namespace Go.Proofs.Ytajplmopdipbnaa
open Go.RowKit
set_option linter.unusedVariables false

set_option maxHeartbeats 800000 in
set_option maxRecDepth 100000 in
theorem hasNode_any (A : Option Addr) (n c : Nat) (xs : Tr) (i : Int) (w : World) (h : NdIn w w.heap.size A n xs) (hn : n ≤ 1048576) (hnc : n ≤ c) :
    Calls Try.prog 120 #[.slice A n c, .int .i64 i] w fun e w' => e = .returned (.bool (Tr.has xs i)) ∧ Below w.heap.size w w' := by
  have H := Lib.hid h
  clear h
  have HL := Lib.hid H.out.1
  by_cases h0 : 0 ≤ i
  · by_cases h1 : i < n
    · have Hs := Lib.hid (show Tr.has xs i = Tr.ok xs by simp [Tr.has, HL.out, h0, h1])
      go_enter Try.func120, Try.ntmps120
      go_wp2_with (go_at_call 95; refine (implTreeOk_any _ _ _ xs _ H.out hn hnc).mono ?_; rintro e w1 ⟨rfl, hb⟩)
      go_ret
      exact ⟨Kit.ret_bool Hs.out.symm, hb⟩
    · have Hs := Lib.hid (show Tr.has xs i = false by simp [Tr.has, HL.out, h1])
      go_enter Try.func120, Try.ntmps120
      go_wp2
      go_ret
      exact ⟨Kit.ret_bool Hs.out.symm, Below.refl _ _⟩
  · have Hs := Lib.hid (show Tr.has xs i = false by simp [Tr.has, h0])
    have h0' : decide (0 ≤ i) = false := by simpa using h0
    go_enter Try.func120, Try.ntmps120
    go_wp2
    go_ret
    exact ⟨Kit.ret_bool Hs.out.symm, Below.refl _ _⟩

end Go.Proofs.Ytajplmopdipbnaa

/- Contracts (EndOfI). -/
namespace Go.Proofs.Ytajplmopdipbnaa
open Go.RowKit
set_option linter.unusedVariables false

set_option maxHeartbeats 800000 in
set_option maxRecDepth 100000 in
theorem implEndOf_any (A : Option Addr) (n c : Nat) (xs : Tr) (i : Int) (w : World) (h : NdIn w w.heap.size A n xs) (hn : n ≤ 1048576) (hnc : n ≤ c) :
    Calls Try.prog 119 #[.slice A n c, .int .i64 i] w fun e w' => e = .returned (.int .i64 (Tr.endOf xs i)) ∧ Below w.heap.size w w' := by
  have H := Lib.hid h
  clear h
  have HL := Lib.hid H.out.1
  rcases hok : Tr.has xs i with _ | _
  · have Hf := Lib.hid (show Tr.endOf xs i = -1 by simp [Tr.endOf, hok])
    have Hok := Lib.hid hok
    clear hok
    go_enter Try.func119, Try.ntmps119
    go_wp2_with fail
    refine (hasNode_any _ _ _ xs _ _ H.out hn hnc).mono ?_
    rintro e w1 ⟨rfl, hd⟩
    rw [Hok.out]
    go_wp2
    go_ret
    exact ⟨Kit.ret_int Hf.out.symm, hd⟩
  · have h1 := (Tr.has_iff.1 hok).2
    rw [HL.out] at h1
    have Hf := Lib.hid (show Tr.endOf xs i = Tr.endN xs i.toNat by simp [Tr.endOf, hok])
    have Hok := Lib.hid hok
    clear hok
    obtain ⟨j, rfl⟩ := Int.eq_ofNat_of_zero_le h1.1
    have hj : j < n := by omega
    clear h1
    go_enter Try.func119, Try.ntmps119
    go_wp2_with fail
    refine (hasNode_any _ _ _ xs _ _ H.out hn hnc).mono ?_
    rintro e w1 ⟨rfl, hd1⟩
    have Hd1 := Lib.hid hd1
    have H1 := Lib.hid (H.out.below Hd1.out)
    clear hd1
    rw [Hok.out]
    go_wp2
    go_loopw [5] (fun kv wr => ∃ k : Nat, j < k ∧ k ≤ n ∧ kv = .int .i64 k ∧ (∀ m, j < m → m < k → Tr.d xs j < Tr.d xs m) ∧ Drawn w1 wr) (fun k _ => n - (intOf k).toNat)
    case atStart => exact ⟨j + 1, by omega, by omega, by go_num, fun m h1 h2 => absurd h1 (by omega), Drawn.refl _⟩
    case round =>
      obtain ⟨k, hjk, hk, rfl, hall, hD⟩ := hrel
      have Hall := Lib.hid hall
      clear hall
      have hk0 : (0 : Int) ≤ (k : Int) := by omega
      have hj0 : (0 : Int) ≤ (j : Int) := by omega
      by_cases hlt : k < n
      · have hltd : decide (k < n) = true := by simpa using hlt
        obtain ⟨ad, rfl, hb, hl, hd⟩ := (H1.out.drawn hD).at_ hlt
        obtain ⟨hl', hd'⟩ := (H1.out.drawn hD).here hj
        clear hl hl'
        by_cases hgt : Tr.d xs j < Tr.d xs k
        · have hg : decide (Tr.d xs j < Tr.d xs k) = true := by simpa using hgt
          have Hg := Lib.hid hgt
          clear hgt
          go_wp2
          go_quiet (fail)
          go_wp2
          go_roundw
          case rel => exact ⟨k + 1, by omega, by omega, by go_num, fun m h1 h2 => by
            rcases Nat.lt_succ_iff_lt_or_eq.1 h2 with h' | rfl
            · exact Hall.out m h1 h'
            · exact Hg.out, hD.drewN _⟩
          case measure => simp [intOf]; omega
        · have hg : decide (Tr.d xs j < Tr.d xs k) = false := by simpa using hgt
          have He := Lib.hid (Tr.endN_is (xs := xs) hjk (by rw [HL.out]; exact hk) Hall.out (.inr (by omega)))
          clear hgt
          go_wp2
          go_quiet (fail)
          go_wp2
          go_ret
          exact ⟨Kit.ret_int (by rw [Hf.out, Int.toNat_natCast, He.out]), Drawn.below Hd1.out (hD.drewN _)⟩
      · have hltd : decide (k < n) = false := by simpa using hlt
        obtain rfl : k = n := by omega
        have He := Lib.hid (Tr.endN_is (xs := xs) hjk (by rw [HL.out]; exact hk) Hall.out (.inl HL.out.symm))
        go_wp2
        go_quiet (fail)
        go_wp2
        go_ret
        exact ⟨Kit.ret_int (by rw [Hf.out, Int.toNat_natCast, He.out]), Drawn.below Hd1.out (hD.drewN _)⟩

end Go.Proofs.Ytajplmopdipbnaa

/- Contracts (RankI). -/
namespace Go.Proofs.Ytajplmopdipbnaa
open Go.RowKit
set_option linter.unusedVariables false

theorem Tr.rks_val {xs : Tr} (hok : Tr.ok xs = true) {k : Nat} (hk : k < xs.length) : Zs.at (Zs.up (Tr.rks xs)) k = (Tr.rk xs k : Nat) := by
  have := Tr.post_length hok
  rw [Zs.up_at _ _ (by rw [Tr.rks_length]; omega)]
  simp [Tr.rks]
theorem Tr.rk_sum {xs : Tr} (hok : Tr.ok xs = true) {k : Nat} (hk : k < xs.length) : Tr.endOf xs (k : Int) - 1 - Tr.d xs k = (Tr.rk xs k : Nat) := by
  have h1 := (Tr.endN_dn hok hk).1
  have h2 := Tr.dn_eq hok hk
  have h3 := Tr.dn_le hok hk
  rw [Tr.endOf_yes (Tr.has_iff.2 ⟨hok, by omega, by omega⟩)]
  unfold Tr.rk
  omega
set_option maxHeartbeats 1600000 in
set_option maxRecDepth 100000 in
theorem implRankOf_any (A : Option Addr) (n c : Nat) (xs : Tr) (w : World) (h : NdIn w w.heap.size A n xs) (hn : n ≤ 1048576) (hnc : n ≤ c) :
    Calls Try.prog 117 #[.slice A n c] w (OwnInts 3 (Zs.up (Tr.rks xs)) w) := by
  have H := Lib.hid h
  clear h
  have HL := Lib.hid H.out.1
  rcases hok : Tr.ok xs with _ | _
  · have Hf := Lib.hid (show Zs.up (Tr.rks xs) = [] by unfold Tr.rks; rw [Tr.post_none hok]; rfl)
    have Hok := Lib.hid hok
    clear hok
    go_enter Try.func117, Try.ntmps117
    go_wp2_with fail
    refine (implTreeOk_any _ _ _ xs _ H.out hn hnc).mono ?_
    rintro e w1 ⟨rfl, hb⟩
    have HB := Lib.hid hb
    clear hb
    rw [Hok.out]
    go_wp2
    go_ret
    exact ⟨_, _, by rw [Hf.out]; rfl, by rw [Hf.out]; exact own_nil, HB.out⟩
  · have hle := (Tr.ok_iff.1 hok).2
    have hpl := Tr.post_length hok
    rw [HL.out] at hle hpl
    obtain ⟨F, hF⟩ : ∃ F, F = Zs.up (Tr.rks xs) := ⟨_, rfl⟩
    have HFl := Lib.hid (show F.length = n by rw [hF, Zs.up_length, Tr.rks_length, hpl])
    have HFa := Lib.hid (fun k hk => (congrArg (fun G => Zs.at G k) hF).trans (Tr.rks_val hok (k := k) hk))
    have HS := Lib.hid (fun k hk => Tr.rk_sum hok (k := k) hk)
    have HE := Lib.hid (fun k hk => Tr.endN_dn hok (i := k) hk)
    have HY := Lib.hid (fun (k : Nat) (hk : k < xs.length) => Tr.endOf_yes (Tr.has_iff.2 ⟨hok, Int.natCast_nonneg k, Int.ofNat_lt.2 hk⟩))
    have HD := Lib.hid (fun k hk => (Tr.ok_at hok (k := k) hk).2.1)
    have HF := Lib.hid hF
    obtain ⟨i0, hi, hz0, hz1, hz2⟩ := info_parts info_intZ
    have Hi := Lib.hid hi
    have Hok := Lib.hid hok
    clear hi hok hF hpl
    obtain ⟨ad, rfl, had⟩ := H.out.2.1 (by omega)
    go_enter Try.func117, Try.ntmps117
    go_wp2_with fail
    refine (implTreeOk_any _ _ _ xs _ H.out hn hnc).mono ?_
    rintro e w1 ⟨rfl, hb⟩
    have HB := Lib.hid hb
    have H1 := Lib.hid (H.out.to_below hb)
    clear hb
    rw [Hok.out]
    obtain ⟨m, hm⟩ : ∃ m, m = n := ⟨_, rfl⟩
    have hmb : m ≤ 24 := by omega
    go_wp2_with (at_make; go_loud (refine wpList_make_full _ rfl _ _ 25 rfl w1.heap.size 3 i0 (.int .i64 0) 1 Try.underlying25 Hi.out hz0 hz1 _ _ _ _ n rfl rfl rfl rfl (by rw [hz2]; omega) (by unfold maxLen; omega) (Nat.le_refl _) ?_); intro w2 hown2 hgrow2)
    have hb2 : Below w1.heap.size w1 w2 := (Below.refl _ w1).grown hgrow2 (Nat.le_refl _) (fun _ h => by cases h)
    rw [made_zeros 0 n, show List.replicate n (0 : Int) = Zs.part F 0 by rw [Zs.part_zero, HFl.out]] at hown2
    have HO2 := Lib.hid hown2
    have HB2 := Lib.hid hb2
    clear hown2 hgrow2 hb2 hm hmb
    go_wp2
    go_loopw [14] (fun kv wr => ∃ k : Nat, k ≤ n ∧ kv = .int .i64 k ∧ wr.ownsRow w1.heap.size 3 1 (.slice (some ⟨w1.heap.size, 0, none⟩) n n) n (ints (Zs.part F k)) ∧ Below w1.heap.size w1 wr) (fun k _ => n - (intOf k).toNat)
    case atStart => exact ⟨0, Nat.zero_le _, rfl, HO2.out, HB2.out⟩
    case round =>
      clear HO2 HB2
      obtain ⟨k, hk, rfl, hown, hB⟩ := hrel
      have Ho := Lib.hid hown
      have HB2 := Lib.hid hB
      clear hown hB
      have hsz := HB2.out.size
      by_cases hlt : k < n
      · have hlx : k < xs.length := by rw [HL.out]; exact hlt
        obtain ⟨hl, hd⟩ := (H1.out.below HB2.out).here hlt
        have hs := HS.out k hlx
        have he := HE.out k hlx
        have hy := HY.out k hlx
        have hdd := HD.out k hlx
        have b0 : (0 : Int) ≤ (k : Int) := by omega
        have b1 : (k : Int) < (n : Int) := by omega
        have hfa := HFa.out k hlx
        have hxl := HL.out
        have hy0 : (0 : Int) ≤ Tr.endOf xs (k : Int) ∧ Tr.endOf xs (k : Int) ≤ 24 := by rw [hy]; omega
        have a1 : IntKind.i64.wrap (Tr.endOf xs (k : Int) - 1) = Tr.endOf xs (k : Int) - 1 := Kit.w64 (by omega) (by omega)
        have a2 : IntKind.i64.wrap (Tr.endOf xs (k : Int) - 1 - Tr.d xs k) = Tr.endOf xs (k : Int) - 1 - Tr.d xs k := Kit.w64 (by omega) (by omega)
        have hgl := (Ho.out.lt w1.heap.size rfl).2
        have hne : (⟨w1.heap.size, k, none⟩ : Addr) ≠ ⟨wr.heap.size, 1, none⟩ := fun e => by injection e; omega
        have S0 := Lib.hid (show (wr.alloc (.cells #[.int .i64 (Tr.l xs k), .int .i64 (Tr.d xs k)] 42)).drew.cell? ⟨wr.heap.size, 1, none⟩ = some (.int .i64 (Tr.d xs k)) by simp)
        have Hx := Lib.hid ((((H1.out.below HB2.out).more HB2.out.size).to_below ((Below.refl _ wr).alloc (Nat.le_refl _) (.cells #[.int .i64 (Tr.l xs k), .int .i64 (Tr.d xs k)] 42))).drew)
        have HBx := Lib.hid ((HB2.out.alloc hsz (.cells #[.int .i64 (Tr.l xs k), .int .i64 (Tr.d xs k)] 42)).drew)
        have Hox := Lib.hid (show (wr.alloc (.cells #[.int .i64 (Tr.l xs k), .int .i64 (Tr.d xs k)] 42)).drew.ownsRow w1.heap.size 3 1 (.slice (some ⟨w1.heap.size, 0, none⟩) n n) n (ints (Zs.part F k)) from Ho.out.alloc _)
        have hxz : wr.heap.size < (wr.alloc (.cells #[.int .i64 (Tr.l xs k), .int .i64 (Tr.d xs k)] 42)).drew.heap.size := by simp [World.drew]
        have Hpl := Lib.hid (Zs.part_length F k (by rw [HFl.out]; exact hk))
        have Hs := Lib.hid hs
        clear hy hdd he hy0 hs
        go_wp2_with fail
        go_region_held3 (fun wq => wq.cell? ⟨wr.heap.size, 1, none⟩ = some (.int .i64 (Tr.d xs k))) (first | exact S0.out | exact (hb.cell hxz).trans S0.out | (refine (World.cell?_setCell_other _ _ _ _ hne).trans ?_; assumption)) (first | (go_at_call 119; refine (implEndOf_any _ _ _ xs _ _ Hx.out hn hnc).mono ?_; rintro e w' ⟨rfl, hb⟩; have hox3 := own_below Hox.out hb; have c3 := own_int hox3 (k := k) (by rw [Hpl.out, HFl.out]; exact hlt); have f3 := hox3.frozenAt k))
        have Ho3 := Lib.hid hox3
        have HB3 := Lib.hid (HBx.out.trans (hb.mono HBx.out.size))
        clear hox3 hb c3 f3
        go_wp2
        go_roundw
        case rel =>
          refine ⟨k + 1, by omega, by go_num, ?_, HB3.out.setCell (Nat.le_refl _) _⟩
          have := (Ho3.out.stored k (.int .i64 (Tr.endOf xs (k : Int) - 1 - Tr.d xs k))).1
          rw [ints_set, Hs.out, ← hfa, Zs.part_set F k (by rw [HFl.out]; exact hlt), hfa, ← Hs.out] at this
          exact this
        case measure => simp [intOf]; omega
      · obtain rfl : k = n := by omega
        go_wp2
        go_ret
        rw [show Zs.part F k = F by rw [← HFl.out]; exact Zs.part_all F] at Ho
        exact ⟨_, _, by rw [← HF.out, HFl.out]; rfl, by rw [← HF.out, HFl.out]; exact own_base Ho.out HB.out.size, HB.out.trans (HB2.out.mono HB.out.size)⟩

end Go.Proofs.Ytajplmopdipbnaa

/- Contracts (PostI). -/
namespace Go.Proofs.Ytajplmopdipbnaa
open Go.RowKit
set_option linter.unusedVariables false

/-- the nodes that are known when k ranks are done -/
def Tr.postTo (xs : Tr) (k : Nat) : List Nat := (Tr.post xs).map fun i => if i < k then i else 0
theorem Tr.postTo_length (xs : Tr) (k : Nat) : (Tr.postTo xs k).length = (Tr.post xs).length := by simp [Tr.postTo]
theorem Tr.postTo_zero (xs : Tr) : Tr.postTo xs 0 = List.replicate (Tr.post xs).length 0 := by
  unfold Tr.postTo
  refine List.ext_getElem (by simp) fun i h1 h2 => by simp
theorem Tr.post_mem {xs : Tr} {j : Nat} (hj : j < (Tr.post xs).length) : (Tr.post xs)[j] < (Tr.post xs).length := by
  obtain ⟨i, h1, h2, h3, h4, h5⟩ := Tr.post_at hj
  rw [List.getElem?_eq_getElem hj] at h2
  injection h2 with h2
  omega
theorem Tr.postTo_all (xs : Tr) : Tr.postTo xs (Tr.post xs).length = Tr.post xs := by
  unfold Tr.postTo
  refine List.ext_getElem (by simp) fun j h1 h2 => ?_
  rw [List.getElem_map, if_pos (Tr.post_mem h2)]
theorem Tr.postTo_set {xs : Tr} {k : Nat} (hk : k < (Tr.post xs).length) : (Tr.postTo xs k).set (Tr.rk xs k) k = Tr.postTo xs (k + 1) := by
  obtain ⟨hok, hl⟩ := Tr.post_ok hk
  have hp := Tr.post_rk hok (j := k) (by omega)
  unfold Tr.postTo
  refine List.ext_getElem (by simp) fun j h1 h2 => ?_
  simp only [List.length_map] at h2
  by_cases e : Tr.rk xs k = j
  · subst e
    rw [List.getElem?_eq_getElem h2] at hp
    injection hp with hp
    simp [hp]
  · rw [List.getElem_set_ne e]
    simp only [List.getElem_map]
    obtain ⟨i, h3, h4, h5, _⟩ := Tr.post_at h2
    rw [List.getElem?_eq_getElem h2] at h4
    injection h4 with h4
    have hne : (Tr.post xs)[j] ≠ k := fun q => e (by rw [← h5, ← h4, q])
    by_cases q : (Tr.post xs)[j] < k
    · rw [if_pos q, if_pos (by omega)]
    · rw [if_neg q, if_neg (by omega)]
theorem Tr.rks_get {xs : Tr} {k : Nat} (hk : k < (Tr.post xs).length) : Zs.at (Zs.up (Tr.rks xs)) k = (Tr.rk xs k : Nat) ∧ Tr.rk xs k < (Tr.post xs).length := by
  obtain ⟨hok, hl⟩ := Tr.post_ok hk
  exact ⟨Tr.rks_val hok (by omega), by rw [hl]; exact Tr.rk_lt hok (by omega)⟩
theorem Zs.up_set (l : List Nat) (k a : Nat) : (Zs.up l).set k (a : Int) = Zs.up (l.set k a) := by simp [Zs.up, List.map_set]
set_option maxHeartbeats 1600000 in
set_option maxRecDepth 100000 in
theorem implPostOrder_any (A : Option Addr) (n c : Nat) (xs : Tr) (w : World) (h : NdIn w w.heap.size A n xs) (hn : n ≤ 1048576) (hnc : n ≤ c) :
    Calls Try.prog 113 #[.slice A n c] w (OwnInts 3 (Zs.up (Tr.post xs)) w) := by
  have H := Lib.hid h
  clear h
  have hml := Tr.post_len_le xs
  rw [H.out.1] at hml
  obtain ⟨m, hm⟩ : ∃ m, m = (Tr.post xs).length := ⟨_, rfl⟩
  have HM := Lib.hid hm
  have HRL := Lib.hid (show (Zs.up (Tr.rks xs)).length = m by rw [Zs.up_length, Tr.rks_length, hm])
  have HS := Lib.hid (fun k (hk : k < m) => Tr.postTo_set (xs := xs) (k := k) (by rw [← hm]; exact hk))
  have HR := Lib.hid (fun k (hk : k < m) => Tr.rks_get (xs := xs) (k := k) (by rw [← hm]; exact hk))
  rw [← hm] at hml
  clear hm
  obtain ⟨i0, hi, hz0, hz1, hz2⟩ := info_parts info_intZ
  have Hi := Lib.hid hi
  clear hi
  go_enter Try.func113, Try.ntmps113
  go_wp2_with fail
  refine (implRankOf_any _ _ _ xs _ H.out hn hnc).mono ?_
  rintro e w1 ⟨A1, c1, rfl, ho, hb⟩
  have HB := Lib.hid hb
  have I1 := Lib.hid (IntIn.of_own ho)
  clear ho hb
  rw [HRL.out] at I1 ⊢
  have HZ0 := Lib.hid (show List.replicate m (0 : Int) = Zs.up (Tr.postTo xs 0) by rw [Tr.postTo_zero, ← HM.out]; simp [Zs.up])
  go_wp2_with (at_make; go_loud (refine wpList_make_full _ rfl _ _ 25 rfl w1.heap.size 3 i0 (.int .i64 0) 1 Try.underlying25 Hi.out hz0 hz1 _ _ _ _ m rfl rfl rfl rfl (by rw [hz2]; omega) (by unfold maxLen; omega) (Nat.le_refl _) ?_); intro w2 hown2 hgrow2)
  have hb2 : Below w1.heap.size w1 w2 := (Below.refl _ w1).grown hgrow2 (Nat.le_refl _) (fun _ h => by cases h)
  rw [made_zeros 0 m, HZ0.out] at hown2
  have HO2 := Lib.hid hown2
  have HB2 := Lib.hid hb2
  clear hown2 hgrow2 hb2
  go_wp2
  go_loopw [14] (fun kv wr => ∃ k : Nat, k ≤ m ∧ kv = .int .i64 k ∧ wr.ownsRow w1.heap.size 3 1 (.slice (some ⟨w1.heap.size, 0, none⟩) m m) m (ints (Zs.up (Tr.postTo xs k))) ∧ Below w1.heap.size w1 wr) (fun k _ => m - (intOf k).toNat)
  case atStart => exact ⟨0, Nat.zero_le _, rfl, HO2.out, HB2.out⟩
  case round =>
    clear HO2 HB2
    obtain ⟨k, hk, rfl, hown, hB⟩ := hrel
    have Ho := Lib.hid hown
    have HB2 := Lib.hid hB
    clear hown hB
    by_cases hlt : k < m
    · obtain ⟨hr1, hr2⟩ := HR.out k hlt
      have hset := HS.out k hlt
      rw [← HM.out] at hr2
      obtain ⟨ad, rfl, _, c1⟩ := (I1.out.below HB2.out).at_ hlt
      rw [hr1] at c1
      obtain ⟨p, hp⟩ : ∃ p, p = Tr.rk xs k := ⟨_, rfl⟩
      rw [← hp] at hr2 c1 hset
      have c0 := own_int Ho.out (k := p) (by rw [Zs.up_length, Tr.postTo_length, ← HM.out]; exact hr2)
      have f0 := Ho.out.frozenAt p
      have b0 : (0 : Int) ≤ (p : Int) := by omega
      have b1 : (p : Int) < (m : Int) := by omega
      have b2 : (0 : Int) ≤ (k : Int) := by omega
      have b3 : (k : Int) < (m : Int) := by omega
      have Hset := Lib.hid hset
      clear hset hr1 hr2 hp
      go_wp2
      go_roundw
      case rel =>
        refine ⟨k + 1, by omega, by go_num, ?_, HB2.out.setCell (Nat.le_refl _) _⟩
        have := (Ho.out.stored p (.int .i64 (k : Int))).1
        rw [ints_set, Zs.up_set, Hset.out] at this
        exact this
      case measure => simp [intOf]; omega
    · obtain rfl : k = m := by omega
      have Hf := Lib.hid (show Tr.postTo xs k = Tr.post xs by rw [HM.out]; exact Tr.postTo_all xs)
      rw [Hf.out] at Ho
      go_wp2
      go_ret
      exact ⟨_, _, by rw [Zs.up_length, ← HM.out]; rfl, by rw [Zs.up_length, ← HM.out]; exact own_base Ho.out HB.out.size, HB.out.trans (HB2.out.mono HB.out.size)⟩

end Go.Proofs.Ytajplmopdipbnaa

/- Contracts (LeafI). -/
namespace Go.Proofs.Ytajplmopdipbnaa
open Go.RowKit
set_option linter.unusedVariables false

theorem Tr.lfs_get {xs : Tr} {k : Nat} (hk : k < (Tr.post xs).length) : ∃ i, i < xs.length ∧ Zs.at (Zs.up (Tr.post xs)) k = (i : Int) ∧ Zs.at (Zs.up (Tr.lfs xs)) k = (i : Int) - Tr.d xs i ∧ 0 ≤ Tr.d xs i ∧ Tr.d xs i ≤ 12 := by
  obtain ⟨i, h1, h2, h3, hok, hl⟩ := Tr.post_at hk
  have hi : i < xs.length := by omega
  rw [List.getElem?_eq_getElem hk] at h2
  injection h2 with h2
  have hd := Tr.dn_eq hok hi
  have hd2 := Tr.dn_le hok hi
  refine ⟨i, hi, by rw [Zs.up_at _ _ hk, h2], ?_, (Tr.ok_at hok hi).2.1⟩
  rw [Zs.up_at _ _ (by rw [Tr.lfs_length]; exact hk)]
  simp only [Tr.lfs, List.getElem_map, h2]
  omega
set_option maxHeartbeats 1600000 in
set_option maxRecDepth 100000 in
theorem implLeftLeaf_any (A : Option Addr) (n c : Nat) (xs : Tr) (w : World) (h : NdIn w w.heap.size A n xs) (hn : n ≤ 1048576) (hnc : n ≤ c) :
    Calls Try.prog 111 #[.slice A n c] w (OwnInts 3 (Zs.up (Tr.lfs xs)) w) := by
  have H := Lib.hid h
  clear h
  have HL := Lib.hid H.out.1
  have hml := Tr.post_len_le xs
  rw [H.out.1] at hml
  obtain ⟨m, hm⟩ : ∃ m, m = (Tr.post xs).length := ⟨_, rfl⟩
  have HM := Lib.hid hm
  have HRL := Lib.hid (show (Zs.up (Tr.post xs)).length = m by rw [Zs.up_length, hm])
  have HR := Lib.hid (fun k (hk : k < m) => Tr.lfs_get (xs := xs) (k := k) (by rw [← hm]; exact hk))
  obtain ⟨F, hF⟩ : ∃ F, F = Zs.up (Tr.lfs xs) := ⟨_, rfl⟩
  have HFl := Lib.hid (show F.length = m by rw [hF, Zs.up_length, Tr.lfs_length, hm])
  have HF := Lib.hid hF
  rw [← hm] at hml
  clear hm hF
  obtain ⟨i0, hi, hz0, hz1, hz2⟩ := info_parts info_intZ
  have Hi := Lib.hid hi
  clear hi
  go_enter Try.func111, Try.ntmps111
  go_wp2_with fail
  refine (implPostOrder_any _ _ _ xs _ H.out hn hnc).mono ?_
  rintro e w1 ⟨A1, c1, rfl, ho, hb⟩
  have HB := Lib.hid hb
  have I1 := Lib.hid (IntIn.of_own ho)
  have H1 := Lib.hid (H.out.to_below hb)
  clear ho hb
  rw [HRL.out] at I1 ⊢
  have HZ0 := Lib.hid (show List.replicate m (0 : Int) = Zs.part F 0 by rw [Zs.part_zero, HFl.out])
  go_wp2_with (at_make; go_loud (refine wpList_make_full _ rfl _ _ 25 rfl w1.heap.size 3 i0 (.int .i64 0) 1 Try.underlying25 Hi.out hz0 hz1 _ _ _ _ m rfl rfl rfl rfl (by rw [hz2]; omega) (by unfold maxLen; omega) (Nat.le_refl _) ?_); intro w2 hown2 hgrow2)
  have hb2 : Below w1.heap.size w1 w2 := (Below.refl _ w1).grown hgrow2 (Nat.le_refl _) (fun _ h => by cases h)
  rw [made_zeros 0 m, HZ0.out] at hown2
  have HO2 := Lib.hid hown2
  have HB2 := Lib.hid hb2
  clear hown2 hgrow2 hb2
  go_wp2
  go_loopw [14] (fun kv wr => ∃ k : Nat, k ≤ m ∧ kv = .int .i64 k ∧ wr.ownsRow w1.heap.size 3 1 (.slice (some ⟨w1.heap.size, 0, none⟩) m m) m (ints (Zs.part F k)) ∧ Below w1.heap.size w1 wr) (fun k _ => m - (intOf k).toNat)
  case atStart => exact ⟨0, Nat.zero_le _, rfl, HO2.out, HB2.out⟩
  case round =>
    clear HO2 HB2
    obtain ⟨k, hk, rfl, hown, hB⟩ := hrel
    have Ho := Lib.hid hown
    have HB2 := Lib.hid hB
    clear hown hB
    by_cases hlt : k < m
    · obtain ⟨i, r1, r2, r3, r4, r5⟩ := HR.out k hlt
      rw [← HF.out] at r3
      rw [HL.out] at r1
      obtain ⟨ad, rfl, _, c1⟩ := (I1.out.below HB2.out).at_ hlt
      rw [r2] at c1
      obtain ⟨ad2, rfl, _, l1, d1⟩ := (H1.out.below HB2.out).at_ r1
      have c0 := own_int Ho.out (k := k) (by rw [Zs.part_length F k (by rw [HFl.out]; exact hk), HFl.out]; exact hlt)
      have f0 := Ho.out.frozenAt k
      have b0 : (0 : Int) ≤ (i : Int) := by omega
      have b1 : (i : Int) < (n : Int) := by omega
      have b2 : (0 : Int) ≤ (k : Int) := by omega
      have b3 : (k : Int) < (m : Int) := by omega
      have a1 : IntKind.i64.wrap ((i : Int) - Tr.d xs i) = (i : Int) - Tr.d xs i := Kit.w64 (by omega) (by omega)
      have R3 := Lib.hid r3
      clear r2 r3 r4 r5 l1
      go_wp2
      go_roundw
      case rel =>
        refine ⟨k + 1, by omega, by go_num, ?_, HB2.out.setCell (Nat.le_refl _) _⟩
        have := (Ho.out.stored k (.int .i64 ((i : Int) - Tr.d xs i))).1
        rw [ints_set, ← R3.out, Zs.part_set F k (by rw [HFl.out]; exact hlt), R3.out] at this
        exact this
      case measure => simp [intOf]; omega
    · obtain rfl : k = m := by omega
      have Hf := Lib.hid (show Zs.part F k = F by rw [← HFl.out]; exact Zs.part_all F)
      rw [Hf.out] at Ho
      go_wp2
      go_ret
      exact ⟨_, _, by rw [← HF.out, HFl.out]; rfl, by rw [← HF.out, HFl.out]; exact own_base Ho.out HB.out.size, HB.out.trans (HB2.out.mono HB.out.size)⟩

end Go.Proofs.Ytajplmopdipbnaa

/- Contracts (SlI). -/
namespace Go.Proofs.Ytajplmopdipbnaa
open Go.RowKit
set_option linter.unusedVariables false

set_option maxHeartbeats 1600000 in
set_option maxRecDepth 100000 in
theorem slIndex_any (A : Option Addr) (n c : Nat) (zs : List Int) (i : Int) (w : World) (h : IntIn w w.heap.size A n zs) (hn : n ≤ 1048576) :
    Calls Try.prog 118 #[.slice A n c, .int .i64 i] w fun e w' => e = .returned (.int .i64 (Zs.find zs i 0)) ∧ w = w' := by
  have H := Lib.hid h
  have HL := Lib.hid h.1
  clear h
  have HFS := Lib.hid (fun k => Zs.find_step zs i k)
  go_enter Try.func118, Try.ntmps118
  go_wp2
  go_loop [8] (fun kv => ∃ k : Nat, k ≤ n ∧ kv = .int .i64 k ∧ Zs.find zs i 0 = Zs.find (zs.drop k) i k) (fun k => n - (intOf k).toNat)
  case atStart => exact ⟨0, Nat.zero_le _, rfl, rfl⟩
  case round =>
    obtain ⟨k, hk, rfl, hfi⟩ := hrel
    have HI := Lib.hid hfi
    clear hfi
    by_cases hlt : k < n
    · have hfs := HFS.out k (by rw [HL.out]; exact hlt)
      obtain ⟨ad, rfl, _, c1⟩ := H.out.at_ hlt
      have hz : Zs.at zs k = zs.getD k 0 := rfl
      rw [hz] at c1
      obtain ⟨x, hx⟩ : ∃ x, x = zs.getD k 0 := ⟨_, rfl⟩
      rw [← hx] at c1 hfs
      clear hx hz
      have k0 : (0 : Int) ≤ (k : Int) := by omega
      have k1 : (k : Int) < (n : Int) := by omega
      by_cases hq : x = i
      · have q : (i == x) = true := by simpa using hq.symm
        rw [if_pos hq] at hfs
        have Hs := Lib.hid (HI.out.trans hfs)
        clear hq hfs
        go_wp2
        go_ret
        exact ⟨by rw [Hs.out]; rfl, rfl⟩
      · have q : (i == x) = false := by simpa using fun e => hq e.symm
        rw [if_neg hq] at hfs
        have Hs := Lib.hid (HI.out.trans hfs)
        clear hq hfs
        go_wp2
        go_round
        case rel => exact ⟨k + 1, by omega, by go_num, Hs.out⟩
        case measure => simp [intOf]; omega
    · obtain rfl : k = n := by omega
      have Hs := Lib.hid (show Zs.find zs i 0 = -1 by rw [HI.out, List.drop_eq_nil_of_le (by rw [HL.out]; exact Nat.le_refl _)]; rfl)
      go_wp2
      go_ret
      exact ⟨by rw [Hs.out]; rfl, rfl⟩

end Go.Proofs.Ytajplmopdipbnaa

/- Contracts (SlC). -/
namespace Go.Proofs.Ytajplmopdipbnaa
open Go.RowKit
set_option linter.unusedVariables false

theorem Zs.find_ge (zs : List Int) (i : Int) (k : Nat) : Zs.find zs i k = -1 ∨ (k : Int) ≤ Zs.find zs i k := by
  induction zs generalizing k with
  | nil => exact .inl rfl
  | cons z zs ih =>
    unfold Zs.find
    by_cases h : z = i
    · rw [if_pos h]; exact .inr (Int.le_refl _)
    · rw [if_neg h]
      rcases ih (k + 1) with h | h
      · exact .inl h
      · exact .inr (by omega)
theorem Zs.find_mem (zs : List Int) (i : Int) (k : Nat) : 0 ≤ Zs.find zs i k ↔ i ∈ zs := by
  induction zs generalizing k with
  | nil => simp [Zs.find]
  | cons z zs ih =>
    unfold Zs.find
    by_cases h : z = i
    · rw [if_pos h]; subst h; simp
    · rw [if_neg h, ih (k + 1)]
      simp [show ¬ i = z from fun e => h e.symm]
set_option maxHeartbeats 1600000 in
set_option maxRecDepth 100000 in
theorem slContains_any (A : Option Addr) (n c : Nat) (zs : List Int) (i : Int) (w : World) (h : IntIn w w.heap.size A n zs) (hn : n ≤ 1048576) :
    Calls Try.prog 116 #[.slice A n c, .int .i64 i] w fun e w' => e = .returned (.bool (decide (i ∈ zs))) ∧ w = w' := by
  have H := Lib.hid h
  clear h
  have hm := Zs.find_mem zs i 0
  obtain ⟨z, hz⟩ : ∃ z, z = Zs.find zs i 0 := ⟨_, rfl⟩
  have HZ := Lib.hid hz
  rw [← hz] at hm
  have HM := Lib.hid (show decide (0 ≤ z) = decide (i ∈ zs) by rw [Bool.eq_iff_iff]; simp [hm])
  clear hm hz
  go_enter Try.func116, Try.ntmps116
  go_wp2_with fail
  refine (slIndex_any _ _ _ zs _ _ H.out hn).mono ?_
  rintro e w1 ⟨rfl, rfl⟩
  rw [← HZ.out]
  go_wp2
  go_ret
  exact ⟨by rw [← HM.out]; rfl, rfl⟩

end Go.Proofs.Ytajplmopdipbnaa

/- Contracts (KeyI). -/
namespace Go.Proofs.Ytajplmopdipbnaa
open Go.RowKit
set_option linter.unusedVariables false

theorem IntIn.cut {w : World} {B n : Nat} {ad : Addr} {zs : List Int} (h : IntIn w B (some ad) n zs) {j m : Nat} (hjm : j + m = n) : IntIn w B (some (ad.add j)) m (zs.drop j) := by
  refine ⟨by have := h.1; simp; omega, fun hm => ⟨_, rfl, ?_⟩, fun ad' e k hk => ?_⟩
  · rw [block_of_add]
    obtain ⟨ad', e, hb⟩ := h.2.1 (by omega)
    obtain rfl : ad = ad' := by injection e
    exact hb
  · obtain rfl : ad.add j = ad' := by injection e
    have hc := h.2.2 ad rfl (j + k) (by omega)
    rw [add_of_add]
    simpa [Zs.at, List.getD_eq_getElem?_getD] using hc
theorem IntIn.none {w : World} {B : Nat} {A : Option Addr} : IntIn w B A 0 [] := ⟨rfl, fun h => absurd h (Nat.lt_irrefl 0), fun ad _ k hk => absurd hk (Nat.not_lt_zero k)⟩
theorem Zs.last_in (F : List Nat) (k : Nat) (hk : k < F.length) : Zs.lastTo F k F.length = !decide (Zs.at (Zs.up F) k ∈ (Zs.up F).drop (k + 1)) := by
  rw [Bool.eq_iff_iff]
  simp only [Zs.lastTo, List.all_eq_true, List.mem_range, Bool.or_eq_true, decide_eq_true_eq, Bool.not_eq_true', decide_eq_false_iff_not]
  rw [Zs.up_at F k hk]
  have hgk : F.getD k 0 = F[k] := by simp [List.getD_eq_getElem?_getD, hk]
  constructor
  · intro h hm
    obtain ⟨j, hj, e⟩ := List.getElem_of_mem hm
    simp [Zs.up] at hj e
    have := h (k + 1 + j) (by omega)
    rw [hgk] at this
    simp [List.getD_eq_getElem?_getD, show k + 1 + j < F.length by omega] at this
    omega
  · intro h j hj
    by_cases q : j ≤ k
    · exact .inl q
    · refine .inr fun e => h ?_
      rw [hgk] at e
      have e2 : F.getD j 0 = F[j] := by simp [List.getD_eq_getElem?_getD, hj]
      rw [List.mem_iff_getElem]
      exact ⟨j - (k + 1), by simp [Zs.up]; omega, by simp [Zs.up, show k + 1 + (j - (k + 1)) = j by omega]; omega⟩
set_option maxHeartbeats 1600000 in
set_option maxRecDepth 100000 in
theorem implKeyRoots_any (A : Option Addr) (n c : Nat) (xs : Tr) (w : World) (h : NdIn w w.heap.size A n xs) (hn : n ≤ 1048576) (hnc : n ≤ c) :
    Calls Try.prog 112 #[.slice A n c] w (OwnInts 3 (Zs.up (Tr.krs xs)) w) := by
  have H := Lib.hid h
  clear h
  have hml := Tr.post_len_le xs
  rw [H.out.1, ← Tr.lfs_length] at hml
  obtain ⟨G, hG⟩ : ∃ G, G = Tr.lfs xs := ⟨_, rfl⟩
  have HS := Lib.hid (fun k => Tr.krTo_succ xs k)
  have HLe := Lib.hid (fun k => Tr.krTo_le xs k)
  have HK := Lib.hid (show Tr.krs xs = Tr.krTo xs G.length by rw [hG]; rfl)
  rw [← hG] at hml HS
  have HIN := Lib.hid (fun k hk => Zs.last_in G k hk)
  obtain ⟨m, hm⟩ : ∃ m, m = G.length := ⟨_, rfl⟩
  obtain ⟨F, hF⟩ : ∃ F, F = Zs.up G := ⟨_, rfl⟩
  have HFl := Lib.hid (show F.length = m by rw [hF, Zs.up_length, hm])
  have HF := Lib.hid (show Zs.up (Tr.lfs xs) = F by rw [hF, hG])
  rw [← hm] at hml HS HK HIN
  rw [← hF] at HIN
  clear hm hF hG
  obtain ⟨i0, hi, hz0, hz1, hz2⟩ := info_parts info_intZ
  have Hi := Lib.hid hi
  clear hi
  go_enter Try.func112, Try.ntmps112
  go_wp2_with fail
  refine (implLeftLeaf_any _ _ _ xs _ H.out hn hnc).mono ?_
  rintro e w1 ⟨A1, c1, rfl, ho, hb⟩
  have HB := Lib.hid hb
  rw [HF.out, HFl.out] at ho ⊢
  have I1 := Lib.hid (IntIn.of_own ho)
  have hmc := own_cap ho
  clear ho hb
  go_wp2
  go_loopw [11, 4] (fun kv ov wr => ∃ k : Nat, k ≤ m ∧ kv = .int .i64 k ∧ wr.ownsRow w1.heap.size 3 1 ov (Zs.up (Tr.krTo xs k)).length (ints (Zs.up (Tr.krTo xs k))) ∧ Below w1.heap.size w1 wr) (fun k _ _ => m - (intOf k).toNat)
  case atStart => exact ⟨0, Nat.zero_le _, rfl, own_nil, Below.refl _ _⟩
  case round =>
    obtain ⟨k, hk, rfl, hown, hB⟩ := hrel
    have Ho := Lib.hid hown
    have HB2 := Lib.hid hB
    clear hown hB
    have hsx := HB2.out.size
    by_cases hlt : k < m
    · have hin := HIN.out k hlt
      have hs := HS.out k
      rw [hin] at hs
      have hle := HLe.out k
      obtain ⟨ad, rfl, _, c0⟩ := (I1.out.below HB2.out).at_ hlt
      obtain ⟨x, hx⟩ : ∃ x, x = Zs.at F k := ⟨_, rfl⟩
      rw [← hx] at hs c0
      have b2 : (0 : Int) ≤ (k : Int) := by omega
      have b3 : (k : Int) < (m : Int) := by omega
      have b4 : (k : Int) + 1 ≤ (m : Int) := by omega
      have b5 : (m : Int) ≤ (c1 : Int) := by omega
      have b6 : (0 : Int) ≤ (k : Int) + 1 := by omega
      have b7 : ((k : Int) + 1).toNat = k + 1 := by omega
      have a1 : IntKind.i64.wrap ((k : Int) + 1) = (k : Int) + 1 := Kit.w64 (by omega) (by omega)
      have IC := Lib.hid (((I1.out.to_below HB2.out)).cut (j := k + 1) (m := m - (k + 1)) (by omega))
      have hmk : m - (k + 1) ≤ 1048576 := by omega
      clear hin hx
      cases hd : decide (x ∈ F.drop (k + 1)) with
      | true =>
        rw [hd] at hs
        have Hs := Lib.hid (hs.trans (if_neg (by decide)))
        have Hd := Lib.hid hd
        clear hs hd
        by_cases hc : c1 = k + 1
        · have I0 := Lib.hid (show IntIn wr wr.heap.size (some ad) 0 (F.drop (k + 1)) by
            rw [List.drop_eq_nil_of_le (by rw [HFl.out]; omega)]; exact IntIn.none)
          have hc2 : k + 1 = c1 := hc.symm
          clear hc hmk
          go_wp2_with fail
          refine (slContains_any _ _ _ (F.drop (k + 1)) x _ I0.out (Nat.zero_le _)).mono ?_
          rintro e w3 ⟨rfl, rfl⟩
          rw [Hd.out]
          go_wp2
          go_roundw
          case rel => exact ⟨k + 1, by omega, by go_num, by rw [Hs.out]; exact Ho.out, HB2.out⟩
          case measure => simp [intOf]; omega
        · go_wp2_with fail
          refine (slContains_any _ _ _ (F.drop (k + 1)) x _ IC.out hmk).mono ?_
          rintro e w3 ⟨rfl, rfl⟩
          rw [Hd.out]
          go_wp2
          go_roundw
          case rel => exact ⟨k + 1, by omega, by go_num, by rw [Hs.out]; exact Ho.out, HB2.out⟩
          case measure => simp [intOf]; omega
      | false =>
        rw [hd] at hs
        have Hs := Lib.hid (hs.trans (if_pos rfl))
        have Hd := Lib.hid hd
        clear hs hd
        by_cases hc : c1 = k + 1
        · have I0 := Lib.hid (show IntIn wr wr.heap.size (some ad) 0 (F.drop (k + 1)) by
            rw [List.drop_eq_nil_of_le (by rw [HFl.out]; omega)]; exact IntIn.none)
          have hc2 : k + 1 = c1 := hc.symm
          clear hc hmk
          go_wp2_with fail
          refine (slContains_any _ _ _ (F.drop (k + 1)) x _ I0.out (Nat.zero_le _)).mono ?_
          rintro e w3 ⟨rfl, rfl⟩
          rw [Hd.out]
          go_wp2_with (at_builtin; go_loud (refine append_int wr rfl _ _ 25 rfl w1.heap.size 3 i0 Try.underlying25 Hi.out hz0 hz1 hz2 u4 (Zs.up (Tr.krTo xs k)).length (Zs.up (Tr.krTo xs k)) rfl Ho.out rfl (k : Int) rfl (by rw [Zs.up_length]; omega) hsx ?_); intro v' w3 hown hgrow)
          have hb3 := Kit.below_own HB2.out Ho.out hgrow
          rw [show Zs.up (Tr.krTo xs k) ++ [(k : Int)] = Zs.up (Tr.krTo xs (k + 1)) by rw [Hs.out, Zs.up_append]; rfl] at hown
          go_roundw
          case rel => exact ⟨k + 1, by omega, by go_num, hown, hb3⟩
          case measure => simp [intOf]; omega
        · go_wp2_with fail
          refine (slContains_any _ _ _ (F.drop (k + 1)) x _ IC.out hmk).mono ?_
          rintro e w3 ⟨rfl, rfl⟩
          rw [Hd.out]
          go_wp2_with (at_builtin; go_loud (refine append_int wr rfl _ _ 25 rfl w1.heap.size 3 i0 Try.underlying25 Hi.out hz0 hz1 hz2 u4 (Zs.up (Tr.krTo xs k)).length (Zs.up (Tr.krTo xs k)) rfl Ho.out rfl (k : Int) rfl (by rw [Zs.up_length]; omega) hsx ?_); intro v' w3 hown hgrow)
          have hb3 := Kit.below_own HB2.out Ho.out hgrow
          rw [show Zs.up (Tr.krTo xs k) ++ [(k : Int)] = Zs.up (Tr.krTo xs (k + 1)) by rw [Hs.out, Zs.up_append]; rfl] at hown
          go_roundw
          case rel => exact ⟨k + 1, by omega, by go_num, hown, hb3⟩
          case measure => simp [intOf]; omega
    · obtain rfl : k = m := by omega
      go_wp2
      obtain ⟨A2, c2, rfl⟩ := own_slice Ho.out
      go_ret
      exact ⟨A2, c2, by rw [HK.out]; rfl, by rw [HK.out]; exact own_base Ho.out HB.out.size, HB.out.trans (HB2.out.mono HB.out.size)⟩

end Go.Proofs.Ytajplmopdipbnaa

/- Contracts (StepA). -/
namespace Go.Proofs.Ytajplmopdipbnaa
open Go.RowKit
set_option linter.unusedVariables false

/-- out = append(out, x...) as one step of a region that draws: a row of ints of the call's own, another that reads as ints -/
theorem step_append_ints {P : Program} {ops : Array Oper} {o : Oper} {a : Act} (w : World) {K : Act → World → Prop} {Q : Exit → Act → World → Prop} {E : Prop} (hgd : o.guard = none) (s x : Operand) (t : TypeId)
    (ho : o.op = .call { callee := .builtin .append, args := #[s, x], argTypes := #[t, t] })
    (base : Nat) (e : TypeId) (i : TypeInfo) (ht : P.underlying t = some (.slice e)) (hi : P.info? e = some i) (hz : i.zero = some (.int .i64 0))
    (hsize : i.size = 1) (hby : i.bytes = 8) (v : Value) (n m N : Nat) (l zs : List Int) (hs : a.eval s = v) (hown : w.ownsRow base e 1 v n (ints l))
    {B : Nat} (A : Option Addr) (c : Nat) (hx : a.eval x = .slice A m c) (hin : IntIn w B A m zs) (hpos : 0 < m) (hN : n + m = N)
    (h63 : N ≤ 1073741824) (hbase : base ≤ w.heap.size)
    (h : ∀ v' w', w'.ownsRow base e 1 v' N (ints (l ++ zs)) → w.grownBy w' v.ownBlock → K (a.put o.dst v') w') :
    if Region.wanted o (yielded ops a.tmps) = true then Oper.wp P o a w K Q else E := by
  have hw : Region.wanted o (yielded ops a.tmps) = true := by simp [Region.wanted, hgd]
  rw [if_pos hw]
  subst hN
  obtain ⟨ad, rfl, _⟩ := hin.2.1 hpos
  refine wp_append_own _ s x t ho base e i (.int .i64 0) 1 8 ht hi hz hsize hby rfl (by decide) v n (ints l) hs hown ad m c (ints zs) hx (by rw [ints_length, hin.1, Nat.mul_one]) hin.cells_at (ints_cell _) (by unfold maxLen; omega) (by omega) hbase ?_
  intro v' w' h2 h3 _
  refine h v' w' ?_ h3
  rw [ints_append]
  exact h2
/-- a write into a row of one's own leaves what lies below the base -/
theorem below_of_own {w w' : World} {base n size : Nat} {e : TypeId} {v : Value} {ys : List Value} (h : w.ownsRow base e size v n ys) (hg : w.grownBy w' v.ownBlock) (hb : base ≤ w.heap.size) : Below base w w' :=
  (Below.refl _ w).grown hg hb (fun k hk => (h.lt k hk).1)

end Go.Proofs.Ytajplmopdipbnaa

/- Contracts (Three). -/
namespace Go.Proofs.Ytajplmopdipbnaa
open Go.RowKit
set_option linter.unusedVariables false

theorem Apart.symm {a b : Value} (h : Apart a b) : Apart b a := by
  rcases hb : b.ownBlock with _ | g
  · exact .inl hb
  · refine .inr fun e => ?_
    rcases h with h | h
    · rw [hb, h] at e; cases e
    · exact h e.symm
/-- a struct of three rows of ints that a call builds: in block g; the rows behind it, apart from one another -/
def ThreeAt (w0 : World) (g n0 n1 n2 : Nat) (L0 L1 L2 : List Int) (v0 v1 v2 : Value) (w : World) : Prop :=
  Box3 w g v0 v1 v2 ∧ (∀ off, w.frozen? ⟨g, off, none⟩ = false) ∧ w.ownsRow (g + 1) 3 1 v0 n0 (ints L0) ∧ w.ownsRow (g + 1) 3 1 v1 n1 (ints L1) ∧ w.ownsRow (g + 1) 3 1 v2 n2 (ints L2) ∧
  Apart v0 v1 ∧ Apart v0 v2 ∧ Apart v1 v2 ∧ Below w0.heap.size w0 w ∧ g < w.heap.size
theorem Three.push0 {w0 w w' : World} {g : Nat} {n0 n1 n2 n' : Nat} {L0 L1 L2 L' : List Int} {v0 v1 v2 v' : Value} {o : Obj} (hg : w0.heap.size ≤ g) (h : ThreeAt w0 g n0 n1 n2 L0 L1 L2 v0 v1 v2 w)
    (hown : w'.ownsRow (g + 1) 3 1 v' n' (ints L')) (hgrow : (w.alloc o).grownBy w' v0.ownBlock) (hw : v'.ownBlock = v0.ownBlock ∨ v'.ownBlock = some (w.heap.size + 1)) :
    ThreeAt w0 g n' n1 n2 L' L1 L2 v' v1 v2 (w'.setCell ⟨g, 0, none⟩ v') := by
  obtain ⟨hb, hf, o0, o1, o2, a01, a02, a12, hB, hgl⟩ := h
  have hsz : (w.alloc o).heap.size = w.heap.size + 1 := by simp
  have hgw : g < w'.heap.size := by have := hgrow.size; omega
  have hw' : v'.ownBlock = v0.ownBlock ∨ v'.ownBlock = some (w.alloc o).heap.size := by rw [hsz]; exact hw
  have hc : ∀ off, w'.cell? ⟨g, off, none⟩ = w.cell? ⟨g, off, none⟩ := fun off => by
    rw [World.cell?_of_block (hgrow.block g (by omega) (fun e => by have := (o0.lt g e.symm).1; omega))]
    exact World.cell?_alloc_lt w o ⟨g, off, none⟩ hgl
  have hfz : ∀ off, w'.frozen? ⟨g, off, none⟩ = w.frozen? ⟨g, off, none⟩ := fun off => by
    have e := hgrow.block g (by omega) (fun e => by have := (o0.lt g e.symm).1; omega)
    have e2 : (w.alloc o).heap[g]? = w.heap[g]? := Below.heap_alloc w o g hgl
    unfold World.frozen?
    simp only [e, e2]
  have hgs := Kit.grown_set w' g 0 v'
  have keep : ∀ {v : Value} {n : Nat} {ys : List Value}, w'.ownsRow (g + 1) 3 1 v n ys → (w'.setCell ⟨g, 0, none⟩ v').ownsRow (g + 1) 3 1 v n ys := fun k => own_grown k hgs (fun b hb => by injection hb with hb; omega)
  have hB' : Below w0.heap.size w0 w' := (hB.alloc hB.size o).grown hgrow (by have := hB.size; omega) (fun b hb => by have := (o0.lt b hb).1; omega)
  refine ⟨?_, fun off => ?_, ?_, ?_, ?_, (a01.symm.grew (o1.alloc o) hw').symm, (a02.symm.grew (o2.alloc o) hw').symm, a12, hB'.setCell (by exact hg) _, by simpa using hgw⟩
  · obtain ⟨b0, b1, b2⟩ := hb
    rw [← hc 0] at b0
    rw [← hc 1] at b1
    rw [← hc 2] at b2
    refine ⟨?_, ?_, ?_⟩
    · exact World.cell?_setCell_same' _ _ _ (by rw [b0]; rfl)
    · rw [World.cell?_setCell_other _ _ _ _ (fun e => by injection e with e1 e2; omega)]; exact b1
    · rw [World.cell?_setCell_other _ _ _ _ (fun e => by injection e with e1 e2; omega)]; exact b2
  · rw [World.frozen?_setCell, hfz]; exact hf off
  · exact keep hown
  · exact keep (World.ownsRow.kept (o1.alloc o) hgrow a01.symm)
  · exact keep (World.ownsRow.kept (o2.alloc o) hgrow a02.symm)
theorem Three.push1 {w0 w w' : World} {g : Nat} {n0 n1 n2 n' : Nat} {L0 L1 L2 L' : List Int} {v0 v1 v2 v' : Value} {o : Obj} (hg : w0.heap.size ≤ g) (h : ThreeAt w0 g n0 n1 n2 L0 L1 L2 v0 v1 v2 w)
    (hown : w'.ownsRow (g + 1) 3 1 v' n' (ints L')) (hgrow : (w.alloc o).grownBy w' v1.ownBlock) (hw : v'.ownBlock = v1.ownBlock ∨ v'.ownBlock = some (w.heap.size + 1)) :
    ThreeAt w0 g n0 n' n2 L0 L' L2 v0 v' v2 (w'.setCell ⟨g, 1, none⟩ v') := by
  obtain ⟨hb, hf, o0, o1, o2, a01, a02, a12, hB, hgl⟩ := h
  have hsz : (w.alloc o).heap.size = w.heap.size + 1 := by simp
  have hgw : g < w'.heap.size := by have := hgrow.size; omega
  have hw' : v'.ownBlock = v1.ownBlock ∨ v'.ownBlock = some (w.alloc o).heap.size := by rw [hsz]; exact hw
  have hc : ∀ off, w'.cell? ⟨g, off, none⟩ = w.cell? ⟨g, off, none⟩ := fun off => by
    rw [World.cell?_of_block (hgrow.block g (by omega) (fun e => by have := (o1.lt g e.symm).1; omega))]
    exact World.cell?_alloc_lt w o ⟨g, off, none⟩ hgl
  have hfz : ∀ off, w'.frozen? ⟨g, off, none⟩ = w.frozen? ⟨g, off, none⟩ := fun off => by
    have e := hgrow.block g (by omega) (fun e => by have := (o1.lt g e.symm).1; omega)
    have e2 : (w.alloc o).heap[g]? = w.heap[g]? := Below.heap_alloc w o g hgl
    unfold World.frozen?
    simp only [e, e2]
  have hgs := Kit.grown_set w' g 1 v'
  have keep : ∀ {v : Value} {n : Nat} {ys : List Value}, w'.ownsRow (g + 1) 3 1 v n ys → (w'.setCell ⟨g, 1, none⟩ v').ownsRow (g + 1) 3 1 v n ys := fun k => own_grown k hgs (fun b hb => by injection hb with hb; omega)
  have hB' : Below w0.heap.size w0 w' := (hB.alloc hB.size o).grown hgrow (by have := hB.size; omega) (fun b hb => by have := (o1.lt b hb).1; omega)
  refine ⟨?_, fun off => ?_, ?_, ?_, ?_, a01.grew (o0.alloc o) hw', a02, (a12.symm.grew (o2.alloc o) hw').symm, hB'.setCell (by exact hg) _, by simpa using hgw⟩
  · obtain ⟨b0, b1, b2⟩ := hb
    rw [← hc 0] at b0
    rw [← hc 1] at b1
    rw [← hc 2] at b2
    refine ⟨?_, ?_, ?_⟩
    · rw [World.cell?_setCell_other _ _ _ _ (fun e => by injection e with e1 e2; omega)]; exact b0
    · exact World.cell?_setCell_same' _ _ _ (by rw [b1]; rfl)
    · rw [World.cell?_setCell_other _ _ _ _ (fun e => by injection e with e1 e2; omega)]; exact b2
  · rw [World.frozen?_setCell, hfz]; exact hf off
  · exact keep (World.ownsRow.kept (o0.alloc o) hgrow a01)
  · exact keep hown
  · exact keep (World.ownsRow.kept (o2.alloc o) hgrow a12.symm)
theorem Three.push2 {w0 w w' : World} {g : Nat} {n0 n1 n2 n' : Nat} {L0 L1 L2 L' : List Int} {v0 v1 v2 v' : Value} {o : Obj} (hg : w0.heap.size ≤ g) (h : ThreeAt w0 g n0 n1 n2 L0 L1 L2 v0 v1 v2 w)
    (hown : w'.ownsRow (g + 1) 3 1 v' n' (ints L')) (hgrow : (w.alloc o).grownBy w' v2.ownBlock) (hw : v'.ownBlock = v2.ownBlock ∨ v'.ownBlock = some (w.heap.size + 1)) :
    ThreeAt w0 g n0 n1 n' L0 L1 L' v0 v1 v' (w'.setCell ⟨g, 2, none⟩ v') := by
  obtain ⟨hb, hf, o0, o1, o2, a01, a02, a12, hB, hgl⟩ := h
  have hsz : (w.alloc o).heap.size = w.heap.size + 1 := by simp
  have hgw : g < w'.heap.size := by have := hgrow.size; omega
  have hw' : v'.ownBlock = v2.ownBlock ∨ v'.ownBlock = some (w.alloc o).heap.size := by rw [hsz]; exact hw
  have hc : ∀ off, w'.cell? ⟨g, off, none⟩ = w.cell? ⟨g, off, none⟩ := fun off => by
    rw [World.cell?_of_block (hgrow.block g (by omega) (fun e => by have := (o2.lt g e.symm).1; omega))]
    exact World.cell?_alloc_lt w o ⟨g, off, none⟩ hgl
  have hfz : ∀ off, w'.frozen? ⟨g, off, none⟩ = w.frozen? ⟨g, off, none⟩ := fun off => by
    have e := hgrow.block g (by omega) (fun e => by have := (o2.lt g e.symm).1; omega)
    have e2 : (w.alloc o).heap[g]? = w.heap[g]? := Below.heap_alloc w o g hgl
    unfold World.frozen?
    simp only [e, e2]
  have hgs := Kit.grown_set w' g 2 v'
  have keep : ∀ {v : Value} {n : Nat} {ys : List Value}, w'.ownsRow (g + 1) 3 1 v n ys → (w'.setCell ⟨g, 2, none⟩ v').ownsRow (g + 1) 3 1 v n ys := fun k => own_grown k hgs (fun b hb => by injection hb with hb; omega)
  have hB' : Below w0.heap.size w0 w' := (hB.alloc hB.size o).grown hgrow (by have := hB.size; omega) (fun b hb => by have := (o2.lt b hb).1; omega)
  refine ⟨?_, fun off => ?_, ?_, ?_, ?_, a01, a02.grew (o0.alloc o) hw', a12.grew (o1.alloc o) hw', hB'.setCell (by exact hg) _, by simpa using hgw⟩
  · obtain ⟨b0, b1, b2⟩ := hb
    rw [← hc 0] at b0
    rw [← hc 1] at b1
    rw [← hc 2] at b2
    refine ⟨?_, ?_, ?_⟩
    · rw [World.cell?_setCell_other _ _ _ _ (fun e => by injection e with e1 e2; omega)]; exact b0
    · rw [World.cell?_setCell_other _ _ _ _ (fun e => by injection e with e1 e2; omega)]; exact b1
    · exact World.cell?_setCell_same' _ _ _ (by rw [b2]; rfl)
  · rw [World.frozen?_setCell, hfz]; exact hf off
  · exact keep (World.ownsRow.kept (o0.alloc o) hgrow a02)
  · exact keep (World.ownsRow.kept (o1.alloc o) hgrow a12)
  · exact keep hown
theorem Three.mid0 {w0 w w' : World} {g : Nat} {n0 n1 n2 : Nat} {L0 L1 L2 : List Int} {v0 v1 v2 : Value} {o : Obj} (h : ThreeAt w0 g n0 n1 n2 L0 L1 L2 v0 v1 v2 w) (hgrow : (w.alloc o).grownBy w' v0.ownBlock) :
    (∀ off, w'.cell? ⟨g, off, none⟩ = w.cell? ⟨g, off, none⟩) ∧ ∀ off, w'.frozen? ⟨g, off, none⟩ = false := by
  obtain ⟨hb, hf, o0, o1, o2, a01, a02, a12, hB, hgl⟩ := h
  have hsz : (w.alloc o).heap.size = w.heap.size + 1 := by simp
  have e := hgrow.block g (by omega) (fun e => by have := (o0.lt g e.symm).1; omega)
  refine ⟨fun off => ?_, fun off => ?_⟩
  · rw [World.cell?_of_block e]
    exact World.cell?_alloc_lt w o ⟨g, off, none⟩ hgl
  · have e2 : (w.alloc o).heap[g]? = w.heap[g]? := Below.heap_alloc w o g hgl
    have := hf off
    unfold World.frozen? at this ⊢
    simp only [e, e2]
    exact this
theorem Three.mid1 {w0 w w' : World} {g : Nat} {n0 n1 n2 : Nat} {L0 L1 L2 : List Int} {v0 v1 v2 : Value} {o : Obj} (h : ThreeAt w0 g n0 n1 n2 L0 L1 L2 v0 v1 v2 w) (hgrow : (w.alloc o).grownBy w' v1.ownBlock) :
    (∀ off, w'.cell? ⟨g, off, none⟩ = w.cell? ⟨g, off, none⟩) ∧ ∀ off, w'.frozen? ⟨g, off, none⟩ = false := by
  obtain ⟨hb, hf, o0, o1, o2, a01, a02, a12, hB, hgl⟩ := h
  have hsz : (w.alloc o).heap.size = w.heap.size + 1 := by simp
  have e := hgrow.block g (by omega) (fun e => by have := (o1.lt g e.symm).1; omega)
  refine ⟨fun off => ?_, fun off => ?_⟩
  · rw [World.cell?_of_block e]
    exact World.cell?_alloc_lt w o ⟨g, off, none⟩ hgl
  · have e2 : (w.alloc o).heap[g]? = w.heap[g]? := Below.heap_alloc w o g hgl
    have := hf off
    unfold World.frozen? at this ⊢
    simp only [e, e2]
    exact this
theorem Three.mid2 {w0 w w' : World} {g : Nat} {n0 n1 n2 : Nat} {L0 L1 L2 : List Int} {v0 v1 v2 : Value} {o : Obj} (h : ThreeAt w0 g n0 n1 n2 L0 L1 L2 v0 v1 v2 w) (hgrow : (w.alloc o).grownBy w' v2.ownBlock) :
    (∀ off, w'.cell? ⟨g, off, none⟩ = w.cell? ⟨g, off, none⟩) ∧ ∀ off, w'.frozen? ⟨g, off, none⟩ = false := by
  obtain ⟨hb, hf, o0, o1, o2, a01, a02, a12, hB, hgl⟩ := h
  have hsz : (w.alloc o).heap.size = w.heap.size + 1 := by simp
  have e := hgrow.block g (by omega) (fun e => by have := (o2.lt g e.symm).1; omega)
  refine ⟨fun off => ?_, fun off => ?_⟩
  · rw [World.cell?_of_block e]
    exact World.cell?_alloc_lt w o ⟨g, off, none⟩ hgl
  · have e2 : (w.alloc o).heap[g]? = w.heap[g]? := Below.heap_alloc w o g hgl
    have := hf off
    unfold World.frozen? at this ⊢
    simp only [e, e2]
    exact this
/-- the struct as it is made: three empty rows -/
theorem Three.new (w0 : World) (e : TypeId) : ThreeAt w0 w0.heap.size 0 0 0 [] [] [] (.slice none 0 0) (.slice none 0 0) (.slice none 0 0) (w0.alloc (.cells #[.slice none 0 0, .slice none 0 0, .slice none 0 0] e)) :=
  ⟨Box3.made _ _ _ _ _, Box3.free _ _ _ _ _, own_nil, own_nil, own_nil, .inl rfl, .inl rfl, .inl rfl, (Below.refl _ _).alloc (Nat.le_refl _) _, by simp⟩
/-- its three rows, as they lie behind a store of it into another struct -/
theorem Three.out {w0 w : World} {g n0 n1 n2 s : Nat} {L0 L1 L2 : List Int} {v0 v1 v2 u0 u1 u2 : Value} (h : ThreeAt w0 g n0 n1 n2 L0 L1 L2 v0 v1 v2 w) (hs : s ≤ g) {base : Nat} (hb : base ≤ g) :
    let W := ((w.setCell ⟨s, 0, none⟩ u0).setCell ⟨s, 1, none⟩ u1).setCell ⟨s, 2, none⟩ u2
    W.ownsRow base 3 1 v0 n0 (ints L0) ∧ W.ownsRow base 3 1 v1 n1 (ints L1) ∧ W.ownsRow base 3 1 v2 n2 (ints L2) ∧ Apart v0 v1 ∧ Apart v0 v2 ∧ Apart v1 v2 := by
  obtain ⟨hx, hf, o0, o1, o2, a01, a02, a12, hB, hgl⟩ := h
  have keep : ∀ (v : Value) (n : Nat) (ys : List Value), w.ownsRow (g + 1) 3 1 v n ys → (((w.setCell ⟨s, 0, none⟩ u0).setCell ⟨s, 1, none⟩ u1).setCell ⟨s, 2, none⟩ u2).ownsRow base 3 1 v n ys := fun _ _ _ k =>
    own_base (own_grown (own_grown (own_grown k (Kit.grown_set _ _ _ _) (fun b hb => by injection hb with hb; omega)) (Kit.grown_set _ _ _ _) (fun b hb => by injection hb with hb; omega)) (Kit.grown_set _ _ _ _) (fun b hb => by injection hb with hb; omega)) (by omega)
  exact ⟨keep _ _ _ o0, keep _ _ _ o1, keep _ _ _ o2, a01, a02, a12⟩

end Go.Proofs.Ytajplmopdipbnaa
