/- Texts of one claim laid into one file, in build order: L7In, CostOkS, LabsS. -/
import Derived.Test.YtlndaflhlkbedaaMg3
import Derived.Outline
/- Contracts (L7In). -/
namespace Go.Proofs.Ytlndaflhlkbedaa
open Go.RowKit
set_option linter.unusedVariables false

set_option maxHeartbeats 1600000 in
set_option maxRecDepth 100000 in
theorem l7In_any (A : Option Addr) (n c : Nat) (zs : List Int) (m : Nat) (w : World) (h : IntIn w w.heap.size A n zs) (hn : n ≤ 1048576) (hm : m ≤ 1000) :
    Calls Try.prog 78 #[.slice A n c, .int .i64 m] w fun e w' => e = .returned (.bool (Zs.fit zs m)) ∧ w = w' := by
  have H := Lib.hid h
  have HL := Lib.hid h.1
  clear h
  go_enter Try.func78, Try.ntmps78
  go_wp2
  go_loop [5] (fun iv => ∃ k : Nat, k ≤ n ∧ iv = .int .i64 k ∧ Zs.inTo zs k) (fun i => n - (intOf i).toNat)
  case atStart => exact ⟨0, Nat.zero_le _, rfl, fun j hj => absurd hj (Nat.not_lt_zero j)⟩
  case round =>
    obtain ⟨k, hk, rfl, hin⟩ := hrel
    have HI := Lib.hid hin
    clear hin
    by_cases hlt : k < n
    · obtain ⟨ad, rfl, _, c1⟩ := H.out.at_ hlt
      obtain ⟨z, hz⟩ : ∃ z, z = Zs.at zs k := ⟨_, rfl⟩
      rw [← hz] at c1
      have HZ := Lib.hid hz
      clear hz
      have k0 : (0 : Int) ≤ (k : Int) := by omega
      have k1 : (k : Int) < (n : Int) := by omega
      by_cases hq : 0 ≤ z ∧ z ≤ 1000
      · have q : decide (0 ≤ z ∧ z ≤ 1000) = true := by simpa using hq
        have Hq := Lib.hid hq
        clear hq
        go_wp2_with fail
        refine (l1In_any _ _ _ _).mono ?_
        rintro e w1 ⟨rfl, rfl⟩
        rw [q]
        go_wp2
        go_round
        case rel => exact ⟨k + 1, by omega, by go_num, fun j hj => by
          rcases Nat.lt_succ_iff_lt_or_eq.1 hj with h' | rfl
          · exact HI.out j h'
          · rw [← HZ.out]; exact Hq.out⟩
        case measure => simp [intOf]; omega
      · have q : decide (0 ≤ z ∧ z ≤ 1000) = false := by simpa using hq
        have Hf := Lib.hid (Zs.fit_not (zs := zs) (k := k) (n := m) (by rw [HL.out]; exact hlt) (by rw [← HZ.out]; exact hq))
        clear hq
        go_wp2_with fail
        refine (l1In_any _ _ _ _).mono ?_
        rintro e w1 ⟨rfl, rfl⟩
        rw [q]
        go_wp2
        go_ret
        exact ⟨Kit.ret_bool Hf.out.symm, rfl⟩
    · obtain rfl : k = n := by omega
      have Hf := Lib.hid (Zs.fit_all (zs := zs) (n := m) (by rw [HL.out]; exact HI.out))
      go_wp2
      go_ret
      exact ⟨Kit.ret_bool (by rw [Hf.out, HL.out, Bool.eq_iff_iff]; simp; omega), rfl⟩

end Go.Proofs.Ytlndaflhlkbedaa

/- Contracts (CostOkS). -/
namespace Go.Proofs.Ytlndaflhlkbedaa
open Go.RowKit
set_option linter.unusedVariables false

theorem Co.diag_not {k : Co} {a : Nat} (ha : a < 6) (h : Zs.at k.r (a * 6 + a) ≠ 0) : Co.diag k = false := by
  rw [Bool.eq_false_iff]
  intro e
  simp only [Co.diag, List.all_eq_true, List.mem_range, decide_eq_true_eq] at e
  exact h (e a ha)
def Co.diagTo (k : Co) (a : Nat) : Prop := ∀ b, b < a → Zs.at k.r (b * 6 + b) = 0
theorem Co.diag_all {k : Co} (h : Co.diagTo k 6) : Co.diag k = true := by
  simp only [Co.diag, List.all_eq_true, List.mem_range, decide_eq_true_eq]
  exact h
set_option maxHeartbeats 1600000 in
set_option maxRecDepth 100000 in
theorem specCostOk_any (A0 A1 A2 : Option Addr) (n0 n1 n2 c0 c1 c2 : Nat) (k : Co) (w : World) (h : CoIn w w.heap.size A0 A1 A2 n0 n1 n2 k) (h0 : n0 ≤ 1048576) (h1 : n1 ≤ 1048576) (h2 : n2 ≤ 1048576) :
    Calls Try.prog 23 #[.agg #[.slice A0 n0 c0, .slice A1 n1 c1, .slice A2 n2 c2]] w fun e w' => e = .returned (.bool (Co.ok k)) ∧ Below w.heap.size w w' := by
  have H := Lib.hid h
  have HL := Lib.hid h.len
  clear h
  have HB := Lib.hid ((Below.refl w.heap.size w).alloc (Nat.le_refl _) (.cells #[.slice A0 n0 c0, .slice A1 n1 c1, .slice A2 n2 c2] 27))
  have H1 := Lib.hid (H.out.to_below HB.out)
  cases e0 : Zs.fit k.d 6 with
  | false =>
    have Hf := Lib.hid (show Co.ok k = false by unfold Co.ok; rw [e0]; rfl)
    have E0 := Lib.hid e0
    clear e0
    go_enter Try.func23, Try.ntmps23
    go_wp2_with fail
    refine (l7In_any _ _ _ k.d 6 _ H1.out.1 h0 (by decide)).mono ?_
    rintro e w1 ⟨rfl, rfl⟩
    rw [E0.out]
    go_wp2
    go_ret
    exact ⟨Kit.ret_bool Hf.out.symm, HB.out⟩
  | true =>
    cases e1 : Zs.fit k.i 6 with
    | false =>
      have Hf := Lib.hid (show Co.ok k = false by unfold Co.ok; rw [e0, e1]; rfl)
      have E0 := Lib.hid e0
      have E1 := Lib.hid e1
      clear e0 e1
      go_enter Try.func23, Try.ntmps23
      go_wp2_with fail
      refine (l7In_any _ _ _ k.d 6 _ H1.out.1 h0 (by decide)).mono ?_
      rintro e w1 ⟨rfl, rfl⟩
      rw [E0.out]
      go_wp2_with fail
      refine (l7In_any _ _ _ k.i 6 _ H1.out.2.1 h1 (by decide)).mono ?_
      rintro e w1 ⟨rfl, rfl⟩
      rw [E1.out]
      go_wp2
      go_ret
      exact ⟨Kit.ret_bool Hf.out.symm, HB.out⟩
    | true =>
      cases e2 : Zs.fit k.r 36 with
      | false =>
        have Hf := Lib.hid (show Co.ok k = false by unfold Co.ok; rw [e0, e1, e2]; rfl)
        have E0 := Lib.hid e0
        have E1 := Lib.hid e1
        have E2 := Lib.hid e2
        clear e0 e1 e2
        go_enter Try.func23, Try.ntmps23
        go_wp2_with fail
        refine (l7In_any _ _ _ k.d 6 _ H1.out.1 h0 (by decide)).mono ?_
        rintro e w1 ⟨rfl, rfl⟩
        rw [E0.out]
        go_wp2_with fail
        refine (l7In_any _ _ _ k.i 6 _ H1.out.2.1 h1 (by decide)).mono ?_
        rintro e w1 ⟨rfl, rfl⟩
        rw [E1.out]
        go_wp2_with fail
        refine (l7In_any _ _ _ k.r 36 _ H1.out.2.2 h2 (by decide)).mono ?_
        rintro e w1 ⟨rfl, rfl⟩
        rw [E2.out]
        go_wp2
        go_ret
        exact ⟨Kit.ret_bool Hf.out.symm, HB.out⟩
      | true =>
        have Hf := Lib.hid (show Co.ok k = Co.diag k by unfold Co.ok; rw [e0, e1, e2]; rfl)
        have hr := (Zs.fit_iff.1 e2).1
        have hn2 : n2 = 36 := by rw [← hr]; exact HL.out.2.2.symm
        have E0 := Lib.hid e0
        have E1 := Lib.hid e1
        have E2 := Lib.hid e2
        clear e0 e1 e2 hr
        subst hn2
        obtain ⟨ad, rfl, _⟩ := H1.out.2.2.2.1 (by omega)
        go_enter Try.func23, Try.ntmps23
        go_wp2_with fail
        refine (l7In_any _ _ _ k.d 6 _ H1.out.1 h0 (by decide)).mono ?_
        rintro e w1 ⟨rfl, rfl⟩
        rw [E0.out]
        go_wp2_with fail
        refine (l7In_any _ _ _ k.i 6 _ H1.out.2.1 h1 (by decide)).mono ?_
        rintro e w1 ⟨rfl, rfl⟩
        rw [E1.out]
        go_wp2_with fail
        refine (l7In_any _ _ _ k.r 36 _ H1.out.2.2 h2 (by decide)).mono ?_
        rintro e w1 ⟨rfl, rfl⟩
        rw [E2.out]
        go_wp2
        go_loop [3] (fun iv => ∃ a : Nat, a ≤ 6 ∧ iv = .int .i64 a ∧ Co.diagTo k a) (fun i => 6 - (intOf i).toNat)
        case atStart => exact ⟨0, Nat.zero_le _, rfl, fun j hj => absurd hj (Nat.not_lt_zero j)⟩
        case round =>
          obtain ⟨a, ha, rfl, hin⟩ := hrel
          have HI := Lib.hid hin
          clear hin
          by_cases hlt : a < 6
          · have c1 := H1.out.2.2.here (k := a * 6 + a) (by omega)
            obtain ⟨z, hz⟩ : ∃ z, z = Zs.at k.r (a * 6 + a) := ⟨_, rfl⟩
            rw [← hz] at c1
            have HZ := Lib.hid hz
            clear hz
            obtain ⟨p, hp⟩ : ∃ p, p = a * 6 + a := ⟨_, rfl⟩
            rw [← hp] at c1
            have k0 : decide ((a : Int) < 6) = true := by simp; omega
            have a1 : IntKind.i64.wrap ((a : Int) * 6) = (a : Int) * 6 := Kit.w64 (by omega) (by omega)
            have a2 : IntKind.i64.wrap ((a : Int) * 6 + (a : Int)) = (p : Int) := by rw [Kit.w64 (by omega) (by omega)]; omega
            have a3 : (a : Int) * 6 + (a : Int) = (p : Int) := by omega
            have k1 : (0 : Int) ≤ (p : Int) := by omega
            have k2 : (p : Int) < 36 := by omega
            have HP := Lib.hid hp
            clear hp
            by_cases hq : z = 0
            · have q : (z != 0) = false := by simpa using hq
              have Hq := Lib.hid hq
              clear hq
              go_wp2
              refine ⟨⟨a + 1, by omega, by go_num, fun j hj => ?_⟩, by simp [intOf]; omega⟩
              rcases Nat.lt_succ_iff_lt_or_eq.1 hj with h' | rfl
              · exact HI.out j h'
              · rw [← HZ.out]; exact Hq.out
            · have q : (z != 0) = true := by simpa using hq
              have Hd := Lib.hid (Co.diag_not (k := k) hlt (by rw [← HZ.out]; exact hq))
              clear hq
              go_wp2
              go_ret
              exact ⟨Kit.ret_bool (by rw [Hf.out, Hd.out]), HB.out⟩
          · obtain rfl : a = 6 := by omega
            have Hd := Lib.hid (Co.diag_all HI.out)
            go_wp2
            go_ret
            exact ⟨Kit.ret_bool (by rw [Hf.out, Hd.out]), HB.out⟩

end Go.Proofs.Ytlndaflhlkbedaa

/- Contracts (LabsS). -/
namespace Go.Proofs.Ytlndaflhlkbedaa
open Go.RowKit
set_option linter.unusedVariables false

set_option maxHeartbeats 1600000 in
set_option maxRecDepth 100000 in
theorem l8Three_any (A A' : Option Addr) (n n' c c' : Nat) (xs ys : Tr) (K0 K1 K2 : Option Addr) (n0 n1 n2 c0 c1 c2 : Nat) (k : Co) (w : World) (ha : NdIn w w.heap.size A n xs) (hb : NdIn w w.heap.size A' n' ys) (hk : CoIn w w.heap.size K0 K1 K2 n0 n1 n2 k)
    (hn : n ≤ 1048576) (hn' : n' ≤ 1048576) (h0 : n0 ≤ 1048576) (h1 : n1 ≤ 1048576) (h2 : n2 ≤ 1048576) :
    Calls Try.prog 73 #[.slice A n c, .slice A' n' c', .agg #[.slice K0 n0 c0, .slice K1 n1 c1, .slice K2 n2 c2]] w fun e w' => e = .returned (.bool (Tr.ok xs && Tr.ok ys && Co.ok k)) ∧ Below w.heap.size w w' := by
  obtain ⟨wc, hwc⟩ : ∃ wc, wc = w.alloc (.cells #[.slice K0 n0 c0, .slice K1 n1 c1, .slice K2 n2 c2] 27) := ⟨_, rfl⟩
  have hbc : Below w.heap.size w wc := by rw [hwc]; exact (Below.refl _ _).alloc (Nat.le_refl _) _
  have hzc : wc.heap.size = w.heap.size + 1 := by rw [hwc]; simp
  have q : Box3 wc w.heap.size (.slice K0 n0 c0) (.slice K1 n1 c1) (.slice K2 n2 c2) := by rw [hwc]; exact Box3.made _ _ _ _ _
  have HWC := Lib.hid hwc
  have Q := Lib.hid q
  have HA := Lib.hid (ha.to_below hbc)
  have HB := Lib.hid (hb.to_below hbc)
  have HK := Lib.hid (hk.to_below hbc)
  have HBC := Lib.hid hbc
  clear ha hb hk hwc hbc hzc q
  cases hx : Tr.ok xs with
  | false =>
    have HX := Lib.hid hx
    clear hx
    go_enter Try.func73, Try.ntmps73
    go_wp2_with fail
    rw [← HWC.out]
    refine (specTreeOk_any _ _ _ xs _ HA.out hn).mono ?_
    rintro e w1 ⟨rfl, hd⟩
    have BB := Lib.hid (Drawn.below HBC.out hd)
    clear hd
    rw [HX.out]
    go_wp2
    go_ret
    exact ⟨rfl, BB.out⟩
  | true =>
    cases hy : Tr.ok ys with
    | false =>
      have HX := Lib.hid hx
      have HY := Lib.hid hy
      clear hx hy
      go_enter Try.func73, Try.ntmps73
      go_wp2_with fail
      rw [← HWC.out]
      refine (specTreeOk_any _ _ _ xs _ HA.out hn).mono ?_
      rintro e w1 ⟨rfl, hd⟩
      have HB1 := Lib.hid (HB.out.to_drawn hd)
      have BB := Lib.hid (Drawn.below HBC.out hd)
      clear hd
      rw [HX.out]
      go_wp2_with fail
      refine (specTreeOk_any _ _ _ ys _ HB1.out hn').mono ?_
      rintro e w2 ⟨rfl, hd⟩
      have BB := Lib.hid (Drawn.below BB.out hd)
      clear hd
      rw [HY.out]
      go_wp2
      go_ret
      exact ⟨rfl, BB.out⟩
    | true =>
      have HX := Lib.hid hx
      have HY := Lib.hid hy
      clear hx hy
      go_enter Try.func73, Try.ntmps73
      go_wp2_with fail
      rw [← HWC.out]
      refine (specTreeOk_any _ _ _ xs _ HA.out hn).mono ?_
      rintro e w1 ⟨rfl, hd⟩
      have HB1 := Lib.hid (HB.out.to_drawn hd)
      have HK1 := Lib.hid (HK.out.to_drawn hd)
      have Q1 := Lib.hid (Q.out.drawn hd)
      have BB := Lib.hid (Drawn.below HBC.out hd)
      clear hd
      rw [HX.out]
      go_wp2_with fail
      refine (specTreeOk_any _ _ _ ys _ HB1.out hn').mono ?_
      rintro e w2 ⟨rfl, hd⟩
      have HK2 := Lib.hid (HK1.out.to_drawn hd)
      have Q2 := Lib.hid (Q1.out.drawn hd)
      have q0 := Q2.out.1
      have q1 := Q2.out.2.1
      have q2 := Q2.out.2.2
      have BB := Lib.hid (Drawn.below BB.out hd)
      clear hd
      rw [HY.out]
      go_wp2_with fail
      refine (specCostOk_any _ _ _ _ _ _ _ _ _ k _ HK2.out h0 h1 h2).mono ?_
      rintro e w3 ⟨rfl, b3⟩
      have BB := Lib.hid (BB.out.trans (b3.mono BB.out.size))
      clear b3 q0 q1 q2
      cases ho : Co.ok k with
      | false =>
        go_wp2
        go_ret
        exact ⟨by rw [ho]; rfl, BB.out⟩
      | true =>
        go_wp2
        go_ret
        exact ⟨by rw [ho]; rfl, BB.out⟩
set_option maxHeartbeats 1600000 in
set_option maxRecDepth 100000 in
theorem l8Labels_any (A : Option Addr) (n c : Nat) (xs : Tr) (w : World) (h : NdIn w w.heap.size A n xs) (hn : n ≤ 1048576) (hok : Tr.ok xs = true) :
    Calls Try.prog 119 #[.slice A n c] w (OwnInts 3 (Tr.lab xs) w) := by
  have hnl : xs.length = n := h.1
  obtain ⟨hn1, hn24⟩ := Tr.len24 hok
  have hpl : (Zs.up (Tr.post xs)).length = xs.length := by rw [Zs.up_length, Tr.post_length hok]
  have hp3 : ∀ k, k < xs.length → ∃ i : Nat, i < xs.length ∧ Zs.at (Zs.up (Tr.post xs)) k = (i : Int) ∧ Tr.xa xs k = Tr.l xs i := fun k hk => by
    obtain ⟨i, h1, _, _, h4, h5⟩ := Tr.la_at hok hk
    have hk2 : k < (Tr.post xs).length := by rw [Tr.post_length hok]; exact hk
    refine ⟨i, h1, ?_, h4⟩
    rw [Zs.up_at _ _ hk2]
    rw [List.getElem?_eq_getElem hk2] at h5
    injection h5 with h5
    rw [h5]
  have HP3 := Lib.hid hp3
  have LL := Lib.hid (Tr.lab_len hok)
  have HPL := Lib.hid hpl
  obtain ⟨ws, hws⟩ : ∃ ws, ws = w.alloc (.cells #[] 3) := ⟨_, rfl⟩
  have hbs : Below w.heap.size w ws := by rw [hws]; exact (Below.refl _ _).alloc (Nat.le_refl _) _
  have HNW := Lib.hid h
  have H := Lib.hid (h.to_below hbs)
  have HBS := Lib.hid hbs
  have HWS := Lib.hid hws
  obtain ⟨i0, hi0, hz0, hz1, hz2⟩ := info_parts info_intZ
  have Hi := Lib.hid hi0
  clear h hok hpl hp3 hbs hws hi0
  go_enter Try.func119, Try.ntmps119
  go_wp2_with fail
  rw [← HWS.out]
  refine (specPostOrder_any _ _ _ xs _ H.out hn).mono ?_
  rintro e w3 ⟨A3, c3, rfl, o3, b3⟩
  rw [HPL.out] at o3 ⊢
  have zs : ws.heap.size = w.heap.size + 1 := by rw [HWS.out]; simp
  have o0 : ws.ownsRow w.heap.size 3 1 (.slice (some ⟨w.heap.size, 0, none⟩) 0 0) 0 (ints []) := by rw [HWS.out]; exact World.ownsRow_lit (base := w.heap.size) (e := 3) (size := 1) w #[] 0 (Nat.le_refl _) (Nat.zero_le _) rfl
  have o0' := own_below o0 b3
  obtain ⟨g3, hg3, q1, q2⟩ := own_form o3 (by omega)
  subst hg3
  have ap : Apart (.slice (some ⟨g3, 0, none⟩) xs.length c3) (.slice (some ⟨w.heap.size, 0, none⟩) 0 0) := .inr (fun e => by simp [Value.ownBlock] at e; omega)
  have O0 := Lib.hid o0'
  have O3 := Lib.hid (own_base (base' := w.heap.size) o3 (by omega))
  have AP := Lib.hid ap
  have BB := Lib.hid (HBS.out.trans (b3.mono HBS.out.size))
  have H3 := Lib.hid (H.out.to_below b3)
  have hadz : ∀ wr : World, wr.ownsRow w.heap.size 3 1 (.slice (some ⟨g3, 0, none⟩) xs.length c3) xs.length (ints (Zs.up (Tr.post xs))) → ∀ k, k < xs.length → wr.cell? ⟨g3, k, none⟩ = some (.int .i64 (Zs.at (Zs.up (Tr.post xs)) k)) := fun wr h k hk => own_int h (k := k) (by rw [HPL.out]; exact hk)
  have HAD := Lib.hid hadz
  have HN := Lib.hid (show ∀ wr, Below w.heap.size w wr → NdIn wr w.heap.size A n xs from fun wr hb => HNW.out.below hb)
  clear o3 b3 o0 o0' ap q1 q2 zs hadz
  go_wp2
  go_loopw [5, 3] (fun kv ov wr => ∃ k : Nat, k ≤ xs.length ∧ kv = .int .i64 k ∧ wr.ownsRow w.heap.size 3 1 ov ((Tr.lab xs).take k).length (ints ((Tr.lab xs).take k)) ∧ wr.ownsRow w.heap.size 3 1 (.slice (some ⟨g3, 0, none⟩) xs.length c3) xs.length (ints (Zs.up (Tr.post xs))) ∧ Apart (.slice (some ⟨g3, 0, none⟩) xs.length c3) ov ∧ Below w.heap.size w wr) (fun k _ _ => xs.length - (intOf k).toNat)
  case atStart => exact ⟨0, Nat.zero_le _, rfl, O0.out, O3.out, AP.out, BB.out⟩
  case round =>
    clear O0 O3 AP BB H3
    obtain ⟨k, hk, rfl, ho, h3, hap, hB⟩ := hrel
    have Ho := Lib.hid ho
    have H3 := Lib.hid h3
    have AP := Lib.hid hap
    have HB := Lib.hid hB
    obtain ⟨Ao, co, hov⟩ := own_slice ho
    clear ho h3 hap hB
    subst hov
    by_cases hlt : k < xs.length
    · obtain ⟨i, r1, r2, r3⟩ := HP3.out k hlt
      have cp := HAD.out wr H3.out k hlt
      rw [r2] at cp
      obtain ⟨ad, rfl, _, hl, hd⟩ := (HN.out wr HB.out).at_ (k := i) (by omega)
      have b1 : (0 : Int) ≤ (i : Int) := by omega
      have b2 : (i : Int) < (n : Int) := by omega
      have k1 : (0 : Int) ≤ (k : Int) := by omega
      have k2 : (k : Int) < (xs.length : Int) := by omega
      have ht : (Tr.lab xs).take k ++ [Tr.l xs i] = (Tr.lab xs).take (k + 1) := by
        rw [List.take_succ_eq_append_getElem (by rw [LL.out]; exact hlt), ← r3]
        congr 2
        unfold Tr.xa
        rw [List.getD_eq_getElem?_getD, List.getElem?_eq_getElem (by rw [LL.out]; exact hlt)]
        rfl
      have HT := Lib.hid ht
      have HTL := Lib.hid (show ((Tr.lab xs).take k).length = k by rw [List.length_take, LL.out]; omega)
      have HSZ := Lib.hid HB.out.size
      clear r2 r3 ht hd
      go_wp2_with (at_builtin; go_loud (refine append_int_at wr rfl _ _ 25 rfl w.heap.size 3 i0 Try.underlying25 Hi.out hz0 hz1 hz2 (.slice Ao ((Tr.lab xs).take k).length co) ((Tr.lab xs).take k).length ((Tr.lab xs).take k) rfl Ho.out rfl (Tr.l xs i) rfl (by rw [HTL.out]; omega) HSZ.out ?_); intro v' w4 hown hgrow hwh)
      rw [HT.out] at hown
      have p3 := World.ownsRow.kept (H3.out.alloc (.cells #[.int .i64 (Tr.l xs i)] 3)) hgrow AP.out
      have pa := AP.out.grew (H3.out.alloc (.cells #[.int .i64 (Tr.l xs i)] 3)) (by rw [show (wr.alloc (.cells #[.int .i64 (Tr.l xs i)] 3)).heap.size = wr.heap.size + 1 by simp]; exact hwh)
      have pb : Below w.heap.size w w4 := (HB.out.alloc HSZ.out _).grown hgrow (by have := HSZ.out; simp; omega) (fun b hb => (Ho.out.lt b hb).1)
      have P0 := Lib.hid hown
      have P3 := Lib.hid p3
      have PA := Lib.hid pa
      have PB := Lib.hid pb
      clear hown hgrow hwh p3 pa pb
      go_wp2
      go_roundw
      case rel => exact ⟨k + 1, by omega, by go_num, P0.out, P3.out, PA.out, PB.out⟩
      case measure => simp [intOf]; omega
    · have htl : (Tr.lab xs).take k = Tr.lab xs := List.take_of_length_le (by rw [LL.out]; omega)
      rw [htl] at Ho ⊢
      clear htl
      go_wp2
      go_ret
      exact ⟨Ao, co, rfl, Ho.out, HB.out⟩

end Go.Proofs.Ytlndaflhlkbedaa
