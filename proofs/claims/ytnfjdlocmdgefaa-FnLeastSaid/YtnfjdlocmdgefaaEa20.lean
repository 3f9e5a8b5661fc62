/- Texts of one claim laid into one file, in build order: UndS, MapS. -/
import Derived.Test.YtnfjdlocmdgefaaEa3
import Derived.Test.YtnfjdlocmdgefaaEa7
import Derived.Outline
import Derived.Test.YtnfjdlocmdgefaaRows
/- Contracts (UndS). -/
namespace Go.Proofs.Ytnfjdlocmdgefaa
open Go.RowKit
set_option linter.unusedVariables false

set_option maxHeartbeats 1600000 in
set_option maxRecDepth 100000 in
theorem specUnder_any (A : Option Addr) (n c : Nat) (xs : Tr) (i j : Int) (w : World) (h : NdIn w w.heap.size A n xs) (hn : n ≤ 1048576) :
    Calls Try.prog 43 #[.slice A n c, .int .i64 i, .int .i64 j] w fun e w' => e = .returned (.bool (Tr.under xs i j)) ∧ Drawn w w' := by
  have H := Lib.hid h
  clear h
  have H0 := Lib.hid H.out
  have HD := Lib.hid (Drawn.refl w)
  rcases h1 : Tr.has xs i with _ | _
  · have Hf := Lib.hid (show Tr.under xs i j = false by unfold Tr.under; rw [h1]; rfl)
    have Hh := Lib.hid h1
    clear h1
    go_enter Try.func43, Try.ntmps43
    go_wp2_with fail
    refine (l3At_any _ _ _ xs _ _ H0.out hn).mono ?_
    rintro e w1 ⟨rfl, hd⟩
    have HD := Lib.hid (HD.out.trans hd)
    have Hw1 := Lib.hid (H0.out.to_drawn hd)
    clear hd
    rw [Hh.out]
    go_wp2
    go_ret
    exact ⟨Kit.ret_bool Hf.out.symm, HD.out⟩
  · rcases h2 : Tr.has xs j with _ | _
    · have Hf := Lib.hid (show Tr.under xs i j = false by unfold Tr.under; rw [h2, Bool.and_false]; rfl)
      have Hh := Lib.hid h1
      have Hh2 := Lib.hid h2
      clear h1 h2
      go_enter Try.func43, Try.ntmps43
      go_wp2_with fail
      refine (l3At_any _ _ _ xs _ _ H0.out hn).mono ?_
      rintro e w1 ⟨rfl, hd⟩
      have HD := Lib.hid (HD.out.trans hd)
      have Hw1 := Lib.hid (H0.out.to_drawn hd)
      clear hd
      rw [Hh.out]
      go_wp2_with fail
      refine (l3At_any _ _ _ xs _ _ Hw1.out hn).mono ?_
      rintro e w2 ⟨rfl, hd⟩
      have HD := Lib.hid (HD.out.trans hd)
      have Hw2 := Lib.hid (Hw1.out.to_drawn hd)
      clear hd
      rw [Hh2.out]
      go_wp2
      go_ret
      exact ⟨Kit.ret_bool Hf.out.symm, HD.out⟩
    · have Hf := Lib.hid (show Tr.under xs i j = (decide (i < j) && decide (j < Tr.endOf xs i)) by unfold Tr.under; rw [h1, h2]; rfl)
      have Hh := Lib.hid h1
      have Hh2 := Lib.hid h2
      clear h1 h2
      obtain ⟨E, hE⟩ : ∃ E, E = Tr.endOf xs i := ⟨_, rfl⟩
      have HE := Lib.hid hE
      rw [← hE] at Hf
      clear hE
      by_cases h3 : i < j
      · have e3 : decide (i < j) = true := by simpa using h3
        rw [e3] at Hf
        go_enter Try.func43, Try.ntmps43
        go_wp2_with fail
        refine (l3At_any _ _ _ xs _ _ H0.out hn).mono ?_
        rintro e w1 ⟨rfl, hd⟩
        have HD := Lib.hid (HD.out.trans hd)
        have Hw1 := Lib.hid (H0.out.to_drawn hd)
        clear hd
        rw [Hh.out]
        go_wp2_with fail
        refine (l3At_any _ _ _ xs _ _ Hw1.out hn).mono ?_
        rintro e w2 ⟨rfl, hd⟩
        have HD := Lib.hid (HD.out.trans hd)
        have Hw2 := Lib.hid (Hw1.out.to_drawn hd)
        clear hd
        rw [Hh2.out]
        go_wp2_with fail
        refine (specEndOf_any _ _ _ xs _ _ Hw2.out hn).mono ?_
        rintro e w3 ⟨rfl, hd⟩
        have HD := Lib.hid (HD.out.trans hd)
        clear hd
        rw [← HE.out]
        go_wp2
        go_ret
        exact ⟨Kit.ret_bool (by rw [Hf.out]; simp), HD.out⟩
      · have e3 : decide (i < j) = false := by simpa using h3
        rw [e3] at Hf
        go_enter Try.func43, Try.ntmps43
        go_wp2_with fail
        refine (l3At_any _ _ _ xs _ _ H0.out hn).mono ?_
        rintro e w1 ⟨rfl, hd⟩
        have HD := Lib.hid (HD.out.trans hd)
        have Hw1 := Lib.hid (H0.out.to_drawn hd)
        clear hd
        rw [Hh.out]
        go_wp2_with fail
        refine (l3At_any _ _ _ xs _ _ Hw1.out hn).mono ?_
        rintro e w2 ⟨rfl, hd⟩
        have HD := Lib.hid (HD.out.trans hd)
        have Hw2 := Lib.hid (Hw1.out.to_drawn hd)
        clear hd
        rw [Hh2.out]
        go_wp2
        go_ret
        exact ⟨Kit.ret_bool (by rw [Hf.out]; simp), HD.out⟩


end Go.Proofs.Ytnfjdlocmdgefaa

/- Contracts (MapS). -/
namespace Go.Proofs.Ytnfjdlocmdgefaa
open Go.RowKit
set_option linter.unusedVariables false

set_option maxHeartbeats 3200000 in
set_option maxRecDepth 100000 in
theorem specMapOk_any (A A' A'' : Option Addr) (n n' n'' c c' c'' : Nat) (xs ys ms : Tr) (w : World) (h : NdIn w w.heap.size A n xs) (h' : NdIn w w.heap.size A' n' ys) (h'' : NdIn w w.heap.size A'' n'' ms) (hn : n ≤ 1048576) (hn' : n' ≤ 1048576) (hn'' : n'' ≤ 1048576) :
    Calls Try.prog 14 #[.slice A n c, .slice A' n' c', .slice A'' n'' c''] w fun e w' => e = .returned (.bool (Mp.ok xs ys ms)) ∧ Drawn w w' := by
  have H := Lib.hid h
  have H' := Lib.hid h'
  have H2 := Lib.hid h''
  clear h h' h''
  have HL := Lib.hid H2.out.1
  go_enter Try.func14, Try.ntmps14
  go_wp2
  go_loopw [7] (fun iv wr => ∃ k : Nat, k ≤ n'' ∧ iv = .int .i64 k ∧ (∀ q, q < k → Mp.okAt xs ys ms q = true) ∧ Drawn w wr) (fun i _ => n'' - (intOf i).toNat)
  case atStart => exact ⟨0, by omega, rfl, fun q hq => absurd hq (by omega), Drawn.refl _⟩
  case round =>
    obtain ⟨k, hk, rfl, hgood, hD⟩ := hrel
    have HG := Lib.hid hgood
    have HD := Lib.hid hD
    clear hgood hD
    by_cases hlt : k < n''
    · obtain ⟨ad, rfl, hb, hl, hd⟩ := (H2.out.to_drawn HD.out).at_ (k := k) hlt
      have hk0 : (0 : Int) ≤ (k : Int) := by omega
      have hklt : (k : Int) < (n'' : Int) := by omega
      have HK := Lib.hid (show k < ms.length by rw [HL.out]; exact hlt)
      obtain ⟨b1, hb1⟩ : ∃ b, b = Tr.has xs (Tr.l ms k) := ⟨_, rfl⟩
      obtain ⟨b2, hb2⟩ : ∃ b, b = Tr.has ys (Tr.d ms k) := ⟨_, rfl⟩
      have QA := Lib.hid (fun (wq : World) (hd : Drawn wr wq) => show Calls Try.prog 42 #[.slice A n c, .int .i64 (Tr.l ms k)] wq fun e w' => e = .returned (.bool b1) ∧ Drawn wq w' from by rw [hb1]; exact l3At_any _ _ _ xs _ _ ((H.out.to_drawn HD.out).to_drawn hd) hn)
      have QB := Lib.hid (fun (wq : World) (hd : Drawn wr wq) => show Calls Try.prog 42 #[.slice A' n' c', .int .i64 (Tr.d ms k)] wq fun e w' => e = .returned (.bool b2) ∧ Drawn wq w' from by rw [hb2]; exact l3At_any _ _ _ ys _ _ ((H'.out.to_drawn HD.out).to_drawn hd) hn')
      have HB1 := Lib.hid hb1
      have HB2 := Lib.hid hb2
      clear hb1 hb2
      cases b1 with
      | false =>
        have hf := Lib.hid (Mp.ok_no HK.out (Mp.no_a HB1.out.symm) : Mp.ok xs ys ms = false)
        as_aux_lemma =>
          go_wp2_with fail
          go_quiet (first | (go_at_call 42; with_reducible exact quiet_drawn (QA.out _ ((Drawn.refl _).drewN _))) | (go_at_call 42; with_reducible exact quiet_drawn (QB.out _ ((Drawn.refl _).drewN _))))
          go_wp2
          go_ret
          exact ⟨Kit.ret_bool hf.out.symm, HD.out.trans ((Drawn.refl _).drewN _)⟩
      | true =>
        cases b2 with
        | false =>
          have hf := Lib.hid (Mp.ok_no HK.out (Mp.no_b HB2.out.symm) : Mp.ok xs ys ms = false)
          as_aux_lemma =>
            go_wp2_with fail
            go_quiet (first | (go_at_call 42; with_reducible exact quiet_drawn (QA.out _ ((Drawn.refl _).drewN _))) | (go_at_call 42; with_reducible exact quiet_drawn (QB.out _ ((Drawn.refl _).drewN _))))
            go_wp2
            go_ret
            exact ⟨Kit.ret_bool hf.out.symm, HD.out.trans ((Drawn.refl _).drewN _)⟩
        | true =>
          rcases (show (0 < k ∧ Tr.l ms k ≤ Tr.l ms (k - 1)) ∨ (0 < k ∧ Tr.l ms (k - 1) < Tr.l ms k) ∨ k = 0 by omega) with ⟨h0, h1⟩ | ⟨h0, h1⟩ | h0
          · have hf := Lib.hid (Mp.ok_no HK.out (Mp.no_c (k := k - 1) (by omega) (Mp.at_l (by omega))) : Mp.ok xs ys ms = false)
            obtain ⟨hl1, hd1⟩ := (H2.out.to_drawn HD.out).here (k := k - 1) (by omega)
            obtain ⟨k1, hk1⟩ : ∃ k1, k1 = k - 1 := ⟨_, rfl⟩
            rw [← hk1] at h1 hl1
            clear hd1
            have a1 : IntKind.i64.wrap ((k : Int) - 1) = (k1 : Int) := by rw [Kit.w64 (by omega) (by omega)]; omega
            have g0 : decide (0 < k) = true := decide_eq_true h0
            have g1 : decide (Tr.l ms k ≤ Tr.l ms k1) = true := decide_eq_true h1
            have g2 : (0 : Int) ≤ (k1 : Int) := by omega
            have g3 : (k1 : Int) < (n'' : Int) := by omega
            clear hk1
            as_aux_lemma =>
              go_wp2_with fail
              go_quiet (first | (go_at_call 42; with_reducible exact quiet_drawn (QA.out _ ((Drawn.refl _).drewN _))) | (go_at_call 42; with_reducible exact quiet_drawn (QB.out _ ((Drawn.refl _).drewN _))))
              go_wp2
              go_ret
              exact ⟨Kit.ret_bool hf.out.symm, HD.out.trans ((Drawn.refl _).drewN _)⟩
          · obtain ⟨hl1, hd1⟩ := (H2.out.to_drawn HD.out).here (k := k - 1) (by omega)
            have HC := Lib.hid (fun q (hq : q < k) => (Mp.chain HG.out (fun _ => h1) hq : Tr.l ms q < Tr.l ms k))
            obtain ⟨k1, hk1⟩ : ∃ k1, k1 = k - 1 := ⟨_, rfl⟩
            rw [← hk1] at h1 hl1
            clear hd1
            have a1 : IntKind.i64.wrap ((k : Int) - 1) = (k1 : Int) := by rw [Kit.w64 (by omega) (by omega)]; omega
            have g0 : decide (0 < k) = true := decide_eq_true h0
            have g1 : decide (Tr.l ms k ≤ Tr.l ms k1) = false := decide_eq_false (by omega)
            have g2 : (0 : Int) ≤ (k1 : Int) := by omega
            have g3 : (k1 : Int) < (n'' : Int) := by omega
            clear hk1 h1
            as_aux_lemma =>
              go_wp2_with fail
              go_quiet (first | (go_at_call 42; with_reducible exact quiet_drawn (QA.out _ ((Drawn.refl _).drewN _))) | (go_at_call 42; with_reducible exact quiet_drawn (QB.out _ ((Drawn.refl _).drewN _))))
              clear a1 g0 g1 g2 g3 hl1
              have HD := Lib.hid (HD.out.trans ((Drawn.refl wr).drewN nq))
              go_wp2_with fail
              clear hl hd
              go_loopw [8] (fun jv wr => ∃ j : Nat, j ≤ k ∧ jv = .int .i64 j ∧ (∀ q, q < j → Mp.at xs ys ms (Tr.l ms k) (Tr.d ms k) q = true) ∧ Drawn w wr) (fun j _ => k - (intOf j).toNat)
              case atStart => exact ⟨0, by omega, rfl, fun q hq => absurd hq (by omega), HD.out⟩
              case round =>
                obtain ⟨j, hj, rfl, hgj, hDj⟩ := hrel
                have HJ := Lib.hid hgj
                have HDj := Lib.hid hDj
                clear hgj hDj
                by_cases hjk : j < k
                · obtain ⟨hl, hd⟩ := (H2.out.to_drawn HDj.out).here (k := k) hlt
                  obtain ⟨hl2, hd2⟩ := (H2.out.to_drawn HDj.out).here (k := j) (by omega)
                  have hj0 : (0 : Int) ≤ (j : Int) := by omega
                  have hj1 : (j : Int) < (n'' : Int) := by omega
                  by_cases hge : Tr.d ms k ≤ Tr.d ms j
                  · have hf := Lib.hid (Mp.ok_no HK.out (Mp.no_c hjk (Mp.at_d (by omega))) : Mp.ok xs ys ms = false)
                    have g1 : decide (Tr.d ms k ≤ Tr.d ms j) = true := decide_eq_true hge
                    clear hge
                    go_wp2_with fail
                    go_quiet (fail)
                    go_wp2
                    go_ret
                    exact ⟨Kit.ret_bool hf.out.symm, HDj.out.trans ((Drawn.refl _).drewN _)⟩
                  · have g1 : decide (Tr.d ms k ≤ Tr.d ms j) = false := decide_eq_false hge
                    obtain ⟨u1, hu1⟩ : ∃ u, u = Tr.under xs (Tr.l ms j) (Tr.l ms k) := ⟨_, rfl⟩
                    obtain ⟨u2, hu2⟩ : ∃ u, u = Tr.under ys (Tr.d ms j) (Tr.d ms k) := ⟨_, rfl⟩
                    have QU := Lib.hid (fun (wq : World) (hq : Drawn wr wq) => show Calls Try.prog 43 #[.slice A n c, .int .i64 (Tr.l ms j), .int .i64 (Tr.l ms k)] wq fun e w' => e = .returned (.bool u1) ∧ Drawn wq w' from by rw [hu1]; exact specUnder_any _ _ _ xs _ _ _ ((H.out.to_drawn HDj.out).to_drawn hq) hn)
                    have QV := Lib.hid (fun (wq : World) (hq : Drawn wr wq) => show Calls Try.prog 43 #[.slice A' n' c', .int .i64 (Tr.d ms j), .int .i64 (Tr.d ms k)] wq fun e w' => e = .returned (.bool u2) ∧ Drawn wq w' from by rw [hu2]; exact specUnder_any _ _ _ ys _ _ _ ((H'.out.to_drawn HDj.out).to_drawn hq) hn')
                    have HLT := Lib.hid hge
                    have HU1 := Lib.hid hu1
                    have HU2 := Lib.hid hu2
                    clear hge hu1 hu2
                    cases u1 with
                    | false =>
                      cases u2 with
                      | false =>
                        have HA := Lib.hid (Mp.at_yes (HC.out j hjk) (by have := HLT.out; omega) (by rw [← HU1.out, ← HU2.out]) : Mp.at xs ys ms (Tr.l ms k) (Tr.d ms k) j = true)
                        go_wp2_with fail
                        go_quiet (first | (go_at_call 43; with_reducible exact quiet_drawn (QU.out _ ((Drawn.refl _).drewN _))) | (go_at_call 43; with_reducible exact quiet_drawn (QV.out _ ((Drawn.refl _).drewN _))))
                        go_wp2
                        go_roundw
                        case rel => exact ⟨j + 1, by omega, by go_num, fun q hq => by
                          rcases Nat.lt_succ_iff_lt_or_eq.1 hq with h' | rfl
                          · exact HJ.out q h'
                          · exact HA.out, HDj.out.trans ((Drawn.refl _).drewN _)⟩
                        case measure => simp [intOf]; omega
                      | true =>
                        have hf := Lib.hid (Mp.ok_no HK.out (Mp.no_c hjk (Mp.at_u (by rw [← HU1.out, ← HU2.out]; decide))) : Mp.ok xs ys ms = false)
                        go_wp2_with fail
                        go_quiet (first | (go_at_call 43; with_reducible exact quiet_drawn (QU.out _ ((Drawn.refl _).drewN _))) | (go_at_call 43; with_reducible exact quiet_drawn (QV.out _ ((Drawn.refl _).drewN _))))
                        go_wp2
                        go_ret
                        exact ⟨Kit.ret_bool hf.out.symm, HDj.out.trans ((Drawn.refl _).drewN _)⟩
                    | true =>
                      cases u2 with
                      | false =>
                        have hf := Lib.hid (Mp.ok_no HK.out (Mp.no_c hjk (Mp.at_u (by rw [← HU1.out, ← HU2.out]; decide))) : Mp.ok xs ys ms = false)
                        go_wp2_with fail
                        go_quiet (first | (go_at_call 43; with_reducible exact quiet_drawn (QU.out _ ((Drawn.refl _).drewN _))) | (go_at_call 43; with_reducible exact quiet_drawn (QV.out _ ((Drawn.refl _).drewN _))))
                        go_wp2
                        go_ret
                        exact ⟨Kit.ret_bool hf.out.symm, HDj.out.trans ((Drawn.refl _).drewN _)⟩
                      | true =>
                        have HA := Lib.hid (Mp.at_yes (HC.out j hjk) (by have := HLT.out; omega) (by rw [← HU1.out, ← HU2.out]) : Mp.at xs ys ms (Tr.l ms k) (Tr.d ms k) j = true)
                        go_wp2_with fail
                        go_quiet (first | (go_at_call 43; with_reducible exact quiet_drawn (QU.out _ ((Drawn.refl _).drewN _))) | (go_at_call 43; with_reducible exact quiet_drawn (QV.out _ ((Drawn.refl _).drewN _))))
                        go_wp2
                        go_roundw
                        case rel => exact ⟨j + 1, by omega, by go_num, fun q hq => by
                          rcases Nat.lt_succ_iff_lt_or_eq.1 hq with h' | rfl
                          · exact HJ.out q h'
                          · exact HA.out, HDj.out.trans ((Drawn.refl _).drewN _)⟩
                        case measure => simp [intOf]; omega
                · obtain rfl : k = j := by omega
                  have HOK := Lib.hid (Mp.okAt_yes HB1.out.symm HB2.out.symm (fun q hq => HJ.out q hq) : Mp.okAt xs ys ms k = true)
                  go_wp2
                  go_roundw
                  case rel => exact ⟨k + 1, by omega, by go_num, fun q hq => by
                    rcases Nat.lt_succ_iff_lt_or_eq.1 hq with h' | rfl
                    · exact HG.out q h'
                    · exact HOK.out, HDj.out⟩
                  case measure => simp [intOf]; omega
          · have HC := Lib.hid (fun q (hq : q < k) => (absurd hq (by omega) : Tr.l ms q < Tr.l ms k))
            have g0 : decide (0 < k) = false := decide_eq_false (by omega)
            clear h0
            as_aux_lemma =>
              go_wp2_with fail
              go_quiet (first | (go_at_call 42; with_reducible exact quiet_drawn (QA.out _ ((Drawn.refl _).drewN _))) | (go_at_call 42; with_reducible exact quiet_drawn (QB.out _ ((Drawn.refl _).drewN _))))
              clear g0
              have HD := Lib.hid (HD.out.trans ((Drawn.refl wr).drewN nq))
              go_wp2_with fail
              clear hl hd
              go_loopw [8] (fun jv wr => ∃ j : Nat, j ≤ k ∧ jv = .int .i64 j ∧ (∀ q, q < j → Mp.at xs ys ms (Tr.l ms k) (Tr.d ms k) q = true) ∧ Drawn w wr) (fun j _ => k - (intOf j).toNat)
              case atStart => exact ⟨0, by omega, rfl, fun q hq => absurd hq (by omega), HD.out⟩
              case round =>
                obtain ⟨j, hj, rfl, hgj, hDj⟩ := hrel
                have HJ := Lib.hid hgj
                have HDj := Lib.hid hDj
                clear hgj hDj
                by_cases hjk : j < k
                · obtain ⟨hl, hd⟩ := (H2.out.to_drawn HDj.out).here (k := k) hlt
                  obtain ⟨hl2, hd2⟩ := (H2.out.to_drawn HDj.out).here (k := j) (by omega)
                  have hj0 : (0 : Int) ≤ (j : Int) := by omega
                  have hj1 : (j : Int) < (n'' : Int) := by omega
                  by_cases hge : Tr.d ms k ≤ Tr.d ms j
                  · have hf := Lib.hid (Mp.ok_no HK.out (Mp.no_c hjk (Mp.at_d (by omega))) : Mp.ok xs ys ms = false)
                    have g1 : decide (Tr.d ms k ≤ Tr.d ms j) = true := decide_eq_true hge
                    clear hge
                    go_wp2_with fail
                    go_quiet (fail)
                    go_wp2
                    go_ret
                    exact ⟨Kit.ret_bool hf.out.symm, HDj.out.trans ((Drawn.refl _).drewN _)⟩
                  · have g1 : decide (Tr.d ms k ≤ Tr.d ms j) = false := decide_eq_false hge
                    obtain ⟨u1, hu1⟩ : ∃ u, u = Tr.under xs (Tr.l ms j) (Tr.l ms k) := ⟨_, rfl⟩
                    obtain ⟨u2, hu2⟩ : ∃ u, u = Tr.under ys (Tr.d ms j) (Tr.d ms k) := ⟨_, rfl⟩
                    have QU := Lib.hid (fun (wq : World) (hq : Drawn wr wq) => show Calls Try.prog 43 #[.slice A n c, .int .i64 (Tr.l ms j), .int .i64 (Tr.l ms k)] wq fun e w' => e = .returned (.bool u1) ∧ Drawn wq w' from by rw [hu1]; exact specUnder_any _ _ _ xs _ _ _ ((H.out.to_drawn HDj.out).to_drawn hq) hn)
                    have QV := Lib.hid (fun (wq : World) (hq : Drawn wr wq) => show Calls Try.prog 43 #[.slice A' n' c', .int .i64 (Tr.d ms j), .int .i64 (Tr.d ms k)] wq fun e w' => e = .returned (.bool u2) ∧ Drawn wq w' from by rw [hu2]; exact specUnder_any _ _ _ ys _ _ _ ((H'.out.to_drawn HDj.out).to_drawn hq) hn')
                    have HLT := Lib.hid hge
                    have HU1 := Lib.hid hu1
                    have HU2 := Lib.hid hu2
                    clear hge hu1 hu2
                    cases u1 with
                    | false =>
                      cases u2 with
                      | false =>
                        have HA := Lib.hid (Mp.at_yes (HC.out j hjk) (by have := HLT.out; omega) (by rw [← HU1.out, ← HU2.out]) : Mp.at xs ys ms (Tr.l ms k) (Tr.d ms k) j = true)
                        go_wp2_with fail
                        go_quiet (first | (go_at_call 43; with_reducible exact quiet_drawn (QU.out _ ((Drawn.refl _).drewN _))) | (go_at_call 43; with_reducible exact quiet_drawn (QV.out _ ((Drawn.refl _).drewN _))))
                        go_wp2
                        go_roundw
                        case rel => exact ⟨j + 1, by omega, by go_num, fun q hq => by
                          rcases Nat.lt_succ_iff_lt_or_eq.1 hq with h' | rfl
                          · exact HJ.out q h'
                          · exact HA.out, HDj.out.trans ((Drawn.refl _).drewN _)⟩
                        case measure => simp [intOf]; omega
                      | true =>
                        have hf := Lib.hid (Mp.ok_no HK.out (Mp.no_c hjk (Mp.at_u (by rw [← HU1.out, ← HU2.out]; decide))) : Mp.ok xs ys ms = false)
                        go_wp2_with fail
                        go_quiet (first | (go_at_call 43; with_reducible exact quiet_drawn (QU.out _ ((Drawn.refl _).drewN _))) | (go_at_call 43; with_reducible exact quiet_drawn (QV.out _ ((Drawn.refl _).drewN _))))
                        go_wp2
                        go_ret
                        exact ⟨Kit.ret_bool hf.out.symm, HDj.out.trans ((Drawn.refl _).drewN _)⟩
                    | true =>
                      cases u2 with
                      | false =>
                        have hf := Lib.hid (Mp.ok_no HK.out (Mp.no_c hjk (Mp.at_u (by rw [← HU1.out, ← HU2.out]; decide))) : Mp.ok xs ys ms = false)
                        go_wp2_with fail
                        go_quiet (first | (go_at_call 43; with_reducible exact quiet_drawn (QU.out _ ((Drawn.refl _).drewN _))) | (go_at_call 43; with_reducible exact quiet_drawn (QV.out _ ((Drawn.refl _).drewN _))))
                        go_wp2
                        go_ret
                        exact ⟨Kit.ret_bool hf.out.symm, HDj.out.trans ((Drawn.refl _).drewN _)⟩
                      | true =>
                        have HA := Lib.hid (Mp.at_yes (HC.out j hjk) (by have := HLT.out; omega) (by rw [← HU1.out, ← HU2.out]) : Mp.at xs ys ms (Tr.l ms k) (Tr.d ms k) j = true)
                        go_wp2_with fail
                        go_quiet (first | (go_at_call 43; with_reducible exact quiet_drawn (QU.out _ ((Drawn.refl _).drewN _))) | (go_at_call 43; with_reducible exact quiet_drawn (QV.out _ ((Drawn.refl _).drewN _))))
                        go_wp2
                        go_roundw
                        case rel => exact ⟨j + 1, by omega, by go_num, fun q hq => by
                          rcases Nat.lt_succ_iff_lt_or_eq.1 hq with h' | rfl
                          · exact HJ.out q h'
                          · exact HA.out, HDj.out.trans ((Drawn.refl _).drewN _)⟩
                        case measure => simp [intOf]; omega
                · obtain rfl : k = j := by omega
                  have HOK := Lib.hid (Mp.okAt_yes HB1.out.symm HB2.out.symm (fun q hq => HJ.out q hq) : Mp.okAt xs ys ms k = true)
                  go_wp2
                  go_roundw
                  case rel => exact ⟨k + 1, by omega, by go_num, fun q hq => by
                    rcases Nat.lt_succ_iff_lt_or_eq.1 hq with h' | rfl
                    · exact HG.out q h'
                    · exact HOK.out, HDj.out⟩
                  case measure => simp [intOf]; omega
    · obtain rfl : k = n'' := by omega
      have HE := Lib.hid (Mp.ok_yes (fun q hq => HG.out q (by rw [← HL.out]; exact hq)) : Mp.ok xs ys ms = (Tr.ok xs && Tr.ok ys))
      obtain ⟨b1, hb1⟩ : ∃ b, b = Tr.ok xs := ⟨_, rfl⟩
      obtain ⟨b2, hb2⟩ : ∃ b, b = Tr.ok ys := ⟨_, rfl⟩
      rw [← hb1, ← hb2] at HE
      have C1 := Lib.hid (fun (wq : World) (hd : Drawn w wq) => show Calls Try.prog 10 #[.slice A n c] wq fun e w' => e = .returned (.bool b1) ∧ Drawn wq w' from by rw [hb1]; exact specTreeOk_any _ _ _ xs _ (H.out.to_drawn hd) hn)
      have C2 := Lib.hid (fun (wq : World) (hd : Drawn w wq) => show Calls Try.prog 10 #[.slice A' n' c'] wq fun e w' => e = .returned (.bool b2) ∧ Drawn wq w' from by rw [hb2]; exact specTreeOk_any _ _ _ ys _ (H'.out.to_drawn hd) hn')
      clear hb1 hb2
      cases b1 with
      | false =>
        as_aux_lemma =>
          go_wp2_with fail
          refine (C1.out _ HD.out).mono ?_
          rintro e w1 ⟨rfl, hd1⟩
          go_wp2
          go_ret
          exact ⟨Kit.ret_bool HE.out.symm, HD.out.trans hd1⟩
      | true =>
        as_aux_lemma =>
          go_wp2_with fail
          refine (C1.out _ HD.out).mono ?_
          rintro e w1 ⟨rfl, hd1⟩
          have HD := Lib.hid (HD.out.trans hd1)
          clear hd1
          go_wp2_with fail
          refine (C2.out _ HD.out).mono ?_
          rintro e w2 ⟨rfl, hd2⟩
          go_wp2
          go_ret
          exact ⟨Kit.ret_bool (by rw [HE.out]; rfl), HD.out.trans hd2⟩

end Go.Proofs.Ytnfjdlocmdgefaa
