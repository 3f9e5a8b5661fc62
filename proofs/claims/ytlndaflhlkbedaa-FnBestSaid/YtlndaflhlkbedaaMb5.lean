/- Texts of one claim laid into one file, in build order: UndS, MapS, SaMS, DrBm, Bst, ExBst. -/
import Derived.Test.YtlndaflhlkbedaaMb4
import Derived.Deep.RegionHeld3
import Derived.Outline
import Derived.StillTailTactics
import Derived.Test.YtlndaflhlkbedaaRows
/- Contracts (UndS). -/
namespace Go.Proofs.Ytlndaflhlkbedaa
open Go.RowKit
set_option linter.unusedVariables false

set_option maxHeartbeats 1600000 in
set_option maxRecDepth 100000 in
theorem specUnder_any (A : Option Addr) (n c : Nat) (xs : Tr) (i j : Int) (w : World) (h : NdIn w w.heap.size A n xs) (hn : n ≤ 1048576) :
    Calls Try.prog 96 #[.slice A n c, .int .i64 i, .int .i64 j] w fun e w' => e = .returned (.bool (Tr.under xs i j)) ∧ Drawn w w' := by
  have H := Lib.hid h
  clear h
  have H0 := Lib.hid H.out
  have HD := Lib.hid (Drawn.refl w)
  rcases h1 : Tr.has xs i with _ | _
  · have Hf := Lib.hid (show Tr.under xs i j = false by unfold Tr.under; rw [h1]; rfl)
    have Hh := Lib.hid h1
    clear h1
    go_enter Try.func96, Try.ntmps96
    go_wp2_with fail
    refine (l3At_any _ _ _ xs _ _ H0.out hn).mono ?_
    rintro e w1 ⟨rfl, hd⟩
    have HD := Lib.hid (HD.out.trans hd)
    have Hw1 := Lib.hid (H0.out.to_drawn hd)
    clear hd
    rw [Hh.out]
    go_wp2
    go_ret
    exact ⟨Kit.ret_bool Hf.out.symm, HD.out⟩
  · rcases h2 : Tr.has xs j with _ | _
    · have Hf := Lib.hid (show Tr.under xs i j = false by unfold Tr.under; rw [h2, Bool.and_false]; rfl)
      have Hh := Lib.hid h1
      have Hh2 := Lib.hid h2
      clear h1 h2
      go_enter Try.func96, Try.ntmps96
      go_wp2_with fail
      refine (l3At_any _ _ _ xs _ _ H0.out hn).mono ?_
      rintro e w1 ⟨rfl, hd⟩
      have HD := Lib.hid (HD.out.trans hd)
      have Hw1 := Lib.hid (H0.out.to_drawn hd)
      clear hd
      rw [Hh.out]
      go_wp2_with fail
      refine (l3At_any _ _ _ xs _ _ Hw1.out hn).mono ?_
      rintro e w2 ⟨rfl, hd⟩
      have HD := Lib.hid (HD.out.trans hd)
      have Hw2 := Lib.hid (Hw1.out.to_drawn hd)
      clear hd
      rw [Hh2.out]
      go_wp2
      go_ret
      exact ⟨Kit.ret_bool Hf.out.symm, HD.out⟩
    · have Hf := Lib.hid (show Tr.under xs i j = (decide (i < j) && decide (j < Tr.endOf xs i)) by unfold Tr.under; rw [h1, h2]; rfl)
      have Hh := Lib.hid h1
      have Hh2 := Lib.hid h2
      clear h1 h2
      obtain ⟨E, hE⟩ : ∃ E, E = Tr.endOf xs i := ⟨_, rfl⟩
      have HE := Lib.hid hE
      rw [← hE] at Hf
      clear hE
      by_cases h3 : i < j
      · have e3 : decide (i < j) = true := by simpa using h3
        rw [e3] at Hf
        go_enter Try.func96, Try.ntmps96
        go_wp2_with fail
        refine (l3At_any _ _ _ xs _ _ H0.out hn).mono ?_
        rintro e w1 ⟨rfl, hd⟩
        have HD := Lib.hid (HD.out.trans hd)
        have Hw1 := Lib.hid (H0.out.to_drawn hd)
        clear hd
        rw [Hh.out]
        go_wp2_with fail
        refine (l3At_any _ _ _ xs _ _ Hw1.out hn).mono ?_
        rintro e w2 ⟨rfl, hd⟩
        have HD := Lib.hid (HD.out.trans hd)
        have Hw2 := Lib.hid (Hw1.out.to_drawn hd)
        clear hd
        rw [Hh2.out]
        go_wp2_with fail
        refine (specEndOf_any _ _ _ xs _ _ Hw2.out hn).mono ?_
        rintro e w3 ⟨rfl, hd⟩
        have HD := Lib.hid (HD.out.trans hd)
        clear hd
        rw [← HE.out]
        go_wp2
        go_ret
        exact ⟨Kit.ret_bool (by rw [Hf.out]; simp), HD.out⟩
      · have e3 : decide (i < j) = false := by simpa using h3
        rw [e3] at Hf
        go_enter Try.func96, Try.ntmps96
        go_wp2_with fail
        refine (l3At_any _ _ _ xs _ _ H0.out hn).mono ?_
        rintro e w1 ⟨rfl, hd⟩
        have HD := Lib.hid (HD.out.trans hd)
        have Hw1 := Lib.hid (H0.out.to_drawn hd)
        clear hd
        rw [Hh.out]
        go_wp2_with fail
        refine (l3At_any _ _ _ xs _ _ Hw1.out hn).mono ?_
        rintro e w2 ⟨rfl, hd⟩
        have HD := Lib.hid (HD.out.trans hd)
        have Hw2 := Lib.hid (Hw1.out.to_drawn hd)
        clear hd
        rw [Hh2.out]
        go_wp2
        go_ret
        exact ⟨Kit.ret_bool (by rw [Hf.out]; simp), HD.out⟩


end Go.Proofs.Ytlndaflhlkbedaa

/- Contracts (MapS). -/
namespace Go.Proofs.Ytlndaflhlkbedaa
open Go.RowKit
set_option linter.unusedVariables false

set_option maxHeartbeats 3200000 in
set_option maxRecDepth 100000 in
theorem specMapOk_any (A A' A'' : Option Addr) (n n' n'' c c' c'' : Nat) (xs ys ms : Tr) (w : World) (h : NdIn w w.heap.size A n xs) (h' : NdIn w w.heap.size A' n' ys) (h'' : NdIn w w.heap.size A'' n'' ms) (hn : n ≤ 1048576) (hn' : n' ≤ 1048576) (hn'' : n'' ≤ 1048576) :
    Calls Try.prog 38 #[.slice A n c, .slice A' n' c', .slice A'' n'' c''] w fun e w' => e = .returned (.bool (Mp.ok xs ys ms)) ∧ Drawn w w' := by
  have H := Lib.hid h
  have H' := Lib.hid h'
  have H2 := Lib.hid h''
  clear h h' h''
  have HL := Lib.hid H2.out.1
  go_enter Try.func38, Try.ntmps38
  go_wp2
  go_loopw [7] (fun iv wr => ∃ k : Nat, k ≤ n'' ∧ iv = .int .i64 k ∧ (∀ q, q < k → Mp.okAt xs ys ms q = true) ∧ Drawn w wr) (fun i _ => n'' - (intOf i).toNat)
  case atStart => exact ⟨0, by omega, rfl, fun q hq => absurd hq (by omega), Drawn.refl _⟩
  case round =>
    obtain ⟨k, hk, rfl, hgood, hD⟩ := hrel
    have HG := Lib.hid hgood
    have HD := Lib.hid hD
    clear hgood hD
    by_cases hlt : k < n''
    · obtain ⟨ad, rfl, hb, hl, hd⟩ := (H2.out.to_drawn HD.out).at_ (k := k) hlt
      have hk0 : (0 : Int) ≤ (k : Int) := by omega
      have hklt : (k : Int) < (n'' : Int) := by omega
      have HK := Lib.hid (show k < ms.length by rw [HL.out]; exact hlt)
      obtain ⟨b1, hb1⟩ : ∃ b, b = Tr.has xs (Tr.l ms k) := ⟨_, rfl⟩
      obtain ⟨b2, hb2⟩ : ∃ b, b = Tr.has ys (Tr.d ms k) := ⟨_, rfl⟩
      have QA := Lib.hid (fun (wq : World) (hd : Drawn wr wq) => show Calls Try.prog 86 #[.slice A n c, .int .i64 (Tr.l ms k)] wq fun e w' => e = .returned (.bool b1) ∧ Drawn wq w' from by rw [hb1]; exact l3At_any _ _ _ xs _ _ ((H.out.to_drawn HD.out).to_drawn hd) hn)
      have QB := Lib.hid (fun (wq : World) (hd : Drawn wr wq) => show Calls Try.prog 86 #[.slice A' n' c', .int .i64 (Tr.d ms k)] wq fun e w' => e = .returned (.bool b2) ∧ Drawn wq w' from by rw [hb2]; exact l3At_any _ _ _ ys _ _ ((H'.out.to_drawn HD.out).to_drawn hd) hn')
      have HB1 := Lib.hid hb1
      have HB2 := Lib.hid hb2
      clear hb1 hb2
      cases b1 with
      | false =>
        have hf := Lib.hid (Mp.ok_no HK.out (Mp.no_a HB1.out.symm) : Mp.ok xs ys ms = false)
        as_aux_lemma =>
          go_wp2_with fail
          go_quiet (first | (go_at_call 86; with_reducible exact quiet_drawn (QA.out _ ((Drawn.refl _).drewN _))) | (go_at_call 86; with_reducible exact quiet_drawn (QB.out _ ((Drawn.refl _).drewN _))))
          go_wp2
          go_ret
          exact ⟨Kit.ret_bool hf.out.symm, HD.out.trans ((Drawn.refl _).drewN _)⟩
      | true =>
        cases b2 with
        | false =>
          have hf := Lib.hid (Mp.ok_no HK.out (Mp.no_b HB2.out.symm) : Mp.ok xs ys ms = false)
          as_aux_lemma =>
            go_wp2_with fail
            go_quiet (first | (go_at_call 86; with_reducible exact quiet_drawn (QA.out _ ((Drawn.refl _).drewN _))) | (go_at_call 86; with_reducible exact quiet_drawn (QB.out _ ((Drawn.refl _).drewN _))))
            go_wp2
            go_ret
            exact ⟨Kit.ret_bool hf.out.symm, HD.out.trans ((Drawn.refl _).drewN _)⟩
        | true =>
          rcases (show (0 < k ∧ Tr.l ms k ≤ Tr.l ms (k - 1)) ∨ (0 < k ∧ Tr.l ms (k - 1) < Tr.l ms k) ∨ k = 0 by omega) with ⟨h0, h1⟩ | ⟨h0, h1⟩ | h0
          · have hf := Lib.hid (Mp.ok_no HK.out (Mp.no_c (k := k - 1) (by omega) (Mp.at_l (by omega))) : Mp.ok xs ys ms = false)
            obtain ⟨hl1, hd1⟩ := (H2.out.to_drawn HD.out).here (k := k - 1) (by omega)
            obtain ⟨k1, hk1⟩ : ∃ k1, k1 = k - 1 := ⟨_, rfl⟩
            rw [← hk1] at h1 hl1
            clear hd1
            have a1 : IntKind.i64.wrap ((k : Int) - 1) = (k1 : Int) := by rw [Kit.w64 (by omega) (by omega)]; omega
            have g0 : decide (0 < k) = true := decide_eq_true h0
            have g1 : decide (Tr.l ms k ≤ Tr.l ms k1) = true := decide_eq_true h1
            have g2 : (0 : Int) ≤ (k1 : Int) := by omega
            have g3 : (k1 : Int) < (n'' : Int) := by omega
            clear hk1
            as_aux_lemma =>
              go_wp2_with fail
              go_quiet (first | (go_at_call 86; with_reducible exact quiet_drawn (QA.out _ ((Drawn.refl _).drewN _))) | (go_at_call 86; with_reducible exact quiet_drawn (QB.out _ ((Drawn.refl _).drewN _))))
              go_wp2
              go_ret
              exact ⟨Kit.ret_bool hf.out.symm, HD.out.trans ((Drawn.refl _).drewN _)⟩
          · obtain ⟨hl1, hd1⟩ := (H2.out.to_drawn HD.out).here (k := k - 1) (by omega)
            have HC := Lib.hid (fun q (hq : q < k) => (Mp.chain HG.out (fun _ => h1) hq : Tr.l ms q < Tr.l ms k))
            obtain ⟨k1, hk1⟩ : ∃ k1, k1 = k - 1 := ⟨_, rfl⟩
            rw [← hk1] at h1 hl1
            clear hd1
            have a1 : IntKind.i64.wrap ((k : Int) - 1) = (k1 : Int) := by rw [Kit.w64 (by omega) (by omega)]; omega
            have g0 : decide (0 < k) = true := decide_eq_true h0
            have g1 : decide (Tr.l ms k ≤ Tr.l ms k1) = false := decide_eq_false (by omega)
            have g2 : (0 : Int) ≤ (k1 : Int) := by omega
            have g3 : (k1 : Int) < (n'' : Int) := by omega
            clear hk1 h1
            as_aux_lemma =>
              go_wp2_with fail
              go_quiet (first | (go_at_call 86; with_reducible exact quiet_drawn (QA.out _ ((Drawn.refl _).drewN _))) | (go_at_call 86; with_reducible exact quiet_drawn (QB.out _ ((Drawn.refl _).drewN _))))
              clear a1 g0 g1 g2 g3 hl1
              have HD := Lib.hid (HD.out.trans ((Drawn.refl wr).drewN nq))
              go_wp2_with fail
              clear hl hd
              go_loopw [8] (fun jv wr => ∃ j : Nat, j ≤ k ∧ jv = .int .i64 j ∧ (∀ q, q < j → Mp.at xs ys ms (Tr.l ms k) (Tr.d ms k) q = true) ∧ Drawn w wr) (fun j _ => k - (intOf j).toNat)
              case atStart => exact ⟨0, by omega, rfl, fun q hq => absurd hq (by omega), HD.out⟩
              case round =>
                obtain ⟨j, hj, rfl, hgj, hDj⟩ := hrel
                have HJ := Lib.hid hgj
                have HDj := Lib.hid hDj
                clear hgj hDj
                by_cases hjk : j < k
                · obtain ⟨hl, hd⟩ := (H2.out.to_drawn HDj.out).here (k := k) hlt
                  obtain ⟨hl2, hd2⟩ := (H2.out.to_drawn HDj.out).here (k := j) (by omega)
                  have hj0 : (0 : Int) ≤ (j : Int) := by omega
                  have hj1 : (j : Int) < (n'' : Int) := by omega
                  by_cases hge : Tr.d ms k ≤ Tr.d ms j
                  · have hf := Lib.hid (Mp.ok_no HK.out (Mp.no_c hjk (Mp.at_d (by omega))) : Mp.ok xs ys ms = false)
                    have g1 : decide (Tr.d ms k ≤ Tr.d ms j) = true := decide_eq_true hge
                    clear hge
                    go_wp2_with fail
                    go_quiet (fail)
                    go_wp2
                    go_ret
                    exact ⟨Kit.ret_bool hf.out.symm, HDj.out.trans ((Drawn.refl _).drewN _)⟩
                  · have g1 : decide (Tr.d ms k ≤ Tr.d ms j) = false := decide_eq_false hge
                    obtain ⟨u1, hu1⟩ : ∃ u, u = Tr.under xs (Tr.l ms j) (Tr.l ms k) := ⟨_, rfl⟩
                    obtain ⟨u2, hu2⟩ : ∃ u, u = Tr.under ys (Tr.d ms j) (Tr.d ms k) := ⟨_, rfl⟩
                    have QU := Lib.hid (fun (wq : World) (hq : Drawn wr wq) => show Calls Try.prog 96 #[.slice A n c, .int .i64 (Tr.l ms j), .int .i64 (Tr.l ms k)] wq fun e w' => e = .returned (.bool u1) ∧ Drawn wq w' from by rw [hu1]; exact specUnder_any _ _ _ xs _ _ _ ((H.out.to_drawn HDj.out).to_drawn hq) hn)
                    have QV := Lib.hid (fun (wq : World) (hq : Drawn wr wq) => show Calls Try.prog 96 #[.slice A' n' c', .int .i64 (Tr.d ms j), .int .i64 (Tr.d ms k)] wq fun e w' => e = .returned (.bool u2) ∧ Drawn wq w' from by rw [hu2]; exact specUnder_any _ _ _ ys _ _ _ ((H'.out.to_drawn HDj.out).to_drawn hq) hn')
                    have HLT := Lib.hid hge
                    have HU1 := Lib.hid hu1
                    have HU2 := Lib.hid hu2
                    clear hge hu1 hu2
                    cases u1 with
                    | false =>
                      cases u2 with
                      | false =>
                        have HA := Lib.hid (Mp.at_yes (HC.out j hjk) (by have := HLT.out; omega) (by rw [← HU1.out, ← HU2.out]) : Mp.at xs ys ms (Tr.l ms k) (Tr.d ms k) j = true)
                        go_wp2_with fail
                        go_quiet (first | (go_at_call 96; with_reducible exact quiet_drawn (QU.out _ ((Drawn.refl _).drewN _))) | (go_at_call 96; with_reducible exact quiet_drawn (QV.out _ ((Drawn.refl _).drewN _))))
                        go_wp2
                        go_roundw
                        case rel => exact ⟨j + 1, by omega, by go_num, fun q hq => by
                          rcases Nat.lt_succ_iff_lt_or_eq.1 hq with h' | rfl
                          · exact HJ.out q h'
                          · exact HA.out, HDj.out.trans ((Drawn.refl _).drewN _)⟩
                        case measure => simp [intOf]; omega
                      | true =>
                        have hf := Lib.hid (Mp.ok_no HK.out (Mp.no_c hjk (Mp.at_u (by rw [← HU1.out, ← HU2.out]; decide))) : Mp.ok xs ys ms = false)
                        go_wp2_with fail
                        go_quiet (first | (go_at_call 96; with_reducible exact quiet_drawn (QU.out _ ((Drawn.refl _).drewN _))) | (go_at_call 96; with_reducible exact quiet_drawn (QV.out _ ((Drawn.refl _).drewN _))))
                        go_wp2
                        go_ret
                        exact ⟨Kit.ret_bool hf.out.symm, HDj.out.trans ((Drawn.refl _).drewN _)⟩
                    | true =>
                      cases u2 with
                      | false =>
                        have hf := Lib.hid (Mp.ok_no HK.out (Mp.no_c hjk (Mp.at_u (by rw [← HU1.out, ← HU2.out]; decide))) : Mp.ok xs ys ms = false)
                        go_wp2_with fail
                        go_quiet (first | (go_at_call 96; with_reducible exact quiet_drawn (QU.out _ ((Drawn.refl _).drewN _))) | (go_at_call 96; with_reducible exact quiet_drawn (QV.out _ ((Drawn.refl _).drewN _))))
                        go_wp2
                        go_ret
                        exact ⟨Kit.ret_bool hf.out.symm, HDj.out.trans ((Drawn.refl _).drewN _)⟩
                      | true =>
                        have HA := Lib.hid (Mp.at_yes (HC.out j hjk) (by have := HLT.out; omega) (by rw [← HU1.out, ← HU2.out]) : Mp.at xs ys ms (Tr.l ms k) (Tr.d ms k) j = true)
                        go_wp2_with fail
                        go_quiet (first | (go_at_call 96; with_reducible exact quiet_drawn (QU.out _ ((Drawn.refl _).drewN _))) | (go_at_call 96; with_reducible exact quiet_drawn (QV.out _ ((Drawn.refl _).drewN _))))
                        go_wp2
                        go_roundw
                        case rel => exact ⟨j + 1, by omega, by go_num, fun q hq => by
                          rcases Nat.lt_succ_iff_lt_or_eq.1 hq with h' | rfl
                          · exact HJ.out q h'
                          · exact HA.out, HDj.out.trans ((Drawn.refl _).drewN _)⟩
                        case measure => simp [intOf]; omega
                · obtain rfl : k = j := by omega
                  have HOK := Lib.hid (Mp.okAt_yes HB1.out.symm HB2.out.symm (fun q hq => HJ.out q hq) : Mp.okAt xs ys ms k = true)
                  go_wp2
                  go_roundw
                  case rel => exact ⟨k + 1, by omega, by go_num, fun q hq => by
                    rcases Nat.lt_succ_iff_lt_or_eq.1 hq with h' | rfl
                    · exact HG.out q h'
                    · exact HOK.out, HDj.out⟩
                  case measure => simp [intOf]; omega
          · have HC := Lib.hid (fun q (hq : q < k) => (absurd hq (by omega) : Tr.l ms q < Tr.l ms k))
            have g0 : decide (0 < k) = false := decide_eq_false (by omega)
            clear h0
            as_aux_lemma =>
              go_wp2_with fail
              go_quiet (first | (go_at_call 86; with_reducible exact quiet_drawn (QA.out _ ((Drawn.refl _).drewN _))) | (go_at_call 86; with_reducible exact quiet_drawn (QB.out _ ((Drawn.refl _).drewN _))))
              clear g0
              have HD := Lib.hid (HD.out.trans ((Drawn.refl wr).drewN nq))
              go_wp2_with fail
              clear hl hd
              go_loopw [8] (fun jv wr => ∃ j : Nat, j ≤ k ∧ jv = .int .i64 j ∧ (∀ q, q < j → Mp.at xs ys ms (Tr.l ms k) (Tr.d ms k) q = true) ∧ Drawn w wr) (fun j _ => k - (intOf j).toNat)
              case atStart => exact ⟨0, by omega, rfl, fun q hq => absurd hq (by omega), HD.out⟩
              case round =>
                obtain ⟨j, hj, rfl, hgj, hDj⟩ := hrel
                have HJ := Lib.hid hgj
                have HDj := Lib.hid hDj
                clear hgj hDj
                by_cases hjk : j < k
                · obtain ⟨hl, hd⟩ := (H2.out.to_drawn HDj.out).here (k := k) hlt
                  obtain ⟨hl2, hd2⟩ := (H2.out.to_drawn HDj.out).here (k := j) (by omega)
                  have hj0 : (0 : Int) ≤ (j : Int) := by omega
                  have hj1 : (j : Int) < (n'' : Int) := by omega
                  by_cases hge : Tr.d ms k ≤ Tr.d ms j
                  · have hf := Lib.hid (Mp.ok_no HK.out (Mp.no_c hjk (Mp.at_d (by omega))) : Mp.ok xs ys ms = false)
                    have g1 : decide (Tr.d ms k ≤ Tr.d ms j) = true := decide_eq_true hge
                    clear hge
                    go_wp2_with fail
                    go_quiet (fail)
                    go_wp2
                    go_ret
                    exact ⟨Kit.ret_bool hf.out.symm, HDj.out.trans ((Drawn.refl _).drewN _)⟩
                  · have g1 : decide (Tr.d ms k ≤ Tr.d ms j) = false := decide_eq_false hge
                    obtain ⟨u1, hu1⟩ : ∃ u, u = Tr.under xs (Tr.l ms j) (Tr.l ms k) := ⟨_, rfl⟩
                    obtain ⟨u2, hu2⟩ : ∃ u, u = Tr.under ys (Tr.d ms j) (Tr.d ms k) := ⟨_, rfl⟩
                    have QU := Lib.hid (fun (wq : World) (hq : Drawn wr wq) => show Calls Try.prog 96 #[.slice A n c, .int .i64 (Tr.l ms j), .int .i64 (Tr.l ms k)] wq fun e w' => e = .returned (.bool u1) ∧ Drawn wq w' from by rw [hu1]; exact specUnder_any _ _ _ xs _ _ _ ((H.out.to_drawn HDj.out).to_drawn hq) hn)
                    have QV := Lib.hid (fun (wq : World) (hq : Drawn wr wq) => show Calls Try.prog 96 #[.slice A' n' c', .int .i64 (Tr.d ms j), .int .i64 (Tr.d ms k)] wq fun e w' => e = .returned (.bool u2) ∧ Drawn wq w' from by rw [hu2]; exact specUnder_any _ _ _ ys _ _ _ ((H'.out.to_drawn HDj.out).to_drawn hq) hn')
                    have HLT := Lib.hid hge
                    have HU1 := Lib.hid hu1
                    have HU2 := Lib.hid hu2
                    clear hge hu1 hu2
                    cases u1 with
                    | false =>
                      cases u2 with
                      | false =>
                        have HA := Lib.hid (Mp.at_yes (HC.out j hjk) (by have := HLT.out; omega) (by rw [← HU1.out, ← HU2.out]) : Mp.at xs ys ms (Tr.l ms k) (Tr.d ms k) j = true)
                        go_wp2_with fail
                        go_quiet (first | (go_at_call 96; with_reducible exact quiet_drawn (QU.out _ ((Drawn.refl _).drewN _))) | (go_at_call 96; with_reducible exact quiet_drawn (QV.out _ ((Drawn.refl _).drewN _))))
                        go_wp2
                        go_roundw
                        case rel => exact ⟨j + 1, by omega, by go_num, fun q hq => by
                          rcases Nat.lt_succ_iff_lt_or_eq.1 hq with h' | rfl
                          · exact HJ.out q h'
                          · exact HA.out, HDj.out.trans ((Drawn.refl _).drewN _)⟩
                        case measure => simp [intOf]; omega
                      | true =>
                        have hf := Lib.hid (Mp.ok_no HK.out (Mp.no_c hjk (Mp.at_u (by rw [← HU1.out, ← HU2.out]; decide))) : Mp.ok xs ys ms = false)
                        go_wp2_with fail
                        go_quiet (first | (go_at_call 96; with_reducible exact quiet_drawn (QU.out _ ((Drawn.refl _).drewN _))) | (go_at_call 96; with_reducible exact quiet_drawn (QV.out _ ((Drawn.refl _).drewN _))))
                        go_wp2
                        go_ret
                        exact ⟨Kit.ret_bool hf.out.symm, HDj.out.trans ((Drawn.refl _).drewN _)⟩
                    | true =>
                      cases u2 with
                      | false =>
                        have hf := Lib.hid (Mp.ok_no HK.out (Mp.no_c hjk (Mp.at_u (by rw [← HU1.out, ← HU2.out]; decide))) : Mp.ok xs ys ms = false)
                        go_wp2_with fail
                        go_quiet (first | (go_at_call 96; with_reducible exact quiet_drawn (QU.out _ ((Drawn.refl _).drewN _))) | (go_at_call 96; with_reducible exact quiet_drawn (QV.out _ ((Drawn.refl _).drewN _))))
                        go_wp2
                        go_ret
                        exact ⟨Kit.ret_bool hf.out.symm, HDj.out.trans ((Drawn.refl _).drewN _)⟩
                      | true =>
                        have HA := Lib.hid (Mp.at_yes (HC.out j hjk) (by have := HLT.out; omega) (by rw [← HU1.out, ← HU2.out]) : Mp.at xs ys ms (Tr.l ms k) (Tr.d ms k) j = true)
                        go_wp2_with fail
                        go_quiet (first | (go_at_call 96; with_reducible exact quiet_drawn (QU.out _ ((Drawn.refl _).drewN _))) | (go_at_call 96; with_reducible exact quiet_drawn (QV.out _ ((Drawn.refl _).drewN _))))
                        go_wp2
                        go_roundw
                        case rel => exact ⟨j + 1, by omega, by go_num, fun q hq => by
                          rcases Nat.lt_succ_iff_lt_or_eq.1 hq with h' | rfl
                          · exact HJ.out q h'
                          · exact HA.out, HDj.out.trans ((Drawn.refl _).drewN _)⟩
                        case measure => simp [intOf]; omega
                · obtain rfl : k = j := by omega
                  have HOK := Lib.hid (Mp.okAt_yes HB1.out.symm HB2.out.symm (fun q hq => HJ.out q hq) : Mp.okAt xs ys ms k = true)
                  go_wp2
                  go_roundw
                  case rel => exact ⟨k + 1, by omega, by go_num, fun q hq => by
                    rcases Nat.lt_succ_iff_lt_or_eq.1 hq with h' | rfl
                    · exact HG.out q h'
                    · exact HOK.out, HDj.out⟩
                  case measure => simp [intOf]; omega
    · obtain rfl : k = n'' := by omega
      have HE := Lib.hid (Mp.ok_yes (fun q hq => HG.out q (by rw [← HL.out]; exact hq)) : Mp.ok xs ys ms = (Tr.ok xs && Tr.ok ys))
      obtain ⟨b1, hb1⟩ : ∃ b, b = Tr.ok xs := ⟨_, rfl⟩
      obtain ⟨b2, hb2⟩ : ∃ b, b = Tr.ok ys := ⟨_, rfl⟩
      rw [← hb1, ← hb2] at HE
      have C1 := Lib.hid (fun (wq : World) (hd : Drawn w wq) => show Calls Try.prog 22 #[.slice A n c] wq fun e w' => e = .returned (.bool b1) ∧ Drawn wq w' from by rw [hb1]; exact specTreeOk_any _ _ _ xs _ (H.out.to_drawn hd) hn)
      have C2 := Lib.hid (fun (wq : World) (hd : Drawn w wq) => show Calls Try.prog 22 #[.slice A' n' c'] wq fun e w' => e = .returned (.bool b2) ∧ Drawn wq w' from by rw [hb2]; exact specTreeOk_any _ _ _ ys _ (H'.out.to_drawn hd) hn')
      clear hb1 hb2
      cases b1 with
      | false =>
        as_aux_lemma =>
          go_wp2_with fail
          refine (C1.out _ HD.out).mono ?_
          rintro e w1 ⟨rfl, hd1⟩
          go_wp2
          go_ret
          exact ⟨Kit.ret_bool HE.out.symm, HD.out.trans hd1⟩
      | true =>
        as_aux_lemma =>
          go_wp2_with fail
          refine (C1.out _ HD.out).mono ?_
          rintro e w1 ⟨rfl, hd1⟩
          have HD := Lib.hid (HD.out.trans hd1)
          clear hd1
          go_wp2_with fail
          refine (C2.out _ HD.out).mono ?_
          rintro e w2 ⟨rfl, hd2⟩
          go_wp2
          go_ret
          exact ⟨Kit.ret_bool (by rw [HE.out]; rfl), HD.out.trans hd2⟩

end Go.Proofs.Ytlndaflhlkbedaa

/- Contracts (SaMS). -/
namespace Go.Proofs.Ytlndaflhlkbedaa
open Go.RowKit
set_option linter.unusedVariables false

set_option maxHeartbeats 800000 in
set_option maxRecDepth 100000 in
theorem specSameMap_any (A A' : Option Addr) (n c n' c' : Nat) (xs ys : Tr) (w : World) (h : NdIn w w.heap.size A n xs) (hn : n ≤ 1048576) (h' : NdIn w w.heap.size A' n' ys) (hn' : n' ≤ 1048576) :
    Calls Try.prog 42 #[.slice A n c, .slice A' n' c'] w fun e w' => e = .returned (.bool (decide (xs = ys))) ∧ Drawn w w' := by
  have H := Lib.hid h
  have H' := Lib.hid h'
  clear h h'
  have HL := Lib.hid H.out.1
  have HL' := Lib.hid H'.out.1
  by_cases hnn : n = n'
  · go_enter Try.func42, Try.ntmps42
    have Hnn := Lib.hid hnn
    have hne : ((n : Int) != (n' : Int)) = false := by simp [hnn]
    clear hnn
    go_wp2
    go_loopw [5] (fun iv wr => ∃ k : Nat, k ≤ n ∧ iv = .int .i64 k ∧ Tr.same xs ys k ∧ Drawn w wr) (fun i _ => n - (intOf i).toNat)
    case atStart => exact ⟨0, by omega, rfl, fun j hj => absurd hj (by omega), Drawn.refl _⟩
    case round =>
      obtain ⟨k, hk, rfl, hsm, hD⟩ := hrel
      have Hsm := Lib.hid hsm
      clear hsm
      by_cases hlt : k < n
      · obtain ⟨ad, rfl, hb, hl, hd⟩ := (H.out.drawn hD).at_ hlt
        obtain ⟨ad', rfl, hb', hl', hd'⟩ := (H'.out.drawn hD).at_ (k := k) (by rw [← Hnn.out]; exact hlt)
        have hlt' : (k : Int) < (n' : Int) := by rw [← Hnn.out]; omega
        have hk0 : (0 : Int) ≤ (k : Int) := by omega
        by_cases hq1 : Tr.l xs k = Tr.l ys k
        · by_cases hq2 : Tr.d xs k = Tr.d ys k
          · have Hq := Lib.hid (And.intro hq1 hq2)
            have q1 : (Tr.l xs k == Tr.l ys k) = true := by simpa using hq1
            have q2 : (Tr.d xs k == Tr.d ys k) = true := by simpa using hq2
            clear hq1 hq2
            go_wp2
            go_quiet (fail)
            go_wp2
            go_roundw
            case rel => exact ⟨k + 1, by omega, by go_num, fun j hj => by
              rcases Nat.lt_succ_iff_lt_or_eq.1 hj with h' | rfl
              · exact Hsm.out j h'
              · exact Hq.out, hD.drewN _⟩
            case measure => simp [intOf]; omega
          · have Hq := Lib.hid hq2
            have q1 : (Tr.l xs k == Tr.l ys k) = true := by simpa using hq1
            have q2 : (Tr.d xs k == Tr.d ys k) = false := by simpa using hq2
            clear hq1 hq2
            go_wp2
            go_quiet (fail)
            go_wp2
            go_ret
            refine ⟨Kit.ret_bool ?_, hD.drewN _⟩
            symm
            rw [decide_eq_false_iff_not]
            rintro rfl
            exact Hq.out rfl
        · have Hq := Lib.hid hq1
          have q1 : (Tr.l xs k == Tr.l ys k) = false := by simpa using hq1
          clear hq1
          go_wp2
          go_quiet (fail)
          go_wp2
          go_ret
          refine ⟨Kit.ret_bool ?_, hD.drewN _⟩
          symm
          rw [decide_eq_false_iff_not]
          rintro rfl
          exact Hq.out rfl
      · obtain rfl : k = n := by omega
        go_wp2
        go_ret
        refine ⟨Kit.ret_bool ?_, hD⟩
        symm
        rw [decide_eq_true_eq]
        exact Tr.ext (by rw [HL.out, HL'.out]; exact Hnn.out) (fun j hj => Hsm.out j (by rw [← HL.out]; exact hj))
  · have hne : ((n : Int) != (n' : Int)) = true := by simp; omega
    have Hq := Lib.hid (show decide (xs = ys) = false by
      rw [decide_eq_false_iff_not]; rintro rfl; exact hnn (HL.out.symm.trans HL'.out))
    clear hnn
    go_enter Try.func42, Try.ntmps42
    go_wp2
    go_ret
    exact ⟨Kit.ret_bool Hq.out.symm, Drawn.refl _⟩

end Go.Proofs.Ytlndaflhlkbedaa

/- Contracts (DrBm). -/
namespace Go.Proofs.Ytlndaflhlkbedaa
open Go.RowKit
set_option linter.unusedVariables false

set_option maxHeartbeats 3200000 in
set_option maxRecDepth 100000 in
theorem l8DrawBestMap_ex (w : World) (k : Code) (hcode : CodeIn w w.heap.size k.a k.cs) (hlen : k.cs.length ≤ 1048576) :
    Calls Try.prog 34 #[.slice k.a k.cs.length k.cap] w (DrawT3 w) := by
  obtain ⟨wz, hwz⟩ : ∃ wz, wz = w.alloc (.cells #[.slice none 0 0, .slice none 0 0, .slice none 0 0] 27) := ⟨_, rfl⟩
  obtain ⟨s, hs⟩ : ∃ s, s = w.heap.size := ⟨_, rfl⟩
  have hbz : Below w.heap.size w wz := by rw [hwz]; exact (Below.refl _ _).alloc (Nat.le_refl _) _
  have zz : wz.heap.size = s + 1 := by rw [hwz, hs]; simp
  have HX := Lib.hid (show Box3 wz s (.slice none 0 0) (.slice none 0 0) (.slice none 0 0) by rw [hwz, hs]; exact Box3.made _ _ _ _ _)
  have HF := Lib.hid (show ∀ off, wz.frozen? ⟨s, off, none⟩ = false by rw [hwz, hs]; exact fun off => by simp)
  have HC := Lib.hid (CodeIn.onto hcode hbz hbz.size)
  have HBZ := Lib.hid (show Below s w wz by rw [hs]; exact hbz)
  have HS := Lib.hid hs
  have HZ := Lib.hid zz
  have HW := Lib.hid hwz
  clear hcode hbz hs zz hwz
  go_enter Try.func34, Try.ntmps34
  go_wp2_with fail
  rw [← HW.out, ← HS.out]
  refine (l1New_ex _ k HC.out hlen).mono ?_
  rintro e w1 ⟨rfl, c, g1⟩
  have HX := Lib.hid (HX.out.grown g1 (by have := HZ.out; omega) (fun b e => by cases e))
  have HF := Lib.hid (free_kept g1 (by have := HZ.out; omega) (fun b e => by cases e) HF.out)
  have HB := Lib.hid (HBZ.out.trans ((Below.refl _ _).grown g1 (by have := HZ.out; omega) (fun b e => by cases e)))
  have l1 := g1.size
  have HQ := Lib.hid c
  have hsz : s < wz.heap.size := by have := HZ.out; omega
  clear c g1
  go_wp2_with fail
  refine (l8Draw_ex w1 _ k 9 (by decide) HQ.out).mono ?_
  rintro e w2 ⟨xs, ys, A, A', n, n', cp, cp', h0, h2, c0, c2, A1, n1, q1, K, rfl, ha, hb, hcp, hcp', hn, hn', hn1, hk, g, _, ⟨e0, e1, e2⟩, ea, eb⟩
  have HX := Lib.hid (HX.out.grown g (by omega) (fun b e => by injection e with e; omega))
  have HF := Lib.hid (free_kept g (by omega) (fun b e => by injection e with e; omega) HF.out)
  have HB := Lib.hid (HB.out.trans (Kit.below_of_grown g (fun b e => by injection e with e; omega) (by omega)))
  have l2 := g.size
  obtain ⟨w3, hw3⟩ : ∃ w3, w3 = w2.alloc (.cells #[.slice (some ⟨h0, 0, none⟩) 6 c0, .slice A1 n1 q1, .slice (some ⟨h2, 0, none⟩) 36 c2] 27) := ⟨_, rfl⟩
  have z3 : w3.heap.size = w2.heap.size + 1 := by rw [hw3]; simp
  have ga : w2.grownBy w3 none := by rw [hw3]; exact Kit.grown_alloc _ _ _
  obtain ⟨b0, b1, b2⟩ := (show Box3 w3 w2.heap.size (.slice (some ⟨h0, 0, none⟩) 6 c0) (.slice A1 n1 q1) (.slice (some ⟨h2, 0, none⟩) 36 c2) by rw [hw3]; exact Box3.made _ _ _ _ _)
  obtain ⟨x0, x1, x2⟩ := HX.out.grown ga (by omega) (fun b e => by cases e)
  have HF3 := Lib.hid (free_kept ga (by omega) (fun b e => by cases e) HF.out)
  have y0 := HF3.out 0
  have y1 := HF3.out 1
  have y2 := HF3.out 2
  have HB := Lib.hid (HB.out.trans ((Below.refl _ _).grown ga (by omega) (fun b e => by cases e)))
  have ND := Lib.hid (And.intro ha (And.intro hb (And.intro hk (And.intro e0 (And.intro e1 (And.intro e2 (And.intro ea eb)))))))
  have GA := Lib.hid ga
  have hne : w2.heap.size ≠ s := by omega
  have hne' : s ≠ w2.heap.size := by omega
  rw [hw3] at b0 b1 b2 x0 x1 x2 y0 y1 y2
  have HW3 := Lib.hid hw3
  clear ha hb hk g ga hw3 e0 e1 e2 ea eb
  go_wp2_with fail
  rw [← HW3.out]
  rw [← HW3.out] at b0 b1 b2 x0 x1 x2 y0 y1 y2
  go_still_tail 5, (by kernel_rfl)
  change wpList _ _ _ _ _ w3.drew
  go_wp2
  (try simp only [Exit.inBlock, Exit.then])
  refine bodyPost_ret (v := .tuple #[.slice A n cp, .slice A' n' cp', .agg #[.slice (some ⟨h0, 0, none⟩) 6 c0, .slice A1 n1 q1, .slice (some ⟨h2, 0, none⟩) 36 c2]]) ?_ rfl ?_
  · rw [results_two_cell rfl]
    go_simp
  · obtain ⟨ha, hb, ⟨k0, k1, k2⟩, e0, e1, e2, ea, eb⟩ := ND.out
    have gS : ∀ u0 u1 u2, w3.drew.grownBy (((w3.drew.setCell ⟨s, 0, none⟩ u0).setCell ⟨s, 1, none⟩ u1).setCell ⟨s, 2, none⟩ u2) (some s) := fun u0 u1 u2 => Kit.grown_then_set (Kit.grown_then_set (Kit.grown_set _ _ _ _) _ _) _ _
    have dr : w2.grownBy w3.drew none := grown_drewN GA.out 1
    have hlo : s < w1.heap.size := by omega
    have r1 : ∀ b, (none : Option Nat) = some b → b < w1.heap.size := fun b e => by cases e
    have r2 : ∀ b, some s = some b → b < w1.heap.size := fun b e => by injection e with e; omega
    have f0 : ∀ ad, (some ⟨h0, 0, none⟩ : Option Addr) = some ad → w1.heap.size ≤ ad.block := fun ad e => by injection e with e; rw [← e]; exact e0
    have f2 : ∀ ad, (some ⟨h2, 0, none⟩ : Option Addr) = some ad → w1.heap.size ≤ ad.block := fun ad e => by injection e with e; rw [← e]; exact e2
    have kA := (ha.keepLo ea dr r1).keepLo ea (gS (.slice (some ⟨h0, 0, none⟩) 6 c0) (.slice A1 n1 q1) (.slice (some ⟨h2, 0, none⟩) 36 c2)) r2
    have kB := (hb.keepLo eb dr r1).keepLo eb (gS (.slice (some ⟨h0, 0, none⟩) 6 c0) (.slice A1 n1 q1) (.slice (some ⟨h2, 0, none⟩) 36 c2)) r2
    have K0 := (k0.keepLo f0 dr r1).keepLo f0 (gS (.slice (some ⟨h0, 0, none⟩) 6 c0) (.slice A1 n1 q1) (.slice (some ⟨h2, 0, none⟩) 36 c2)) r2
    have K1 := (k1.keepLo e1 dr r1).keepLo e1 (gS (.slice (some ⟨h0, 0, none⟩) 6 c0) (.slice A1 n1 q1) (.slice (some ⟨h2, 0, none⟩) 36 c2)) r2
    have K2 := (k2.keepLo f2 dr r1).keepLo f2 (gS (.slice (some ⟨h0, 0, none⟩) 6 c0) (.slice A1 n1 q1) (.slice (some ⟨h2, 0, none⟩) 36 c2)) r2
    have BB := (Drawn.below HB.out (Drawn.refl w3).drew).trans (Kit.below_of_grown (gS (.slice (some ⟨h0, 0, none⟩) 6 c0) (.slice A1 n1 q1) (.slice (some ⟨h2, 0, none⟩) 36 c2)) (fun b e => by injection e with e; omega) (by show s ≤ w3.heap.size; omega))
    exact ⟨xs, ys, _, _, _, _, _, _, _, _, _, _, _, _, _, K, rfl, kA, kB, hcp, hcp', hn, hn', hn1, ⟨K0, K1, K2⟩, by rw [← HS.out]; exact BB⟩

end Go.Proofs.Ytlndaflhlkbedaa

/- Contracts (Bst). -/
namespace Go.Proofs.Ytlndaflhlkbedaa
open Go.RowKit
set_option linter.unusedVariables false

set_option maxHeartbeats 3200000 in
set_option maxRecDepth 100000 in
theorem best_any (k : Code) (w : World) (hcode : CodeIn w w.heap.size k.a k.cs) (hlen : k.cs.length ≤ 1048576) :
    Calls Try.prog 6 #[.slice k.a k.cs.length k.cap] w fun e w' => e = .returned (.bool true) ∧ Below w.heap.size w w' := by
  have HC := Lib.hid hcode
  clear hcode
  go_enter Try.func6, Try.ntmps6
  go_wp2_with fail
  refine (big_small _ _ _ (by omega) _).mono ?_
  rintro e w0 ⟨rfl, rfl⟩
  go_wp2_with fail
  refine (l8DrawBestMap_ex w k HC.out hlen).mono ?_
  rintro e w1 ⟨xs, ys, A, A', n, n', cp, cp', h0, h2, c0, c2, A1, n1, q1, K, rfl, ha, hb, hcp, hcp', hn, hn', hn1, hk, hbl⟩
  obtain ⟨wa, hwa⟩ : ∃ wb, wb = w1.alloc (.cells #[.slice (some ⟨h0, 0, none⟩) 6 c0, .slice A1 n1 q1, .slice (some ⟨h2, 0, none⟩) 36 c2] 27) := ⟨_, rfl⟩
  have hba : Below w1.heap.size w1 wa := by rw [hwa]; exact (Below.refl _ _).alloc (Nat.le_refl _) _
  have HN0 := Lib.hid (ha.to_below hba)
  have HN1 := Lib.hid (hb.to_below hba)
  have HK := Lib.hid (hk.to_below hba)
  have HW := Lib.hid (hbl.trans (hba.mono hbl.size))
  have HQ := Lib.hid (show Box3 wa w1.heap.size (.slice (some ⟨h0, 0, none⟩) 6 c0) (.slice A1 n1 q1) (.slice (some ⟨h2, 0, none⟩) 36 c2) by rw [hwa]; exact Box3.made _ _ _ _ _)
  have Hwa := Lib.hid hwa
  have L0 := Lib.hid ha.1
  have L1 := Lib.hid hb.1
  have hN1 : n1 ≤ 1048576 := by rcases hn1 with h | h <;> omega
  have hs0 : n ≤ 1048576 := by omega
  have hs1 : n' ≤ 1048576 := by omega
  clear ha hb hk hbl hba hwa
  obtain ⟨M, hM⟩ : ∃ x, x = Bm.best xs ys K := ⟨_, rfl⟩
  have HMB := Lib.hid hM
  have ML := Lib.hid (show M.length ≤ 1048576 by rw [hM]; exact Bm.best_len xs ys K)
  have CBM := Lib.hid (show Calls Try.prog 35 #[.slice A n cp, .slice A' n' cp', .agg #[.slice (some ⟨h0, 0, none⟩) 6 c0, .slice A1 n1 q1, .slice (some ⟨h2, 0, none⟩) 36 c2]] wa (OwnNodes 55 (Bm.best xs ys K) wa) from implBestMap_any (c := _) (c' := _) (c0 := _) (c1 := _) (c2 := _) (ha := HN0.out) (hb := HN1.out) (hk := HK.out) (hn := hs0) (hn' := hs1) (h0 := by decide) (h1 := hN1) (h2 := by decide) (hc := hcp) (hc' := hcp'))
  rw [← hM] at CBM
  clear hM
  have HBX := Lib.hid (show w1.heap.size < wa.heap.size by rw [Hwa.out]; simp)
  obtain ⟨r0, r1, r2⟩ := HQ.out
  rw [Hwa.out] at r0 r1 r2
  go_wp2_with fail
  clear r0 r1 r2
  rw [← Hwa.out]
  refine CBM.out.mono ?_
  rintro e wb ⟨Am, cm, rfl, hom, hbm⟩
  have HMM := Lib.hid hom
  have HQ := Lib.hid (HQ.out.below hbm HBX.out)
  have HN0 := Lib.hid (HN0.out.to_below hbm)
  have HN1 := Lib.hid (HN1.out.to_below hbm)
  have HK := Lib.hid (HK.out.to_below hbm)
  have HW := Lib.hid (HW.out.trans (hbm.mono HW.out.size))
  have HBX := Lib.hid (Nat.lt_of_lt_of_le HBX.out hbm.size)
  clear hom hbm CBM Hwa HC
  cases hcx : Tr.ok xs with
  | false =>
    have f0 : ((M.length : Int) == 0) = true := by rw [HMB.out, Bm.best_no (by unfold DOk; rw [hcx]; rfl)]; rfl
    go_wp2_with fail
    refine (specTreeOk_any _ _ _ xs _ HN0.out hs0).mono ?_
    rintro e wx ⟨rfl, hdr⟩
    have hbb := hdr.toBelow (B := wb.heap.size)
    clear hdr
    have HN0 := Lib.hid (HN0.out.to_below hbb)
    have HN1 := Lib.hid (HN1.out.to_below hbb)
    have HK := Lib.hid (HK.out.to_below hbb)
    have HMM := Lib.hid (own_below HMM.out hbb)
    have HQ := Lib.hid (HQ.out.below hbb HBX.out)
    have HBX := Lib.hid (Nat.lt_of_lt_of_le HBX.out hbb.size)
    have HW := Lib.hid (HW.out.trans (hbb.mono HW.out.size))
    clear hbb
    rw [hcx]
    go_wp2
    go_ret
    exact ⟨rfl, HW.out⟩
  | true =>
    cases hcy : Tr.ok ys with
    | false =>
      have f0 : ((M.length : Int) == 0) = true := by rw [HMB.out, Bm.best_no (by unfold DOk; rw [hcx, hcy]; rfl)]; rfl
      go_wp2_with fail
      refine (specTreeOk_any _ _ _ xs _ HN0.out hs0).mono ?_
      rintro e wx ⟨rfl, hdr⟩
      have hbb := hdr.toBelow (B := wb.heap.size)
      clear hdr
      have HN0 := Lib.hid (HN0.out.to_below hbb)
      have HN1 := Lib.hid (HN1.out.to_below hbb)
      have HK := Lib.hid (HK.out.to_below hbb)
      have HMM := Lib.hid (own_below HMM.out hbb)
      have HQ := Lib.hid (HQ.out.below hbb HBX.out)
      have HBX := Lib.hid (Nat.lt_of_lt_of_le HBX.out hbb.size)
      have HW := Lib.hid (HW.out.trans (hbb.mono HW.out.size))
      clear hbb
      rw [hcx]
      go_wp2_with fail
      refine (specTreeOk_any _ _ _ ys _ HN1.out hs1).mono ?_
      rintro e wy ⟨rfl, hdr⟩
      have hbb := hdr.toBelow (B := wx.heap.size)
      clear hdr
      have HN0 := Lib.hid (HN0.out.to_below hbb)
      have HN1 := Lib.hid (HN1.out.to_below hbb)
      have HK := Lib.hid (HK.out.to_below hbb)
      have HMM := Lib.hid (own_below HMM.out hbb)
      have HQ := Lib.hid (HQ.out.below hbb HBX.out)
      have HBX := Lib.hid (Nat.lt_of_lt_of_le HBX.out hbb.size)
      have HW := Lib.hid (HW.out.trans (hbb.mono HW.out.size))
      clear hbb
      rw [hcy]
      go_wp2
      go_ret
      exact ⟨rfl, HW.out⟩
    | true =>
      cases hcok : Co.ok K with
      | false =>
        have f0 : ((M.length : Int) == 0) = true := by rw [HMB.out, Bm.best_no (by unfold DOk; rw [hcx, hcy, hcok]; rfl)]; rfl
        go_wp2_with fail
        refine (specTreeOk_any _ _ _ xs _ HN0.out hs0).mono ?_
        rintro e wx ⟨rfl, hdr⟩
        have hbb := hdr.toBelow (B := wb.heap.size)
        clear hdr
        have HN0 := Lib.hid (HN0.out.to_below hbb)
        have HN1 := Lib.hid (HN1.out.to_below hbb)
        have HK := Lib.hid (HK.out.to_below hbb)
        have HMM := Lib.hid (own_below HMM.out hbb)
        have HQ := Lib.hid (HQ.out.below hbb HBX.out)
        have HBX := Lib.hid (Nat.lt_of_lt_of_le HBX.out hbb.size)
        have HW := Lib.hid (HW.out.trans (hbb.mono HW.out.size))
        clear hbb
        rw [hcx]
        go_wp2_with fail
        refine (specTreeOk_any _ _ _ ys _ HN1.out hs1).mono ?_
        rintro e wy ⟨rfl, hdr⟩
        have hbb := hdr.toBelow (B := wx.heap.size)
        clear hdr
        have HN0 := Lib.hid (HN0.out.to_below hbb)
        have HN1 := Lib.hid (HN1.out.to_below hbb)
        have HK := Lib.hid (HK.out.to_below hbb)
        have HMM := Lib.hid (own_below HMM.out hbb)
        have HQ := Lib.hid (HQ.out.below hbb HBX.out)
        have HBX := Lib.hid (Nat.lt_of_lt_of_le HBX.out hbb.size)
        have HW := Lib.hid (HW.out.trans (hbb.mono HW.out.size))
        clear hbb
        rw [hcy]
        obtain ⟨r0, r1, r2⟩ := HQ.out
        go_wp2_with fail
        clear r0 r1 r2
        refine (specCostOk_any _ _ _ _ _ _ _ _ _ K _ HK.out (by decide) hN1 (by decide)).mono ?_
        rintro e wk ⟨rfl, hbb⟩
        have HN0 := Lib.hid (HN0.out.to_below hbb)
        have HN1 := Lib.hid (HN1.out.to_below hbb)
        have HK := Lib.hid (HK.out.to_below hbb)
        have HMM := Lib.hid (own_below HMM.out hbb)
        have HQ := Lib.hid (HQ.out.below hbb HBX.out)
        have HBX := Lib.hid (Nat.lt_of_lt_of_le HBX.out hbb.size)
        have HW := Lib.hid (HW.out.trans (hbb.mono HW.out.size))
        clear hbb
        rw [hcok]
        go_wp2
        go_ret
        exact ⟨rfl, HW.out⟩
      | true =>
        have HMY := (Bm.best_yes (xs := xs) (ys := ys) (k := K) (by unfold DOk; rw [hcx, hcy, hcok]; rfl))
        rw [HMY] at HMB
        obtain ⟨R, hR⟩ : ∃ x, x = Tr.rootDist xs ys K := ⟨_, rfl⟩
        have HRR := Lib.hid hR.symm
        have FOK := Lib.hid (show Mp.ok xs ys M = true by rw [HMB.out]; exact Bm.best_ok hcx hcy)
        have FRT := Lib.hid (show Tr.rooted M = true by rw [HMB.out]; exact Bm.best_rooted hcx hcy)
        have FCO := Lib.hid (show Mp.cost xs ys K M = R by rw [HMB.out, hR]; exact Bm.best_cost hcx hcy hcok)
        obtain ⟨U, hU⟩ : ∃ x, x = Un.to M xs.length := ⟨_, rfl⟩
        obtain ⟨V, hV⟩ : ∃ x, x = Un.to (Tr.turn M) ys.length := ⟨_, rfl⟩
        have FU := Lib.hid (show U.length + M.length = xs.length by rw [hU, HMB.out]; exact (Bm.best_counts hcx hcy).1)
        have FV := Lib.hid (show V.length + M.length = ys.length by rw [hV, HMB.out]; exact (Bm.best_counts hcx hcy).2)
        have FU1 := Lib.hid (Tr.len24 hcx)
        have FV1 := Lib.hid (Tr.len24 hcy)
        have HMB := Lib.hid (show M = Bm.best xs ys K by rw [HMY]; exact HMB.out)
        have CU := Lib.hid (fun (wq : World) (h1 : NdIn wq wq.heap.size A n xs) (h2 : NdIn wq wq.heap.size Am M.length M) => implUnmapped_any A Am n M.length cp cm xs M wq h1 h2 hs0 (by have := ML.out; omega))
        have CV := Lib.hid (fun (wq : World) (h1 : NdIn wq wq.heap.size A' n' ys) (h2 : NdIn wq wq.heap.size Am M.length M) => implMissing_any A' Am n' M.length cp' cm ys M wq h1 h2 hs1 (by have := ML.out; omega))
        rw [← hU] at CU
        rw [← hV] at CV
        clear hR hU hV HMY
        go_wp2_with fail
        refine (specTreeOk_any _ _ _ xs _ HN0.out hs0).mono ?_
        rintro e wx ⟨rfl, hdr⟩
        have hbb := hdr.toBelow (B := wb.heap.size)
        clear hdr
        have HN0 := Lib.hid (HN0.out.to_below hbb)
        have HN1 := Lib.hid (HN1.out.to_below hbb)
        have HK := Lib.hid (HK.out.to_below hbb)
        have HMM := Lib.hid (own_below HMM.out hbb)
        have HQ := Lib.hid (HQ.out.below hbb HBX.out)
        have HBX := Lib.hid (Nat.lt_of_lt_of_le HBX.out hbb.size)
        have HW := Lib.hid (HW.out.trans (hbb.mono HW.out.size))
        clear hbb
        rw [hcx]
        go_wp2_with fail
        refine (specTreeOk_any _ _ _ ys _ HN1.out hs1).mono ?_
        rintro e wy ⟨rfl, hdr⟩
        have hbb := hdr.toBelow (B := wx.heap.size)
        clear hdr
        have HN0 := Lib.hid (HN0.out.to_below hbb)
        have HN1 := Lib.hid (HN1.out.to_below hbb)
        have HK := Lib.hid (HK.out.to_below hbb)
        have HMM := Lib.hid (own_below HMM.out hbb)
        have HQ := Lib.hid (HQ.out.below hbb HBX.out)
        have HBX := Lib.hid (Nat.lt_of_lt_of_le HBX.out hbb.size)
        have HW := Lib.hid (HW.out.trans (hbb.mono HW.out.size))
        clear hbb
        rw [hcy]
        obtain ⟨r0, r1, r2⟩ := HQ.out
        go_wp2_with fail
        clear r0 r1 r2
        refine (specCostOk_any _ _ _ _ _ _ _ _ _ K _ HK.out (by decide) hN1 (by decide)).mono ?_
        rintro e wk ⟨rfl, hbb⟩
        have HN0 := Lib.hid (HN0.out.to_below hbb)
        have HN1 := Lib.hid (HN1.out.to_below hbb)
        have HK := Lib.hid (HK.out.to_below hbb)
        have HMM := Lib.hid (own_below HMM.out hbb)
        have HQ := Lib.hid (HQ.out.below hbb HBX.out)
        have HBX := Lib.hid (Nat.lt_of_lt_of_le HBX.out hbb.size)
        have HW := Lib.hid (HW.out.trans (hbb.mono HW.out.size))
        clear hbb
        rw [hcok]
        go_wp2_with fail
        refine (CU.out _ HN0.out (NdIn.of_own HMM.out)).mono ?_
        rintro e wc ⟨Au, cu, rfl, _, hbb⟩
        have HN0 := Lib.hid (HN0.out.to_below hbb)
        have HN1 := Lib.hid (HN1.out.to_below hbb)
        have HK := Lib.hid (HK.out.to_below hbb)
        have HMM := Lib.hid (own_below HMM.out hbb)
        have HQ := Lib.hid (HQ.out.below hbb HBX.out)
        have HBX := Lib.hid (Nat.lt_of_lt_of_le HBX.out hbb.size)
        have HW := Lib.hid (HW.out.trans (hbb.mono HW.out.size))
        clear hbb
        go_wp2_with fail
        refine (CV.out _ HN1.out (NdIn.of_own HMM.out)).mono ?_
        rintro e we ⟨Av, cv, rfl, _, hbb⟩
        have HN0 := Lib.hid (HN0.out.to_below hbb)
        have HN1 := Lib.hid (HN1.out.to_below hbb)
        have HK := Lib.hid (HK.out.to_below hbb)
        have HMM := Lib.hid (own_below HMM.out hbb)
        have HQ := Lib.hid (HQ.out.below hbb HBX.out)
        have HBX := Lib.hid (Nat.lt_of_lt_of_le HBX.out hbb.size)
        have HW := Lib.hid (HW.out.trans (hbb.mono HW.out.size))
        clear hbb
        clear CU CV
        have C1 := Lib.hid (fun (wq : World) (hq : Below we.heap.size we wq) => show Calls Try.prog 38 #[.slice A n cp, .slice A' n' cp', .slice Am M.length cm] wq fun e w' => e = .returned (.bool true) ∧ Drawn wq w' from by
          rw [← FOK.out]
          exact specMapOk_any _ _ _ _ _ _ _ _ _ xs ys M _ (HN0.out.to_below hq) (HN1.out.to_below hq) (NdIn.of_own (own_below HMM.out hq)) hs0 hs1 (by have := ML.out; omega)
        )
        have C2 := Lib.hid (fun (wq : World) (hq : Below we.heap.size we wq) => show Calls Try.prog 39 #[.slice A n cp, .slice A' n' cp', .slice Am M.length cm] wq fun e w' => e = .returned (.bool true) ∧ Below wq.heap.size wq w' from by
          rw [← FOK.out]
          exact implMapOk_any _ _ _ _ _ _ _ _ _ xs ys M _ (HN0.out.to_below hq) (HN1.out.to_below hq) (NdIn.of_own (own_below HMM.out hq)) hs0 hs1 (by have := ML.out; omega) hcp hcp' (own_cap HMM.out)
        )
        have C3 := Lib.hid (fun (wq : World) (hq : Below we.heap.size we wq) => show Calls Try.prog 40 #[.slice Am M.length cm] wq fun e w' => e = .returned (.bool true) ∧ Drawn wq w' from by
          rw [← FRT.out]
          exact implRootsPaired_any _ _ _ M _ (NdIn.of_own (own_below HMM.out hq)) (by have := ML.out; omega)
        )
        have C4 := Lib.hid (fun (wq : World) (hq : Below we.heap.size we wq) => show Calls Try.prog 41 #[.slice A n cp, .slice A' n' cp', .agg #[.slice (some ⟨h0, 0, none⟩) 6 c0, .slice A1 n1 q1, .slice (some ⟨h2, 0, none⟩) 36 c2], .slice Am M.length cm] wq fun e w' => e = .returned (.int .i64 R) ∧ Below wq.heap.size wq w' from by
          rw [← FCO.out]
          exact implMapCost_any (c := _) (c' := _) (c'' := _) (c0 := _) (c1 := _) (c2 := _) (ha := HN0.out.to_below hq) (hb := HN1.out.to_below hq) (hk := HK.out.to_below hq) (hm := (NdIn.of_own (own_below HMM.out hq))) (hn := hs0) (hn' := hs1) (hn'' := by have := ML.out; omega) (h0 := by decide) (h1 := hN1) (h2 := by decide) (hc := hcp) (hc' := hcp') (hc'' := own_cap HMM.out)
        )
        have C5 := Lib.hid (fun (wq : World) (hq : Below we.heap.size we wq) => show Calls Try.prog 18 #[.slice A n cp, .slice A' n' cp', .agg #[.slice (some ⟨h0, 0, none⟩) 6 c0, .slice A1 n1 q1, .slice (some ⟨h2, 0, none⟩) 36 c2]] wq fun e w' => e = .returned (.int .i64 R) ∧ Below wq.heap.size wq w' from by
          rw [← HRR.out]
          exact specRootDist_any (c := _) (c' := _) (c0 := _) (c1 := _) (c2 := _) (ha := HN0.out.to_below hq) (hb := HN1.out.to_below hq) (hk := HK.out.to_below hq) (hn := hs0) (hn' := hs1) (h0 := by decide) (h1 := hN1) (h2 := by decide)
        )
        have C6 := Lib.hid (fun (wq : World) (hq : Below we.heap.size we wq) => show Calls Try.prog 43 #[.slice A n cp, .slice A' n' cp', .agg #[.slice (some ⟨h0, 0, none⟩) 6 c0, .slice A1 n1 q1, .slice (some ⟨h2, 0, none⟩) 36 c2]] wq (OwnNodes 55 M wq) from by
          rw [HMB.out]
          exact specBestMap_any (c := _) (c' := _) (c0 := _) (c1 := _) (c2 := _) (ha := HN0.out.to_below hq) (hb := HN1.out.to_below hq) (hk := HK.out.to_below hq) (hn := hs0) (hn' := hs1) (h0 := by decide) (h1 := hN1) (h2 := by decide))
        have f1 : (R == R) = true := by simp
        have f2 : IntKind.i64.wrap ((U.length : Int) + (M.length : Int)) = (n : Int) := by have := FU.out; have := FU1.out; have := L0.out; rw [Kit.w64 (by omega) (by omega)]; omega
        have f3 : IntKind.i64.wrap ((V.length : Int) + (M.length : Int)) = (n' : Int) := by have := FV.out; have := FV1.out; have := L1.out; rw [Kit.w64 (by omega) (by omega)]; omega
        have f4 : ((n : Int) == (n : Int)) = true := by simp
        have f5 : ((n' : Int) == (n' : Int)) = true := by simp
        have S0 := Lib.hid (show (we.drew.cell? ⟨w1.heap.size, 0, none⟩ = some (.slice (some ⟨h0, 0, none⟩) 6 c0) ∧ we.drew.cell? ⟨w1.heap.size, 1, none⟩ = some (.slice A1 n1 q1) ∧ we.drew.cell? ⟨w1.heap.size, 2, none⟩ = some (.slice (some ⟨h2, 0, none⟩) 36 c2) ∧ BelA we we.drew) from ⟨HQ.out.1, HQ.out.2.1, HQ.out.2.2, (Drawn.refl _).drew.toBelow⟩)
        go_wp2_with fail
        go_region_held3 (fun wq => wq.cell? ⟨w1.heap.size, 0, none⟩ = some (.slice (some ⟨h0, 0, none⟩) 6 c0) ∧ wq.cell? ⟨w1.heap.size, 1, none⟩ = some (.slice A1 n1 q1) ∧ wq.cell? ⟨w1.heap.size, 2, none⟩ = some (.slice (some ⟨h2, 0, none⟩) 36 c2) ∧ BelA we wq) (first | (with_reducible exact SC) | (with_reducible exact S0.out)) (first | ((go_at_call 38; with_reducible refine (C1.out _ (bx_below (by assumption))).mono ?_); rintro e w5 ⟨rfl, hb5⟩; have SC := bx_drawn (by assumption) hb5) | ((go_at_call 39; with_reducible refine (C2.out _ (bx_below (by assumption))).mono ?_); rintro e w5 ⟨rfl, hb5⟩; have SC := bx_keep (by assumption) hb5) | ((go_at_call 40; with_reducible refine (C3.out _ (bx_below (by assumption))).mono ?_); rintro e w5 ⟨rfl, hb5⟩; have SC := bx_drawn (by assumption) hb5) | ((go_at_call 41; with_reducible refine (C4.out _ (bx_below (by assumption))).mono ?_); rintro e w5 ⟨rfl, hb5⟩; have SC := bx_keep (by assumption) hb5) | ((go_at_call 18; with_reducible refine (C5.out _ (bx_below (by assumption))).mono ?_); rintro e w5 ⟨rfl, hb5⟩; have SC := bx_keep (by assumption) hb5) | ((go_at_call 43; with_reducible refine (C6.out _ (bx_below (by assumption))).mono ?_); rintro e w5 ⟨Ab, cb, rfl, hob, hb5⟩; have SC := bx_keep (by assumption) hb5; have OB := Lib.hid hob; clear hob) | ((go_at_call 42; refine (specSameMap_any _ _ _ _ _ _ M M _ (NdIn.of_own (own_below HMM.out (bx_below (by assumption)))) (by have := ML.out; omega) (NdIn.of_own OB.out) (by have := ML.out; omega)).mono ?_); rintro e w5 ⟨rfl, hb5⟩; have SC := bx_drawn (by assumption) hb5))
        have HE := Lib.hid (HW.out.trans ((bx_below SC).mono HW.out.size))
        go_wp2
        go_ret
        exact ⟨rfl, HE.out⟩

end Go.Proofs.Ytlndaflhlkbedaa

/- Contracts (ExBst). -/
namespace Go.Proofs.Ytlndaflhlkbedaa
open Go.RowKit
set_option linter.unusedVariables false

set_option maxHeartbeats 400000 in
theorem fnBest_walk (a : Option Addr) (n cap : Nat) (zs : List Int) (w : World) (hz : Kit.BytesIn w a n cap zs) :
    Calls Try.prog 6 #[.slice a n cap] w fun e w' => e = .returned (.bool true) ∧ Below w.heap.size w w' := by
  by_cases hb : (1048576 : Int) < n
  · clear hz
    go_enter Try.func6, Try.ntmps6
    go_wp2_with fail
    refine (big_big _ _ _ hb _).mono ?_
    rintro e w0 ⟨rfl, rfl⟩
    go_wp2
    go_ret
    exact ⟨rfl, Below.refl _ _⟩
  · obtain ⟨hl, hcode⟩ := code_of hz
    have h := best_any ⟨a, zs.take n, cap⟩ w hcode (by simp only; omega)
    simp only [hl] at h
    exact h

end Go.Proofs.Ytlndaflhlkbedaa
