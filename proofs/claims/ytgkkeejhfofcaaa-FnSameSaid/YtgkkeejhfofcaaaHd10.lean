/- Texts of one claim laid into one file, in build order: FitI. -/
import Derived.Test.YtgkkeejhfofcaaaHd9
import Derived.Deep.RegionHeld3
import Derived.Outline
import Derived.Test.YtgkkeejhfofcaaaRows
/- Contracts (FitI). -/
namespace Go.Proofs.Ytgkkeejhfofcaaa
open Go.RowKit
set_option linter.unusedVariables false

set_option maxHeartbeats 3200000 in
set_option maxRecDepth 100000 in
theorem pairFits_any (A A' A'' : Option Addr) (n n' n'' c c' c'' : Nat) (xs ys ms : Tr) (a b : Int) (w : World) (h : NdIn w w.heap.size A n xs) (h' : NdIn w w.heap.size A' n' ys) (h'' : NdIn w w.heap.size A'' n'' ms) (hn : n ≤ 1048576) (hn' : n' ≤ 1048576) (hn'' : n'' ≤ 1048576) (hc : n ≤ c) (hc' : n' ≤ c') :
    Calls Try.prog 118 #[.slice A n c, .slice A' n' c', .slice A'' n'' c'', .agg #[.int .i64 a, .int .i64 b]] w fun e w' => e = .returned (.bool (Mp.after xs ys ms n'' a b)) ∧ Below w.heap.size w w' := by
  have H := Lib.hid h
  have H' := Lib.hid h'
  have H2 := Lib.hid h''
  clear h h' h''
  have HL := Lib.hid H2.out.1
  obtain ⟨w1, hw1⟩ : ∃ w1, w1 = w.alloc (.cells #[.int .i64 a, .int .i64 b] 124) := ⟨_, rfl⟩
  have B1 := Lib.hid (show Below w.heap.size w w1 by rw [hw1]; exact (Below.refl _ _).alloc (Nat.le_refl _) _)
  have P1 := Lib.hid (show Bx2 w1 w.heap.size a b by rw [hw1]; exact Bx2.made _ _ _ _)
  have W1 := Lib.hid hw1
  clear hw1
  go_enter Try.func118, Try.ntmps118
  go_wp2
  rw [← W1.out]
  go_loopw [13] (fun iv wr => ∃ k : Nat, k ≤ n'' ∧ iv = .int .i64 k ∧ (∀ q, q < k → Mp.at xs ys ms a b q = true) ∧ Below w.heap.size w wr ∧ Bx2 wr w.heap.size a b) (fun i _ => n'' - (intOf i).toNat)
  case atStart => exact ⟨0, by omega, rfl, fun q hq => absurd hq (by omega), B1.out, P1.out⟩
  case round =>
    obtain ⟨k, hk, rfl, hgood, hB, hP⟩ := hrel
    have HG := Lib.hid hgood
    clear hgood
    by_cases hlt : k < n''
    · obtain ⟨ad, rfl, hb, hl, hd⟩ := (H2.out.below hB).at_ (k := k) hlt
      have hk0 : (0 : Int) ≤ (k : Int) := by omega
      have hklt : (k : Int) < (n'' : Int) := by omega
      obtain ⟨wz, hwz⟩ : ∃ wz, wz = wr.alloc (.cells #[.int .i64 (Tr.l ms k), .int .i64 (Tr.d ms k)] 124) := ⟨_, rfl⟩
      have BZ := Lib.hid (show Below wr.heap.size wr wz by rw [hwz]; exact (Below.refl _ _).alloc (Nat.le_refl _) _)
      have HQ := Lib.hid (show Bx2 wz wr.heap.size (Tr.l ms k) (Tr.d ms k) by rw [hwz]; exact Bx2.made _ _ _ _)
      have HP := Lib.hid (hP.below BZ.out hP.lt)
      have HB := Lib.hid (hB.trans (BZ.out.mono hB.size))
      have HZ := Lib.hid hwz
      have HS := Lib.hid (show w.heap.size ≤ wz.heap.size from HB.out.size)
      clear hwz hP hB
      by_cases hla : Tr.l ms k < a
      · have g1 : decide (a ≤ Tr.l ms k) = false := decide_eq_false (by omega)
        by_cases hdb : Tr.d ms k < b
        · have g2 : decide (b ≤ Tr.d ms k) = false := decide_eq_false (by omega)
          obtain ⟨u1, hu1⟩ : ∃ u, u = Tr.under xs (Tr.l ms k) a := ⟨_, rfl⟩
          obtain ⟨u2, hu2⟩ : ∃ u, u = Tr.under ys (Tr.d ms k) b := ⟨_, rfl⟩
          have QU := Lib.hid (fun (wq : World) (hq : Below wz.heap.size wz wq) => show Calls Try.prog 155 #[.slice A n c, .int .i64 (Tr.l ms k), .int .i64 a] wq fun e w' => e = .returned (.bool u1) ∧ Below wq.heap.size wq w' from by rw [hu1]; exact implUnder_any _ _ _ xs _ _ _ (H.out.to_below (HB.out.trans (hq.mono HS.out))) hn hc)
          have QV := Lib.hid (fun (wq : World) (hq : Below wz.heap.size wz wq) => show Calls Try.prog 155 #[.slice A' n' c', .int .i64 (Tr.d ms k), .int .i64 b] wq fun e w' => e = .returned (.bool u2) ∧ Below wq.heap.size wq w' from by rw [hu2]; exact implUnder_any _ _ _ ys _ _ _ (H'.out.to_below (HB.out.trans (hq.mono HS.out))) hn' hc')
          have HU1 := Lib.hid hu1
          have HU2 := Lib.hid hu2
          clear hu1 hu2
          cases u1 with
          | false =>
            cases u2 with
            | false =>
              have HA := Lib.hid (Mp.at_yes hla hdb (by rw [← HU1.out, ← HU2.out]) : Mp.at xs ys ms a b k = true)
              as_aux_lemma =>
                go_wp2_with fail
                rw [← HZ.out]
                have S0 := Lib.hid (show (wz.drew.cell? ⟨wr.heap.size, 0, none⟩ = some (.int .i64 (Tr.l ms k)) ∧ wz.drew.cell? ⟨wr.heap.size, 1, none⟩ = some (.int .i64 (Tr.d ms k)) ∧ wz.drew.cell? ⟨w.heap.size, 0, none⟩ = some (.int .i64 (a)) ∧ wz.drew.cell? ⟨w.heap.size, 1, none⟩ = some (.int .i64 (b))) ∧ BelA wz wz.drew from ⟨⟨HQ.out.1, HQ.out.2, HP.out.1, HP.out.2⟩, (Drawn.refl _).drew.toBelow⟩)
                go_region_held3 (fun wq => (wq.cell? ⟨wr.heap.size, 0, none⟩ = some (.int .i64 (Tr.l ms k)) ∧ wq.cell? ⟨wr.heap.size, 1, none⟩ = some (.int .i64 (Tr.d ms k)) ∧ wq.cell? ⟨w.heap.size, 0, none⟩ = some (.int .i64 (a)) ∧ wq.cell? ⟨w.heap.size, 1, none⟩ = some (.int .i64 (b))) ∧ BelA wz wq) (first | (with_reducible exact SC) | (with_reducible exact S0.out)) (first | ((go_at_call 155; with_reducible refine (QU.out _ (px_below (by assumption))).mono ?_); rintro e w5 ⟨rfl, hb5⟩; have SC := px_keep (by assumption) hb5) | ((go_at_call 155; with_reducible refine (QV.out _ (px_below (by assumption))).mono ?_); rintro e w6 ⟨rfl, hb5⟩; have SC := px_keep (by assumption) hb5))
                have HE := Lib.hid (HB.out.trans ((px_below SC).mono HB.out.size))
                obtain ⟨⟨_, _, p0, p1⟩, _⟩ := id SC
                have HP := Lib.hid (show Bx2 w6 w.heap.size a b from ⟨p0, p1⟩)
                clear p0 p1
                go_wp2
                go_roundw
                case rel => exact ⟨k + 1, by omega, by go_num, fun q hq => by
                  rcases Nat.lt_succ_iff_lt_or_eq.1 hq with h' | rfl
                  · exact HG.out q h'
                  · exact HA.out, HE.out, HP.out⟩
                case measure => simp [intOf]; omega
            | true =>
              have hf := Lib.hid (Mp.after_no hlt (Mp.at_u (by rw [← HU1.out, ← HU2.out]; decide)) : Mp.after xs ys ms n'' a b = false)
              as_aux_lemma =>
                go_wp2_with fail
                rw [← HZ.out]
                have S0 := Lib.hid (show (wz.drew.cell? ⟨wr.heap.size, 0, none⟩ = some (.int .i64 (Tr.l ms k)) ∧ wz.drew.cell? ⟨wr.heap.size, 1, none⟩ = some (.int .i64 (Tr.d ms k)) ∧ wz.drew.cell? ⟨w.heap.size, 0, none⟩ = some (.int .i64 (a)) ∧ wz.drew.cell? ⟨w.heap.size, 1, none⟩ = some (.int .i64 (b))) ∧ BelA wz wz.drew from ⟨⟨HQ.out.1, HQ.out.2, HP.out.1, HP.out.2⟩, (Drawn.refl _).drew.toBelow⟩)
                go_region_held3 (fun wq => (wq.cell? ⟨wr.heap.size, 0, none⟩ = some (.int .i64 (Tr.l ms k)) ∧ wq.cell? ⟨wr.heap.size, 1, none⟩ = some (.int .i64 (Tr.d ms k)) ∧ wq.cell? ⟨w.heap.size, 0, none⟩ = some (.int .i64 (a)) ∧ wq.cell? ⟨w.heap.size, 1, none⟩ = some (.int .i64 (b))) ∧ BelA wz wq) (first | (with_reducible exact SC) | (with_reducible exact S0.out)) (first | ((go_at_call 155; with_reducible refine (QU.out _ (px_below (by assumption))).mono ?_); rintro e w5 ⟨rfl, hb5⟩; have SC := px_keep (by assumption) hb5) | ((go_at_call 155; with_reducible refine (QV.out _ (px_below (by assumption))).mono ?_); rintro e w6 ⟨rfl, hb5⟩; have SC := px_keep (by assumption) hb5))
                have HE := Lib.hid (HB.out.trans ((px_below SC).mono HB.out.size))
                obtain ⟨⟨_, _, p0, p1⟩, _⟩ := id SC
                go_wp2
                go_ret
                exact ⟨Kit.ret_bool hf.out.symm, HE.out⟩
          | true =>
            cases u2 with
            | false =>
              have hf := Lib.hid (Mp.after_no hlt (Mp.at_u (by rw [← HU1.out, ← HU2.out]; decide)) : Mp.after xs ys ms n'' a b = false)
              as_aux_lemma =>
                go_wp2_with fail
                rw [← HZ.out]
                have S0 := Lib.hid (show (wz.drew.cell? ⟨wr.heap.size, 0, none⟩ = some (.int .i64 (Tr.l ms k)) ∧ wz.drew.cell? ⟨wr.heap.size, 1, none⟩ = some (.int .i64 (Tr.d ms k)) ∧ wz.drew.cell? ⟨w.heap.size, 0, none⟩ = some (.int .i64 (a)) ∧ wz.drew.cell? ⟨w.heap.size, 1, none⟩ = some (.int .i64 (b))) ∧ BelA wz wz.drew from ⟨⟨HQ.out.1, HQ.out.2, HP.out.1, HP.out.2⟩, (Drawn.refl _).drew.toBelow⟩)
                go_region_held3 (fun wq => (wq.cell? ⟨wr.heap.size, 0, none⟩ = some (.int .i64 (Tr.l ms k)) ∧ wq.cell? ⟨wr.heap.size, 1, none⟩ = some (.int .i64 (Tr.d ms k)) ∧ wq.cell? ⟨w.heap.size, 0, none⟩ = some (.int .i64 (a)) ∧ wq.cell? ⟨w.heap.size, 1, none⟩ = some (.int .i64 (b))) ∧ BelA wz wq) (first | (with_reducible exact SC) | (with_reducible exact S0.out)) (first | ((go_at_call 155; with_reducible refine (QU.out _ (px_below (by assumption))).mono ?_); rintro e w5 ⟨rfl, hb5⟩; have SC := px_keep (by assumption) hb5) | ((go_at_call 155; with_reducible refine (QV.out _ (px_below (by assumption))).mono ?_); rintro e w6 ⟨rfl, hb5⟩; have SC := px_keep (by assumption) hb5))
                have HE := Lib.hid (HB.out.trans ((px_below SC).mono HB.out.size))
                obtain ⟨⟨_, _, p0, p1⟩, _⟩ := id SC
                go_wp2
                go_ret
                exact ⟨Kit.ret_bool hf.out.symm, HE.out⟩
            | true =>
              have HA := Lib.hid (Mp.at_yes hla hdb (by rw [← HU1.out, ← HU2.out]) : Mp.at xs ys ms a b k = true)
              as_aux_lemma =>
                go_wp2_with fail
                rw [← HZ.out]
                have S0 := Lib.hid (show (wz.drew.cell? ⟨wr.heap.size, 0, none⟩ = some (.int .i64 (Tr.l ms k)) ∧ wz.drew.cell? ⟨wr.heap.size, 1, none⟩ = some (.int .i64 (Tr.d ms k)) ∧ wz.drew.cell? ⟨w.heap.size, 0, none⟩ = some (.int .i64 (a)) ∧ wz.drew.cell? ⟨w.heap.size, 1, none⟩ = some (.int .i64 (b))) ∧ BelA wz wz.drew from ⟨⟨HQ.out.1, HQ.out.2, HP.out.1, HP.out.2⟩, (Drawn.refl _).drew.toBelow⟩)
                go_region_held3 (fun wq => (wq.cell? ⟨wr.heap.size, 0, none⟩ = some (.int .i64 (Tr.l ms k)) ∧ wq.cell? ⟨wr.heap.size, 1, none⟩ = some (.int .i64 (Tr.d ms k)) ∧ wq.cell? ⟨w.heap.size, 0, none⟩ = some (.int .i64 (a)) ∧ wq.cell? ⟨w.heap.size, 1, none⟩ = some (.int .i64 (b))) ∧ BelA wz wq) (first | (with_reducible exact SC) | (with_reducible exact S0.out)) (first | ((go_at_call 155; with_reducible refine (QU.out _ (px_below (by assumption))).mono ?_); rintro e w5 ⟨rfl, hb5⟩; have SC := px_keep (by assumption) hb5) | ((go_at_call 155; with_reducible refine (QV.out _ (px_below (by assumption))).mono ?_); rintro e w6 ⟨rfl, hb5⟩; have SC := px_keep (by assumption) hb5))
                have HE := Lib.hid (HB.out.trans ((px_below SC).mono HB.out.size))
                obtain ⟨⟨_, _, p0, p1⟩, _⟩ := id SC
                have HP := Lib.hid (show Bx2 w6 w.heap.size a b from ⟨p0, p1⟩)
                clear p0 p1
                go_wp2
                go_roundw
                case rel => exact ⟨k + 1, by omega, by go_num, fun q hq => by
                  rcases Nat.lt_succ_iff_lt_or_eq.1 hq with h' | rfl
                  · exact HG.out q h'
                  · exact HA.out, HE.out, HP.out⟩
                case measure => simp [intOf]; omega
        · have g2 : decide (b ≤ Tr.d ms k) = true := decide_eq_true (by omega)
          have hf := Lib.hid (Mp.after_no hlt (Mp.at_d hdb) : Mp.after xs ys ms n'' a b = false)
          as_aux_lemma =>
            go_wp2_with fail
            rw [← HZ.out]
            obtain ⟨q0, q1⟩ := HQ.out
            obtain ⟨p0, p1⟩ := HP.out
            go_quiet (fail)
            go_wp2
            go_ret
            exact ⟨Kit.ret_bool hf.out.symm, below_drawn_b HB.out _⟩
      · have g1 : decide (a ≤ Tr.l ms k) = true := decide_eq_true (by omega)
        have hf := Lib.hid (Mp.after_no hlt (Mp.at_l hla) : Mp.after xs ys ms n'' a b = false)
        as_aux_lemma =>
          go_wp2_with fail
          rw [← HZ.out]
          obtain ⟨q0, q1⟩ := HQ.out
          obtain ⟨p0, p1⟩ := HP.out
          go_quiet (fail)
          go_wp2
          go_ret
          exact ⟨Kit.ret_bool hf.out.symm, below_drawn_b HB.out _⟩
    · obtain rfl : k = n'' := by omega
      have hf := Lib.hid (Mp.after_iff.2 HG.out : Mp.after xs ys ms k a b = true)
      go_wp2
      go_ret
      exact ⟨Kit.ret_bool hf.out.symm, hB⟩

end Go.Proofs.Ytgkkeejhfofcaaa
