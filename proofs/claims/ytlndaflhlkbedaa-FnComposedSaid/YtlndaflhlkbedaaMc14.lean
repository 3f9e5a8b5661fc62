/- Texts of one claim laid into one file, in build order: UndI, FitI, MapI, DelI, InsI, RelI, Fiv, McI. -/
import Derived.Test.YtlndaflhlkbedaaMc13
import Derived.Test.YtlndaflhlkbedaaMc5
import Derived.Test.YtlndaflhlkbedaaMc7
import Derived.Test.YtlndaflhlkbedaaMc9
import Derived.Test.YtlndaflhlkbedaaMg12
import Derived.BigQuiet
import Derived.Deep.RegionHeld3
import Derived.Outline
import Derived.Test.YtlndaflhlkbedaaRows
/- Contracts (UndI). -/
namespace Go.Proofs.Ytlndaflhlkbedaa
open Go.RowKit
set_option linter.unusedVariables false

theorem Tr.under_alt (xs : Tr) (i j : Int) : Tr.under xs i j = (Tr.has xs i && decide (i < j) && decide (j < Tr.endOf xs i)) := by
  unfold Tr.under
  rcases h1 : Tr.has xs i with _ | _
  · rfl
  · rcases h2 : Tr.has xs j with _ | _
    · have hi := Tr.has_iff.1 h1
      obtain ⟨k, rfl⟩ := Int.eq_ofNat_of_zero_le hi.2.1
      have he := (Tr.endN_spec xs k (by omega)).2.1
      rw [Tr.endOf_yes h1]
      by_cases h3 : (k : Int) < j
      · have : ¬ j < (Tr.endN xs k : Nat) := by
          intro h4
          rw [Tr.has_iff.2 ⟨hi.1, by omega, by omega⟩] at h2
          cases h2
        simp [this]
      · simp [h3]
    · simp
set_option maxHeartbeats 1600000 in
set_option maxRecDepth 100000 in
theorem implUnder_any (A : Option Addr) (n c : Nat) (xs : Tr) (i j : Int) (w : World) (h : NdIn w w.heap.size A n xs) (hn : n ≤ 1048576) (hnc : n ≤ c) :
    Calls Try.prog 134 #[.slice A n c, .int .i64 i, .int .i64 j] w fun e w' => e = .returned (.bool (Tr.under xs i j)) ∧ Below w.heap.size w w' := by
  have H := Lib.hid h
  clear h
  have HF := Lib.hid (Tr.under_alt xs i j)
  rcases h1 : Tr.has xs i with _ | _
  · have Hf := Lib.hid (show Tr.under xs i j = false by rw [HF.out, h1]; rfl)
    have Hh := Lib.hid h1
    clear h1
    go_enter Try.func134, Try.ntmps134
    go_wp2_with fail
    refine (hasNode_any _ _ _ xs _ _ H.out hn hnc).mono ?_
    rintro e w1 ⟨rfl, hb⟩
    have HB := Lib.hid hb
    clear hb
    rw [Hh.out]
    go_wp2
    go_ret
    exact ⟨Kit.ret_bool Hf.out.symm, HB.out⟩
  · obtain ⟨E, hE⟩ : ∃ E, E = Tr.endOf xs i := ⟨_, rfl⟩
    have HE := Lib.hid hE
    by_cases h3 : i < j
    · have e3 : decide (i < j) = true := by simpa using h3
      have Hf := Lib.hid (show Tr.under xs i j = decide (j < E) by rw [HF.out, h1, e3, hE]; rfl)
      have Hh := Lib.hid h1
      clear h1 hE h3
      go_enter Try.func134, Try.ntmps134
      go_wp2_with fail
      refine (hasNode_any _ _ _ xs _ _ H.out hn hnc).mono ?_
      rintro e w1 ⟨rfl, hb⟩
      have HB := Lib.hid hb
      have H1 := Lib.hid (H.out.to_below hb)
      clear hb
      rw [Hh.out]
      go_wp2_with fail
      refine (implEndOf_any _ _ _ xs _ _ H1.out hn hnc).mono ?_
      rintro e w2 ⟨rfl, hb⟩
      have HB := Lib.hid (HB.out.trans (hb.mono HB.out.size))
      clear hb
      rw [← HE.out]
      go_wp2
      go_ret
      exact ⟨Kit.ret_bool Hf.out.symm, HB.out⟩
    · have e3 : decide (i < j) = false := by simpa using h3
      have Hf := Lib.hid (show Tr.under xs i j = false by rw [HF.out, h1, e3]; rfl)
      have Hh := Lib.hid h1
      clear h1 hE h3
      go_enter Try.func134, Try.ntmps134
      go_wp2_with fail
      refine (hasNode_any _ _ _ xs _ _ H.out hn hnc).mono ?_
      rintro e w1 ⟨rfl, hb⟩
      have HB := Lib.hid hb
      clear hb
      rw [Hh.out]
      go_wp2
      go_ret
      exact ⟨Kit.ret_bool Hf.out.symm, HB.out⟩

end Go.Proofs.Ytlndaflhlkbedaa

/- Contracts (FitI). -/
namespace Go.Proofs.Ytlndaflhlkbedaa
open Go.RowKit
set_option linter.unusedVariables false

set_option maxHeartbeats 3200000 in
set_option maxRecDepth 100000 in
theorem pairFits_any (A A' A'' : Option Addr) (n n' n'' c c' c'' : Nat) (xs ys ms : Tr) (a b : Int) (w : World) (h : NdIn w w.heap.size A n xs) (h' : NdIn w w.heap.size A' n' ys) (h'' : NdIn w w.heap.size A'' n'' ms) (hn : n ≤ 1048576) (hn' : n' ≤ 1048576) (hn'' : n'' ≤ 1048576) (hc : n ≤ c) (hc' : n' ≤ c') :
    Calls Try.prog 99 #[.slice A n c, .slice A' n' c', .slice A'' n'' c'', .agg #[.int .i64 a, .int .i64 b]] w fun e w' => e = .returned (.bool (Mp.after xs ys ms n'' a b)) ∧ Below w.heap.size w w' := by
  have H := Lib.hid h
  have H' := Lib.hid h'
  have H2 := Lib.hid h''
  clear h h' h''
  have HL := Lib.hid H2.out.1
  obtain ⟨w1, hw1⟩ : ∃ w1, w1 = w.alloc (.cells #[.int .i64 a, .int .i64 b] 55) := ⟨_, rfl⟩
  have B1 := Lib.hid (show Below w.heap.size w w1 by rw [hw1]; exact (Below.refl _ _).alloc (Nat.le_refl _) _)
  have P1 := Lib.hid (show Bx2 w1 w.heap.size a b by rw [hw1]; exact Bx2.made _ _ _ _)
  have W1 := Lib.hid hw1
  clear hw1
  go_enter Try.func99, Try.ntmps99
  go_wp2
  rw [← W1.out]
  go_loopw [13] (fun iv wr => ∃ k : Nat, k ≤ n'' ∧ iv = .int .i64 k ∧ (∀ q, q < k → Mp.at xs ys ms a b q = true) ∧ Below w.heap.size w wr ∧ Bx2 wr w.heap.size a b) (fun i _ => n'' - (intOf i).toNat)
  case atStart => exact ⟨0, by omega, rfl, fun q hq => absurd hq (by omega), B1.out, P1.out⟩
  case round =>
    obtain ⟨k, hk, rfl, hgood, hB, hP⟩ := hrel
    have HG := Lib.hid hgood
    clear hgood
    by_cases hlt : k < n''
    · obtain ⟨ad, rfl, hb, hl, hd⟩ := (H2.out.below hB).at_ (k := k) hlt
      have hk0 : (0 : Int) ≤ (k : Int) := by omega
      have hklt : (k : Int) < (n'' : Int) := by omega
      obtain ⟨wz, hwz⟩ : ∃ wz, wz = wr.alloc (.cells #[.int .i64 (Tr.l ms k), .int .i64 (Tr.d ms k)] 55) := ⟨_, rfl⟩
      have BZ := Lib.hid (show Below wr.heap.size wr wz by rw [hwz]; exact (Below.refl _ _).alloc (Nat.le_refl _) _)
      have HQ := Lib.hid (show Bx2 wz wr.heap.size (Tr.l ms k) (Tr.d ms k) by rw [hwz]; exact Bx2.made _ _ _ _)
      have HP := Lib.hid (hP.below BZ.out hP.lt)
      have HB := Lib.hid (hB.trans (BZ.out.mono hB.size))
      have HZ := Lib.hid hwz
      have HS := Lib.hid (show w.heap.size ≤ wz.heap.size from HB.out.size)
      clear hwz hP hB
      by_cases hla : Tr.l ms k < a
      · have g1 : decide (a ≤ Tr.l ms k) = false := decide_eq_false (by omega)
        by_cases hdb : Tr.d ms k < b
        · have g2 : decide (b ≤ Tr.d ms k) = false := decide_eq_false (by omega)
          obtain ⟨u1, hu1⟩ : ∃ u, u = Tr.under xs (Tr.l ms k) a := ⟨_, rfl⟩
          obtain ⟨u2, hu2⟩ : ∃ u, u = Tr.under ys (Tr.d ms k) b := ⟨_, rfl⟩
          have QU := Lib.hid (fun (wq : World) (hq : Below wz.heap.size wz wq) => show Calls Try.prog 134 #[.slice A n c, .int .i64 (Tr.l ms k), .int .i64 a] wq fun e w' => e = .returned (.bool u1) ∧ Below wq.heap.size wq w' from by rw [hu1]; exact implUnder_any _ _ _ xs _ _ _ (H.out.to_below (HB.out.trans (hq.mono HS.out))) hn hc)
          have QV := Lib.hid (fun (wq : World) (hq : Below wz.heap.size wz wq) => show Calls Try.prog 134 #[.slice A' n' c', .int .i64 (Tr.d ms k), .int .i64 b] wq fun e w' => e = .returned (.bool u2) ∧ Below wq.heap.size wq w' from by rw [hu2]; exact implUnder_any _ _ _ ys _ _ _ (H'.out.to_below (HB.out.trans (hq.mono HS.out))) hn' hc')
          have HU1 := Lib.hid hu1
          have HU2 := Lib.hid hu2
          clear hu1 hu2
          cases u1 with
          | false =>
            cases u2 with
            | false =>
              have HA := Lib.hid (Mp.at_yes hla hdb (by rw [← HU1.out, ← HU2.out]) : Mp.at xs ys ms a b k = true)
              as_aux_lemma =>
                go_wp2_with fail
                rw [← HZ.out]
                have S0 := Lib.hid (show (wz.drew.cell? ⟨wr.heap.size, 0, none⟩ = some (.int .i64 (Tr.l ms k)) ∧ wz.drew.cell? ⟨wr.heap.size, 1, none⟩ = some (.int .i64 (Tr.d ms k)) ∧ wz.drew.cell? ⟨w.heap.size, 0, none⟩ = some (.int .i64 (a)) ∧ wz.drew.cell? ⟨w.heap.size, 1, none⟩ = some (.int .i64 (b))) ∧ BelA wz wz.drew from ⟨⟨HQ.out.1, HQ.out.2, HP.out.1, HP.out.2⟩, (Drawn.refl _).drew.toBelow⟩)
                go_region_held3 (fun wq => (wq.cell? ⟨wr.heap.size, 0, none⟩ = some (.int .i64 (Tr.l ms k)) ∧ wq.cell? ⟨wr.heap.size, 1, none⟩ = some (.int .i64 (Tr.d ms k)) ∧ wq.cell? ⟨w.heap.size, 0, none⟩ = some (.int .i64 (a)) ∧ wq.cell? ⟨w.heap.size, 1, none⟩ = some (.int .i64 (b))) ∧ BelA wz wq) (first | (with_reducible exact SC) | (with_reducible exact S0.out)) (first | ((go_at_call 134; with_reducible refine (QU.out _ (px_below (by assumption))).mono ?_); rintro e w5 ⟨rfl, hb5⟩; have SC := px_keep (by assumption) hb5) | ((go_at_call 134; with_reducible refine (QV.out _ (px_below (by assumption))).mono ?_); rintro e w6 ⟨rfl, hb5⟩; have SC := px_keep (by assumption) hb5))
                have HE := Lib.hid (HB.out.trans ((px_below SC).mono HB.out.size))
                obtain ⟨⟨_, _, p0, p1⟩, _⟩ := id SC
                have HP := Lib.hid (show Bx2 w6 w.heap.size a b from ⟨p0, p1⟩)
                clear p0 p1
                go_wp2
                go_roundw
                case rel => exact ⟨k + 1, by omega, by go_num, fun q hq => by
                  rcases Nat.lt_succ_iff_lt_or_eq.1 hq with h' | rfl
                  · exact HG.out q h'
                  · exact HA.out, HE.out, HP.out⟩
                case measure => simp [intOf]; omega
            | true =>
              have hf := Lib.hid (Mp.after_no hlt (Mp.at_u (by rw [← HU1.out, ← HU2.out]; decide)) : Mp.after xs ys ms n'' a b = false)
              as_aux_lemma =>
                go_wp2_with fail
                rw [← HZ.out]
                have S0 := Lib.hid (show (wz.drew.cell? ⟨wr.heap.size, 0, none⟩ = some (.int .i64 (Tr.l ms k)) ∧ wz.drew.cell? ⟨wr.heap.size, 1, none⟩ = some (.int .i64 (Tr.d ms k)) ∧ wz.drew.cell? ⟨w.heap.size, 0, none⟩ = some (.int .i64 (a)) ∧ wz.drew.cell? ⟨w.heap.size, 1, none⟩ = some (.int .i64 (b))) ∧ BelA wz wz.drew from ⟨⟨HQ.out.1, HQ.out.2, HP.out.1, HP.out.2⟩, (Drawn.refl _).drew.toBelow⟩)
                go_region_held3 (fun wq => (wq.cell? ⟨wr.heap.size, 0, none⟩ = some (.int .i64 (Tr.l ms k)) ∧ wq.cell? ⟨wr.heap.size, 1, none⟩ = some (.int .i64 (Tr.d ms k)) ∧ wq.cell? ⟨w.heap.size, 0, none⟩ = some (.int .i64 (a)) ∧ wq.cell? ⟨w.heap.size, 1, none⟩ = some (.int .i64 (b))) ∧ BelA wz wq) (first | (with_reducible exact SC) | (with_reducible exact S0.out)) (first | ((go_at_call 134; with_reducible refine (QU.out _ (px_below (by assumption))).mono ?_); rintro e w5 ⟨rfl, hb5⟩; have SC := px_keep (by assumption) hb5) | ((go_at_call 134; with_reducible refine (QV.out _ (px_below (by assumption))).mono ?_); rintro e w6 ⟨rfl, hb5⟩; have SC := px_keep (by assumption) hb5))
                have HE := Lib.hid (HB.out.trans ((px_below SC).mono HB.out.size))
                obtain ⟨⟨_, _, p0, p1⟩, _⟩ := id SC
                go_wp2
                go_ret
                exact ⟨Kit.ret_bool hf.out.symm, HE.out⟩
          | true =>
            cases u2 with
            | false =>
              have hf := Lib.hid (Mp.after_no hlt (Mp.at_u (by rw [← HU1.out, ← HU2.out]; decide)) : Mp.after xs ys ms n'' a b = false)
              as_aux_lemma =>
                go_wp2_with fail
                rw [← HZ.out]
                have S0 := Lib.hid (show (wz.drew.cell? ⟨wr.heap.size, 0, none⟩ = some (.int .i64 (Tr.l ms k)) ∧ wz.drew.cell? ⟨wr.heap.size, 1, none⟩ = some (.int .i64 (Tr.d ms k)) ∧ wz.drew.cell? ⟨w.heap.size, 0, none⟩ = some (.int .i64 (a)) ∧ wz.drew.cell? ⟨w.heap.size, 1, none⟩ = some (.int .i64 (b))) ∧ BelA wz wz.drew from ⟨⟨HQ.out.1, HQ.out.2, HP.out.1, HP.out.2⟩, (Drawn.refl _).drew.toBelow⟩)
                go_region_held3 (fun wq => (wq.cell? ⟨wr.heap.size, 0, none⟩ = some (.int .i64 (Tr.l ms k)) ∧ wq.cell? ⟨wr.heap.size, 1, none⟩ = some (.int .i64 (Tr.d ms k)) ∧ wq.cell? ⟨w.heap.size, 0, none⟩ = some (.int .i64 (a)) ∧ wq.cell? ⟨w.heap.size, 1, none⟩ = some (.int .i64 (b))) ∧ BelA wz wq) (first | (with_reducible exact SC) | (with_reducible exact S0.out)) (first | ((go_at_call 134; with_reducible refine (QU.out _ (px_below (by assumption))).mono ?_); rintro e w5 ⟨rfl, hb5⟩; have SC := px_keep (by assumption) hb5) | ((go_at_call 134; with_reducible refine (QV.out _ (px_below (by assumption))).mono ?_); rintro e w6 ⟨rfl, hb5⟩; have SC := px_keep (by assumption) hb5))
                have HE := Lib.hid (HB.out.trans ((px_below SC).mono HB.out.size))
                obtain ⟨⟨_, _, p0, p1⟩, _⟩ := id SC
                go_wp2
                go_ret
                exact ⟨Kit.ret_bool hf.out.symm, HE.out⟩
            | true =>
              have HA := Lib.hid (Mp.at_yes hla hdb (by rw [← HU1.out, ← HU2.out]) : Mp.at xs ys ms a b k = true)
              as_aux_lemma =>
                go_wp2_with fail
                rw [← HZ.out]
                have S0 := Lib.hid (show (wz.drew.cell? ⟨wr.heap.size, 0, none⟩ = some (.int .i64 (Tr.l ms k)) ∧ wz.drew.cell? ⟨wr.heap.size, 1, none⟩ = some (.int .i64 (Tr.d ms k)) ∧ wz.drew.cell? ⟨w.heap.size, 0, none⟩ = some (.int .i64 (a)) ∧ wz.drew.cell? ⟨w.heap.size, 1, none⟩ = some (.int .i64 (b))) ∧ BelA wz wz.drew from ⟨⟨HQ.out.1, HQ.out.2, HP.out.1, HP.out.2⟩, (Drawn.refl _).drew.toBelow⟩)
                go_region_held3 (fun wq => (wq.cell? ⟨wr.heap.size, 0, none⟩ = some (.int .i64 (Tr.l ms k)) ∧ wq.cell? ⟨wr.heap.size, 1, none⟩ = some (.int .i64 (Tr.d ms k)) ∧ wq.cell? ⟨w.heap.size, 0, none⟩ = some (.int .i64 (a)) ∧ wq.cell? ⟨w.heap.size, 1, none⟩ = some (.int .i64 (b))) ∧ BelA wz wq) (first | (with_reducible exact SC) | (with_reducible exact S0.out)) (first | ((go_at_call 134; with_reducible refine (QU.out _ (px_below (by assumption))).mono ?_); rintro e w5 ⟨rfl, hb5⟩; have SC := px_keep (by assumption) hb5) | ((go_at_call 134; with_reducible refine (QV.out _ (px_below (by assumption))).mono ?_); rintro e w6 ⟨rfl, hb5⟩; have SC := px_keep (by assumption) hb5))
                have HE := Lib.hid (HB.out.trans ((px_below SC).mono HB.out.size))
                obtain ⟨⟨_, _, p0, p1⟩, _⟩ := id SC
                have HP := Lib.hid (show Bx2 w6 w.heap.size a b from ⟨p0, p1⟩)
                clear p0 p1
                go_wp2
                go_roundw
                case rel => exact ⟨k + 1, by omega, by go_num, fun q hq => by
                  rcases Nat.lt_succ_iff_lt_or_eq.1 hq with h' | rfl
                  · exact HG.out q h'
                  · exact HA.out, HE.out, HP.out⟩
                case measure => simp [intOf]; omega
        · have g2 : decide (b ≤ Tr.d ms k) = true := decide_eq_true (by omega)
          have hf := Lib.hid (Mp.after_no hlt (Mp.at_d hdb) : Mp.after xs ys ms n'' a b = false)
          as_aux_lemma =>
            go_wp2_with fail
            rw [← HZ.out]
            obtain ⟨q0, q1⟩ := HQ.out
            obtain ⟨p0, p1⟩ := HP.out
            go_quiet (fail)
            go_wp2
            go_ret
            exact ⟨Kit.ret_bool hf.out.symm, below_drawn_b HB.out _⟩
      · have g1 : decide (a ≤ Tr.l ms k) = true := decide_eq_true (by omega)
        have hf := Lib.hid (Mp.after_no hlt (Mp.at_l hla) : Mp.after xs ys ms n'' a b = false)
        as_aux_lemma =>
          go_wp2_with fail
          rw [← HZ.out]
          obtain ⟨q0, q1⟩ := HQ.out
          obtain ⟨p0, p1⟩ := HP.out
          go_quiet (fail)
          go_wp2
          go_ret
          exact ⟨Kit.ret_bool hf.out.symm, below_drawn_b HB.out _⟩
    · obtain rfl : k = n'' := by omega
      have hf := Lib.hid (Mp.after_iff.2 HG.out : Mp.after xs ys ms k a b = true)
      go_wp2
      go_ret
      exact ⟨Kit.ret_bool hf.out.symm, hB⟩

end Go.Proofs.Ytlndaflhlkbedaa

/- Contracts (MapI). -/
namespace Go.Proofs.Ytlndaflhlkbedaa
open Go.RowKit
set_option linter.unusedVariables false

set_option maxHeartbeats 3200000 in
set_option maxRecDepth 100000 in
theorem implMapOk_any (A A' A'' : Option Addr) (n n' n'' c c' c'' : Nat) (xs ys ms : Tr) (w : World) (h : NdIn w w.heap.size A n xs) (h' : NdIn w w.heap.size A' n' ys) (h'' : NdIn w w.heap.size A'' n'' ms) (hn : n ≤ 1048576) (hn' : n' ≤ 1048576) (hn'' : n'' ≤ 1048576) (hc : n ≤ c) (hc' : n' ≤ c') (hc'' : n'' ≤ c'') :
    Calls Try.prog 39 #[.slice A n c, .slice A' n' c', .slice A'' n'' c''] w fun e w' => e = .returned (.bool (Mp.ok xs ys ms)) ∧ Below w.heap.size w w' := by
  have H := Lib.hid h
  have H' := Lib.hid h'
  have H2 := Lib.hid h''
  clear h h' h''
  have HL := Lib.hid H2.out.1
  obtain ⟨o1, ho1⟩ : ∃ b, b = Tr.ok xs := ⟨_, rfl⟩
  obtain ⟨o2, ho2⟩ : ∃ b, b = Tr.ok ys := ⟨_, rfl⟩
  have C1 := Lib.hid (show Calls Try.prog 97 #[.slice A n c] w fun e w' => e = .returned (.bool o1) ∧ Below w.heap.size w w' from by rw [ho1]; exact implTreeOk_any _ _ _ xs _ H.out hn hc)
  have C2 := Lib.hid (fun (wq : World) (hq : Below w.heap.size w wq) => show Calls Try.prog 97 #[.slice A' n' c'] wq fun e w' => e = .returned (.bool o2) ∧ Below wq.heap.size wq w' from by rw [ho2]; exact implTreeOk_any _ _ _ ys _ (H'.out.to_below hq) hn' hc')
  have HO1 := Lib.hid ho1
  have HO2 := Lib.hid ho2
  clear ho1 ho2
  cases o1 with
  | false =>
    have hf := Lib.hid (show Mp.ok xs ys ms = false by unfold Mp.ok; rw [← HO1.out]; rfl)
    as_aux_lemma =>
      go_enter Try.func39, Try.ntmps39
      go_wp2_with fail
      refine C1.out.mono ?_
      rintro e w1 ⟨rfl, hb1⟩
      go_wp2
      go_ret
      exact ⟨Kit.ret_bool hf.out.symm, hb1⟩
  | true =>
    cases o2 with
    | false =>
      have hf := Lib.hid (show Mp.ok xs ys ms = false by unfold Mp.ok; rw [← HO2.out, Bool.and_false]; rfl)
      as_aux_lemma =>
        go_enter Try.func39, Try.ntmps39
        go_wp2_with fail
        refine C1.out.mono ?_
        rintro e w1 ⟨rfl, hb1⟩
        have HB := Lib.hid hb1
        clear hb1
        go_wp2_with fail
        refine (C2.out _ HB.out).mono ?_
        rintro e w2 ⟨rfl, hb2⟩
        have HE := Lib.hid (HB.out.trans (hb2.mono HB.out.size))
        clear hb2
        go_wp2
        go_ret
        exact ⟨Kit.ret_bool hf.out.symm, HE.out⟩
    | true =>
      go_enter Try.func39, Try.ntmps39
      go_wp2_with fail
      refine C1.out.mono ?_
      rintro e w1 ⟨rfl, hb1⟩
      have HB := Lib.hid hb1
      clear hb1
      go_wp2_with fail
      refine (C2.out _ HB.out).mono ?_
      rintro e w2 ⟨rfl, hb2⟩
      have HB0 := Lib.hid (HB.out.trans (hb2.mono HB.out.size))
      clear hb2 HB
      go_wp2
      go_loopw [19] (fun iv wr => ∃ k : Nat, k ≤ n'' ∧ iv = .int .i64 k ∧ (∀ q, q < k → Mp.okAt xs ys ms q = true) ∧ Below w.heap.size w wr) (fun i _ => n'' - (intOf i).toNat)
      case atStart => exact ⟨0, by omega, rfl, fun q hq => absurd hq (by omega), HB0.out⟩
      case round =>
        obtain ⟨k, hk, rfl, hgood, hB⟩ := hrel
        have HG := Lib.hid hgood
        clear hgood
        by_cases hlt : k < n''
        · obtain ⟨ad, rfl, hb, hl, hd⟩ := (H2.out.below hB).at_ (k := k) hlt
          have hk0 : (0 : Int) ≤ (k : Int) := by omega
          have hklt : (k : Int) < (n'' : Int) := by omega
          have hkc : (k : Int) ≤ (c'' : Int) := by omega
          have HK := Lib.hid (show k < ms.length by rw [HL.out]; exact hlt)
          obtain ⟨wz, hwz⟩ : ∃ wz, wz = wr.alloc (.cells #[.int .i64 (Tr.l ms k), .int .i64 (Tr.d ms k)] 55) := ⟨_, rfl⟩
          have BZ := Lib.hid (show Below wr.heap.size wr wz by rw [hwz]; exact (Below.refl _ _).alloc (Nat.le_refl _) _)
          have HQ := Lib.hid (show Bx2 wz wr.heap.size (Tr.l ms k) (Tr.d ms k) by rw [hwz]; exact Bx2.made _ _ _ _)
          have HB := Lib.hid (hB.trans (BZ.out.mono hB.size))
          have HZ := Lib.hid hwz
          have HS := Lib.hid (show w.heap.size ≤ wz.heap.size from HB.out.size)
          clear hwz hB
          obtain ⟨b1, hb1⟩ : ∃ b, b = Tr.has xs (Tr.l ms k) := ⟨_, rfl⟩
          obtain ⟨b2, hb2⟩ : ∃ b, b = Tr.has ys (Tr.d ms k) := ⟨_, rfl⟩
          obtain ⟨b3, hb3⟩ : ∃ b, b = Mp.after xs ys ms k (Tr.l ms k) (Tr.d ms k) := ⟨_, rfl⟩
          have QA := Lib.hid (fun (wq : World) (hq : Below wz.heap.size wz wq) => show Calls Try.prog 98 #[.slice A n c, .int .i64 (Tr.l ms k)] wq fun e w' => e = .returned (.bool b1) ∧ Below wq.heap.size wq w' from by rw [hb1]; exact hasNode_any _ _ _ xs _ _ (H.out.to_below (HB.out.trans (hq.mono HS.out))) hn hc)
          have QB := Lib.hid (fun (wq : World) (hq : Below wz.heap.size wz wq) => show Calls Try.prog 98 #[.slice A' n' c', .int .i64 (Tr.d ms k)] wq fun e w' => e = .returned (.bool b2) ∧ Below wq.heap.size wq w' from by rw [hb2]; exact hasNode_any _ _ _ ys _ _ (H'.out.to_below (HB.out.trans (hq.mono HS.out))) hn' hc')
          have QC := Lib.hid (fun (wq : World) (hq : Below wz.heap.size wz wq) => show Calls Try.prog 99 #[.slice A n c, .slice A' n' c', .slice (some ad) k c'', .agg #[.int .i64 (Tr.l ms k), .int .i64 (Tr.d ms k)]] wq fun e w' => e = .returned (.bool b3) ∧ Below wq.heap.size wq w' from by
            rw [hb3, ← Mp.after_take]
            exact pairFits_any _ _ _ _ _ _ _ _ _ xs ys (ms.take k) _ _ _ (H.out.to_below (HB.out.trans (hq.mono HS.out))) (H'.out.to_below (HB.out.trans (hq.mono HS.out))) ((H2.out.to_below (HB.out.trans (hq.mono HS.out))).head hk) hn hn' (by omega) hc hc')
          have HB1 := Lib.hid hb1
          have HB2 := Lib.hid hb2
          have HB3 := Lib.hid hb3
          clear hb1 hb2 hb3
          cases b1 with
          | false =>
            have hf := Lib.hid (Mp.ok_no HK.out (Mp.no_a HB1.out.symm) : Mp.ok xs ys ms = false)
            as_aux_lemma =>
              go_wp2_with fail
              rw [← HZ.out]
              have S0 : (wz.drew.cell? ⟨wr.heap.size, 0, none⟩ = some (.int .i64 (Tr.l ms k)) ∧ wz.drew.cell? ⟨wr.heap.size, 1, none⟩ = some (.int .i64 (Tr.d ms k))) ∧ BelA wz wz.drew := ⟨⟨HQ.out.1, HQ.out.2⟩, (Drawn.refl _).drew.toBelow⟩
              refine wp_region_held_drew (S := (fun wq => (wq.cell? ⟨wr.heap.size, 0, none⟩ = some (.int .i64 (Tr.l ms k)) ∧ wq.cell? ⟨wr.heap.size, 1, none⟩ = some (.int .i64 (Tr.d ms k))) ∧ BelA wz wq)) (by kernel_rfl) S0 (fun hHeld => ?_)
              refine rg_take (i := 0) (v := ?_) rfl (by kernel_rfl) (by kernel_rfl) (by kernel_rfl) (fun _ _ _ h => h) (by rfl) ?_ (by assumption) ?_
              rotate_left
              · intro w hSw
                (try dsimp only at hSw)
                go_simp
                (try with_reducible rfl)
              (try simp only [Act.put, List.setIfInBounds_toArray, List.set_cons_zero, List.set_cons_succ])
              refine rg_take (i := 1) (v := ?_) rfl (by kernel_rfl) (by kernel_rfl) (by kernel_rfl) (fun _ _ _ h => h) (by rfl) ?_ (by assumption) ?_
              rotate_left
              · intro w hSw
                (try dsimp only at hSw)
                go_simp
                (try with_reducible rfl)
              (try simp only [Act.put, List.setIfInBounds_toArray, List.set_cons_zero, List.set_cons_succ])
              refine rg_take (i := 2) (v := ?_) rfl (by kernel_rfl) (by kernel_rfl) (by kernel_rfl) (fun _ _ _ h => h) (by rfl) ?_ (by assumption) ?_
              rotate_left
              · intro w hSw
                (try dsimp only at hSw)
                go_simp
                (try with_reducible rfl)
              (try simp only [Act.put, List.setIfInBounds_toArray, List.set_cons_zero, List.set_cons_succ])
              refine rg_one (i := 3) rfl (by kernel_rfl) (fun K hK => ?_)
              go_simp
              go_at_call 98
              refine (QA.out _ (p2_below (by assumption))).mono ?_
              rintro e w5 ⟨rfl, hb5⟩
              have SC := p2_keep (by assumption) hb5
              go_wp2_with fail
              refine hK.out _ _ SC (fun hHeld => ?_)
              clear hK K
              (try simp only [Act.put, List.setIfInBounds_toArray, List.set_cons_zero, List.set_cons_succ])
              refine rg_take (i := 4) (v := ?_) rfl (by kernel_rfl) (by kernel_rfl) (by kernel_rfl) (fun _ _ _ h => h) (by rfl) ?_ (by assumption) ?_
              rotate_left
              · intro w hSw
                (try dsimp only at hSw)
                go_simp
                (try with_reducible rfl)
              (try simp only [Act.put, List.setIfInBounds_toArray, List.set_cons_zero, List.set_cons_succ])
              refine rg_take (i := 5) (v := ?_) rfl (by kernel_rfl) (by kernel_rfl) (by kernel_rfl) (fun _ _ _ h => h) (by rfl) ?_ (by assumption) ?_
              rotate_left
              · intro w hSw
                (try dsimp only at hSw)
                go_simp
                (try with_reducible rfl)
              (try simp only [Act.put, List.setIfInBounds_toArray, List.set_cons_zero, List.set_cons_succ])
              refine rg_skip (i := 6) rfl (by kernel_rfl) (by kernel_rfl) (by kernel_rfl) (fun _ _ _ h => h) (by rfl) (by assumption) ?_
              (try simp only [Act.put, List.setIfInBounds_toArray, List.set_cons_zero, List.set_cons_succ])
              refine rg_skip (i := 7) rfl (by kernel_rfl) (by kernel_rfl) (by kernel_rfl) (fun _ _ _ h => h) (by rfl) (by assumption) ?_
              (try simp only [Act.put, List.setIfInBounds_toArray, List.set_cons_zero, List.set_cons_succ])
              refine rg_skip (i := 8) rfl (by kernel_rfl) (by kernel_rfl) (by kernel_rfl) (fun _ _ _ h => h) (by rfl) (by assumption) ?_
              (try simp only [Act.put, List.setIfInBounds_toArray, List.set_cons_zero, List.set_cons_succ])
              refine rg_skip (i := 9) rfl (by kernel_rfl) (by kernel_rfl) (by kernel_rfl) (fun _ _ _ h => h) (by rfl) (by assumption) ?_
              (try simp only [Act.put, List.setIfInBounds_toArray, List.set_cons_zero, List.set_cons_succ])
              refine rg_skip (i := 10) rfl (by kernel_rfl) (by kernel_rfl) (by kernel_rfl) (fun _ _ _ h => h) (by rfl) (by assumption) ?_
              (try simp only [Act.put, List.setIfInBounds_toArray, List.set_cons_zero, List.set_cons_succ])
              refine rg_take (i := 11) (v := ?_) rfl (by kernel_rfl) (by kernel_rfl) (by kernel_rfl) (fun _ _ _ h => h) (by rfl) ?_ (by assumption) ?_
              rotate_left
              · intro w hSw
                (try dsimp only at hSw)
                go_simp
                (try with_reducible rfl)
              (try simp only [Act.put, List.setIfInBounds_toArray, List.set_cons_zero, List.set_cons_succ])
              refine rg_take (i := 12) (v := ?_) rfl (by kernel_rfl) (by kernel_rfl) (by kernel_rfl) (fun _ _ _ h => h) (by rfl) ?_ (by assumption) ?_
              rotate_left
              · intro w hSw
                (try dsimp only at hSw)
                go_simp
                (try with_reducible rfl)
              (try simp only [Act.put, List.setIfInBounds_toArray, List.set_cons_zero, List.set_cons_succ])
              refine rg_skip (i := 13) rfl (by kernel_rfl) (by kernel_rfl) (by kernel_rfl) (fun _ _ _ h => h) (by rfl) (by assumption) ?_
              (try simp only [Act.put, List.setIfInBounds_toArray, List.set_cons_zero, List.set_cons_succ])
              refine rg_skip (i := 14) rfl (by kernel_rfl) (by kernel_rfl) (by kernel_rfl) (fun _ _ _ h => h) (by rfl) (by assumption) ?_
              (try simp only [Act.put, List.setIfInBounds_toArray, List.set_cons_zero, List.set_cons_succ])
              refine rg_skip (i := 15) rfl (by kernel_rfl) (by kernel_rfl) (by kernel_rfl) (fun _ _ _ h => h) (by rfl) (by assumption) ?_
              (try simp only [Act.put, List.setIfInBounds_toArray, List.set_cons_zero, List.set_cons_succ])
              refine rg_skip (i := 16) rfl (by kernel_rfl) (by kernel_rfl) (by kernel_rfl) (fun _ _ _ h => h) (by rfl) (by assumption) ?_
              (try simp only [Act.put, List.setIfInBounds_toArray, List.set_cons_zero, List.set_cons_succ])
              refine rg_skip (i := 17) rfl (by kernel_rfl) (by kernel_rfl) (by kernel_rfl) (fun _ _ _ h => h) (by rfl) (by assumption) ?_
              (try simp only [Act.put, List.setIfInBounds_toArray, List.set_cons_zero, List.set_cons_succ])
              refine rg_skip (i := 18) rfl (by kernel_rfl) (by kernel_rfl) (by kernel_rfl) (fun _ _ _ h => h) (by rfl) (by assumption) ?_
              (try simp only [Act.put, List.setIfInBounds_toArray, List.set_cons_zero, List.set_cons_succ])
              refine rg_skip (i := 19) rfl (by kernel_rfl) (by kernel_rfl) (by kernel_rfl) (fun _ _ _ h => h) (by rfl) (by assumption) ?_
              (try simp only [Act.put, List.setIfInBounds_toArray, List.set_cons_zero, List.set_cons_succ])
              refine rg_skip (i := 20) rfl (by kernel_rfl) (by kernel_rfl) (by kernel_rfl) (fun _ _ _ h => h) (by rfl) (by assumption) ?_
              (try simp only [Act.put, List.setIfInBounds_toArray, List.set_cons_zero, List.set_cons_succ])
              refine rg_take (i := 21) (v := ?_) rfl (by kernel_rfl) (by kernel_rfl) (by kernel_rfl) (fun _ _ _ h => h) (by rfl) ?_ (by assumption) ?_
              rotate_left
              · intro w hSw
                (try dsimp only at hSw)
                go_simp
                (try with_reducible rfl)
              (try simp only [Act.put, List.setIfInBounds_toArray, List.set_cons_zero, List.set_cons_succ])
              refine wpAnyH_done (by kernel_rfl) ?_ _
              have HE := Lib.hid (HB.out.trans ((p2_below SC).mono HB.out.size))
              go_wp2
              go_ret
              exact ⟨Kit.ret_bool hf.out.symm, HE.out⟩
          | true =>
            cases b2 with
            | false =>
              have hf := Lib.hid (Mp.ok_no HK.out (Mp.no_b HB2.out.symm) : Mp.ok xs ys ms = false)
              as_aux_lemma =>
                go_wp2_with fail
                rw [← HZ.out]
                have S0 : (wz.drew.cell? ⟨wr.heap.size, 0, none⟩ = some (.int .i64 (Tr.l ms k)) ∧ wz.drew.cell? ⟨wr.heap.size, 1, none⟩ = some (.int .i64 (Tr.d ms k))) ∧ BelA wz wz.drew := ⟨⟨HQ.out.1, HQ.out.2⟩, (Drawn.refl _).drew.toBelow⟩
                refine wp_region_held_drew (S := (fun wq => (wq.cell? ⟨wr.heap.size, 0, none⟩ = some (.int .i64 (Tr.l ms k)) ∧ wq.cell? ⟨wr.heap.size, 1, none⟩ = some (.int .i64 (Tr.d ms k))) ∧ BelA wz wq)) (by kernel_rfl) S0 (fun hHeld => ?_)
                refine rg_take (i := 0) (v := ?_) rfl (by kernel_rfl) (by kernel_rfl) (by kernel_rfl) (fun _ _ _ h => h) (by rfl) ?_ (by assumption) ?_
                rotate_left
                · intro w hSw
                  (try dsimp only at hSw)
                  go_simp
                  (try with_reducible rfl)
                (try simp only [Act.put, List.setIfInBounds_toArray, List.set_cons_zero, List.set_cons_succ])
                refine rg_take (i := 1) (v := ?_) rfl (by kernel_rfl) (by kernel_rfl) (by kernel_rfl) (fun _ _ _ h => h) (by rfl) ?_ (by assumption) ?_
                rotate_left
                · intro w hSw
                  (try dsimp only at hSw)
                  go_simp
                  (try with_reducible rfl)
                (try simp only [Act.put, List.setIfInBounds_toArray, List.set_cons_zero, List.set_cons_succ])
                refine rg_take (i := 2) (v := ?_) rfl (by kernel_rfl) (by kernel_rfl) (by kernel_rfl) (fun _ _ _ h => h) (by rfl) ?_ (by assumption) ?_
                rotate_left
                · intro w hSw
                  (try dsimp only at hSw)
                  go_simp
                  (try with_reducible rfl)
                (try simp only [Act.put, List.setIfInBounds_toArray, List.set_cons_zero, List.set_cons_succ])
                refine rg_one (i := 3) rfl (by kernel_rfl) (fun K hK => ?_)
                go_simp
                go_at_call 98
                refine (QA.out _ (p2_below (by assumption))).mono ?_
                rintro e w5 ⟨rfl, hb5⟩
                have SC := p2_keep (by assumption) hb5
                go_wp2_with fail
                refine hK.out _ _ SC (fun hHeld => ?_)
                clear hK K
                (try simp only [Act.put, List.setIfInBounds_toArray, List.set_cons_zero, List.set_cons_succ])
                refine rg_take (i := 4) (v := ?_) rfl (by kernel_rfl) (by kernel_rfl) (by kernel_rfl) (fun _ _ _ h => h) (by rfl) ?_ (by assumption) ?_
                rotate_left
                · intro w hSw
                  (try dsimp only at hSw)
                  go_simp
                  (try with_reducible rfl)
                (try simp only [Act.put, List.setIfInBounds_toArray, List.set_cons_zero, List.set_cons_succ])
                refine rg_take (i := 5) (v := ?_) rfl (by kernel_rfl) (by kernel_rfl) (by kernel_rfl) (fun _ _ _ h => h) (by rfl) ?_ (by assumption) ?_
                rotate_left
                · intro w hSw
                  (try dsimp only at hSw)
                  go_simp
                  (try with_reducible rfl)
                (try simp only [Act.put, List.setIfInBounds_toArray, List.set_cons_zero, List.set_cons_succ])
                refine rg_take (i := 6) (v := ?_) rfl (by kernel_rfl) (by kernel_rfl) (by kernel_rfl) (fun _ _ _ h => h) (by rfl) ?_ (by assumption) ?_
                rotate_left
                · intro w hSw
                  (try dsimp only at hSw)
                  go_simp
                  (try with_reducible rfl)
                (try simp only [Act.put, List.setIfInBounds_toArray, List.set_cons_zero, List.set_cons_succ])
                refine rg_take (i := 7) (v := ?_) rfl (by kernel_rfl) (by kernel_rfl) (by kernel_rfl) (fun _ _ _ h => h) (by rfl) ?_ (by assumption) ?_
                rotate_left
                · intro w hSw
                  (try dsimp only at hSw)
                  go_simp
                  (try with_reducible rfl)
                (try simp only [Act.put, List.setIfInBounds_toArray, List.set_cons_zero, List.set_cons_succ])
                refine rg_take (i := 8) (v := ?_) rfl (by kernel_rfl) (by kernel_rfl) (by kernel_rfl) (fun _ _ _ h => h) (by rfl) ?_ (by assumption) ?_
                rotate_left
                · intro w hSw
                  (try dsimp only at hSw)
                  go_simp
                  (try with_reducible rfl)
                (try simp only [Act.put, List.setIfInBounds_toArray, List.set_cons_zero, List.set_cons_succ])
                refine rg_one (i := 9) rfl (by kernel_rfl) (fun K hK => ?_)
                go_simp
                go_at_call 98
                refine (QB.out _ (p2_below (by assumption))).mono ?_
                rintro e w6 ⟨rfl, hb5⟩
                have SC := p2_keep (by assumption) hb5
                go_wp2_with fail
                refine hK.out _ _ SC (fun hHeld => ?_)
                clear hK K
                (try simp only [Act.put, List.setIfInBounds_toArray, List.set_cons_zero, List.set_cons_succ])
                refine rg_take (i := 10) (v := ?_) rfl (by kernel_rfl) (by kernel_rfl) (by kernel_rfl) (fun _ _ _ h => h) (by rfl) ?_ (by assumption) ?_
                rotate_left
                · intro w hSw
                  (try dsimp only at hSw)
                  go_simp
                  (try with_reducible rfl)
                (try simp only [Act.put, List.setIfInBounds_toArray, List.set_cons_zero, List.set_cons_succ])
                refine rg_take (i := 11) (v := ?_) rfl (by kernel_rfl) (by kernel_rfl) (by kernel_rfl) (fun _ _ _ h => h) (by rfl) ?_ (by assumption) ?_
                rotate_left
                · intro w hSw
                  (try dsimp only at hSw)
                  go_simp
                  (try with_reducible rfl)
                (try simp only [Act.put, List.setIfInBounds_toArray, List.set_cons_zero, List.set_cons_succ])
                refine rg_take (i := 12) (v := ?_) rfl (by kernel_rfl) (by kernel_rfl) (by kernel_rfl) (fun _ _ _ h => h) (by rfl) ?_ (by assumption) ?_
                rotate_left
                · intro w hSw
                  (try dsimp only at hSw)
                  go_simp
                  (try with_reducible rfl)
                (try simp only [Act.put, List.setIfInBounds_toArray, List.set_cons_zero, List.set_cons_succ])
                refine rg_skip (i := 13) rfl (by kernel_rfl) (by kernel_rfl) (by kernel_rfl) (fun _ _ _ h => h) (by rfl) (by assumption) ?_
                (try simp only [Act.put, List.setIfInBounds_toArray, List.set_cons_zero, List.set_cons_succ])
                refine rg_skip (i := 14) rfl (by kernel_rfl) (by kernel_rfl) (by kernel_rfl) (fun _ _ _ h => h) (by rfl) (by assumption) ?_
                (try simp only [Act.put, List.setIfInBounds_toArray, List.set_cons_zero, List.set_cons_succ])
                refine rg_skip (i := 15) rfl (by kernel_rfl) (by kernel_rfl) (by kernel_rfl) (fun _ _ _ h => h) (by rfl) (by assumption) ?_
                (try simp only [Act.put, List.setIfInBounds_toArray, List.set_cons_zero, List.set_cons_succ])
                refine rg_skip (i := 16) rfl (by kernel_rfl) (by kernel_rfl) (by kernel_rfl) (fun _ _ _ h => h) (by rfl) (by assumption) ?_
                (try simp only [Act.put, List.setIfInBounds_toArray, List.set_cons_zero, List.set_cons_succ])
                refine rg_skip (i := 17) rfl (by kernel_rfl) (by kernel_rfl) (by kernel_rfl) (fun _ _ _ h => h) (by rfl) (by assumption) ?_
                (try simp only [Act.put, List.setIfInBounds_toArray, List.set_cons_zero, List.set_cons_succ])
                refine rg_skip (i := 18) rfl (by kernel_rfl) (by kernel_rfl) (by kernel_rfl) (fun _ _ _ h => h) (by rfl) (by assumption) ?_
                (try simp only [Act.put, List.setIfInBounds_toArray, List.set_cons_zero, List.set_cons_succ])
                refine rg_skip (i := 19) rfl (by kernel_rfl) (by kernel_rfl) (by kernel_rfl) (fun _ _ _ h => h) (by rfl) (by assumption) ?_
                (try simp only [Act.put, List.setIfInBounds_toArray, List.set_cons_zero, List.set_cons_succ])
                refine rg_skip (i := 20) rfl (by kernel_rfl) (by kernel_rfl) (by kernel_rfl) (fun _ _ _ h => h) (by rfl) (by assumption) ?_
                (try simp only [Act.put, List.setIfInBounds_toArray, List.set_cons_zero, List.set_cons_succ])
                refine rg_take (i := 21) (v := ?_) rfl (by kernel_rfl) (by kernel_rfl) (by kernel_rfl) (fun _ _ _ h => h) (by rfl) ?_ (by assumption) ?_
                rotate_left
                · intro w hSw
                  (try dsimp only at hSw)
                  go_simp
                  (try with_reducible rfl)
                (try simp only [Act.put, List.setIfInBounds_toArray, List.set_cons_zero, List.set_cons_succ])
                refine wpAnyH_done (by kernel_rfl) ?_ _
                have HE := Lib.hid (HB.out.trans ((p2_below SC).mono HB.out.size))
                go_wp2
                go_ret
                exact ⟨Kit.ret_bool hf.out.symm, HE.out⟩
            | true =>
              cases b3 with
              | false =>
                have hf := Lib.hid (Mp.ok_no HK.out (by unfold Mp.okAt; rw [← HB3.out, Bool.and_false]) : Mp.ok xs ys ms = false)
                as_aux_lemma =>
                  go_wp2_with fail
                  rw [← HZ.out]
                  have S0 := Lib.hid (show (wz.drew.cell? ⟨wr.heap.size, 0, none⟩ = some (.int .i64 (Tr.l ms k)) ∧ wz.drew.cell? ⟨wr.heap.size, 1, none⟩ = some (.int .i64 (Tr.d ms k))) ∧ BelA wz wz.drew from ⟨⟨HQ.out.1, HQ.out.2⟩, (Drawn.refl _).drew.toBelow⟩)
                  go_region_held3 (fun wq => (wq.cell? ⟨wr.heap.size, 0, none⟩ = some (.int .i64 (Tr.l ms k)) ∧ wq.cell? ⟨wr.heap.size, 1, none⟩ = some (.int .i64 (Tr.d ms k))) ∧ BelA wz wq) (first | (with_reducible exact SC) | (with_reducible exact S0.out)) (first | ((go_at_call 98; with_reducible refine (QA.out _ (p2_below (by assumption))).mono ?_); rintro e w5 ⟨rfl, hb5⟩; have SC := p2_keep (by assumption) hb5) | ((go_at_call 98; with_reducible refine (QB.out _ (p2_below (by assumption))).mono ?_); rintro e w5 ⟨rfl, hb5⟩; have SC := p2_keep (by assumption) hb5) | ((go_at_call 99; with_reducible refine (QC.out _ (p2_below (by assumption))).mono ?_); rintro e w5 ⟨rfl, hb5⟩; have SC := p2_keep (by assumption) hb5))
                  have HE := Lib.hid (HB.out.trans ((p2_below SC).mono HB.out.size))
                  go_wp2
                  go_ret
                  exact ⟨Kit.ret_bool hf.out.symm, HE.out⟩
              | true =>
                have HA := Lib.hid (by unfold Mp.okAt; rw [← HB1.out, ← HB2.out, ← HB3.out]; rfl : Mp.okAt xs ys ms k = true)
                as_aux_lemma =>
                  go_wp2_with fail
                  rw [← HZ.out]
                  have S0 := Lib.hid (show (wz.drew.cell? ⟨wr.heap.size, 0, none⟩ = some (.int .i64 (Tr.l ms k)) ∧ wz.drew.cell? ⟨wr.heap.size, 1, none⟩ = some (.int .i64 (Tr.d ms k))) ∧ BelA wz wz.drew from ⟨⟨HQ.out.1, HQ.out.2⟩, (Drawn.refl _).drew.toBelow⟩)
                  go_region_held3 (fun wq => (wq.cell? ⟨wr.heap.size, 0, none⟩ = some (.int .i64 (Tr.l ms k)) ∧ wq.cell? ⟨wr.heap.size, 1, none⟩ = some (.int .i64 (Tr.d ms k))) ∧ BelA wz wq) (first | (with_reducible exact SC) | (with_reducible exact S0.out)) (first | ((go_at_call 98; with_reducible refine (QA.out _ (p2_below (by assumption))).mono ?_); rintro e w5 ⟨rfl, hb5⟩; have SC := p2_keep (by assumption) hb5) | ((go_at_call 98; with_reducible refine (QB.out _ (p2_below (by assumption))).mono ?_); rintro e w5 ⟨rfl, hb5⟩; have SC := p2_keep (by assumption) hb5) | ((go_at_call 99; with_reducible refine (QC.out _ (p2_below (by assumption))).mono ?_); rintro e w5 ⟨rfl, hb5⟩; have SC := p2_keep (by assumption) hb5))
                  have HE := Lib.hid (HB.out.trans ((p2_below SC).mono HB.out.size))
                  go_wp2
                  go_roundw
                  case rel => exact ⟨k + 1, by omega, by go_num, fun q hq => by
                    rcases Nat.lt_succ_iff_lt_or_eq.1 hq with h' | rfl
                    · exact HG.out q h'
                    · exact HA.out, HE.out⟩
                  case measure => simp [intOf]; omega
        · obtain rfl : k = n'' := by omega
          have hf := Lib.hid ((Mp.ok_yes (fun q hq => HG.out q (by rw [← HL.out]; exact hq))).trans (by rw [← HO1.out, ← HO2.out]; rfl) : Mp.ok xs ys ms = true)
          go_wp2
          go_ret
          exact ⟨Kit.ret_bool hf.out.symm, hB⟩

end Go.Proofs.Ytlndaflhlkbedaa

/- Contracts (DelI). -/
namespace Go.Proofs.Ytlndaflhlkbedaa
open Go.RowKit
set_option linter.unusedVariables false

set_option maxHeartbeats 1600000 in
set_option maxRecDepth 100000 in
theorem implDelCost_any (A0 A1 A2 : Option Addr) (n0 n1 n2 c0 c1 c2 : Nat) (k : Co) (a : Int) (w : World) (h : CoIn w w.heap.size A0 A1 A2 n0 n1 n2 k) (h0 : n0 ≤ 1048576) (h1 : n1 ≤ 1048576) (h2 : n2 ≤ 1048576) :
    Calls Try.prog 32 #[.agg #[.slice A0 n0 c0, .slice A1 n1 c1, .slice A2 n2 c2], .int .i64 a] w fun e w' => e = .returned (.int .i64 (Co.del k a)) ∧ Below w.heap.size w w' := by
  have H := Lib.hid h
  have HL := Lib.hid h.len
  clear h
  have HB := Lib.hid ((Below.refl w.heap.size w).alloc (Nat.le_refl _) (.cells #[.slice A0 n0 c0, .slice A1 n1 c1, .slice A2 n2 c2] 27))
  have H1 := Lib.hid (H.out.to_below HB.out)
  cases e0 : Co.ok k with
  | false =>
    have Hf := Lib.hid (show Co.del k a = 0 by unfold Co.del; rw [e0]; rfl)
    have E0 := Lib.hid e0
    clear e0
    go_enter Try.func32, Try.ntmps32
    go_wp2_with fail
    refine (implCostOk_any _ _ _ _ _ _ _ _ _ k _ H1.out h0 h1 h2).mono ?_
    rintro e w1 ⟨rfl, hb⟩
    have HB := Lib.hid (HB.out.trans (hb.mono HB.out.size))
    clear hb
    rw [E0.out]
    go_wp2
    go_ret
    exact ⟨Kit.ret_int Hf.out.symm, HB.out⟩
  | true =>
    cases e1 : Lab.ok a with
    | false =>
      have Hf := Lib.hid (show Co.del k a = 0 by unfold Co.del; rw [e0, e1]; rfl)
      have E0 := Lib.hid e0
      have E1 := Lib.hid e1
      clear e0 e1
      go_enter Try.func32, Try.ntmps32
      go_wp2_with fail
      refine (implCostOk_any _ _ _ _ _ _ _ _ _ k _ H1.out h0 h1 h2).mono ?_
      rintro e w1 ⟨rfl, hb⟩
      have HB := Lib.hid (HB.out.trans (hb.mono HB.out.size))
      clear hb
      rw [E0.out]
      go_wp2_with fail
      refine (implLabelOk_any _ _).mono ?_
      rintro e w2 ⟨rfl, rfl⟩
      rw [E1.out]
      go_wp2
      go_ret
      exact ⟨Kit.ret_int Hf.out.symm, HB.out⟩
    | true =>
      have hl := (Co.ok_iff.1 e0)
      have hd := (Zs.fit_iff.1 hl.1).1
      have ha : 0 ≤ a ∧ a ≤ 5 := by simpa [Lab.ok] using e1
      obtain ⟨j, rfl⟩ := Int.eq_ofNat_of_zero_le ha.1
      have Hf := Lib.hid (show Co.del k (j : Int) = Zs.at k.d j by unfold Co.del; rw [e0, e1]; rfl)
      have E0 := Lib.hid e0
      have E1 := Lib.hid e1
      have hn6 : n0 = 6 := by rw [← hd]; exact HL.out.1.symm
      clear e0 e1 hl hd
      subst hn6
      obtain ⟨ad, rfl, _⟩ := H1.out.1.2.1 (by omega)
      have hj : j < 6 := by omega
      have j0 : (0 : Int) ≤ (j : Int) := by omega
      have j1 : (j : Int) < 6 := by omega
      have g0 : (w.alloc (.cells #[.slice (some ad) 6 c0, .slice A1 n1 c1, .slice A2 n2 c2] 27)).cell? ⟨w.heap.size, 0, none⟩ = some (.slice (some ad) 6 c0) := by simp
      have f0 := HB.out
      go_enter Try.func32, Try.ntmps32
      go_wp2_with fail
      refine (implCostOk_any _ _ _ _ _ _ _ _ _ k _ H1.out h0 h1 h2).mono ?_
      rintro e w1 ⟨rfl, hb⟩
      have HB := Lib.hid (HB.out.trans (hb.mono HB.out.size))
      have H1 := Lib.hid (H1.out.to_below hb)
      have g1 := (hb.cell (p := ⟨w.heap.size, 0, none⟩) (by simp)).trans g0
      have c1' := H1.out.1.here (k := j) hj
      clear hb g0 f0
      rw [E0.out]
      go_wp2_with fail
      refine (implLabelOk_any _ _).mono ?_
      rintro e w2 ⟨rfl, rfl⟩
      rw [E1.out]
      go_wp2
      go_ret
      exact ⟨Kit.ret_int Hf.out.symm, HB.out⟩

end Go.Proofs.Ytlndaflhlkbedaa

/- Contracts (InsI). -/
namespace Go.Proofs.Ytlndaflhlkbedaa
open Go.RowKit
set_option linter.unusedVariables false

set_option maxHeartbeats 1600000 in
set_option maxRecDepth 100000 in
theorem implInsCost_any (A0 A1 A2 : Option Addr) (n0 n1 n2 c0 c1 c2 : Nat) (k : Co) (a : Int) (w : World) (h : CoIn w w.heap.size A0 A1 A2 n0 n1 n2 k) (h0 : n0 ≤ 1048576) (h1 : n1 ≤ 1048576) (h2 : n2 ≤ 1048576) :
    Calls Try.prog 33 #[.agg #[.slice A0 n0 c0, .slice A1 n1 c1, .slice A2 n2 c2], .int .i64 a] w fun e w' => e = .returned (.int .i64 (Co.ins k a)) ∧ Below w.heap.size w w' := by
  have H := Lib.hid h
  have HL := Lib.hid h.len
  clear h
  have HB := Lib.hid ((Below.refl w.heap.size w).alloc (Nat.le_refl _) (.cells #[.slice A0 n0 c0, .slice A1 n1 c1, .slice A2 n2 c2] 27))
  have H1 := Lib.hid (H.out.to_below HB.out)
  cases e0 : Co.ok k with
  | false =>
    have Hf := Lib.hid (show Co.ins k a = 0 by unfold Co.ins; rw [e0]; rfl)
    have E0 := Lib.hid e0
    clear e0
    go_enter Try.func33, Try.ntmps33
    go_wp2_with fail
    refine (implCostOk_any _ _ _ _ _ _ _ _ _ k _ H1.out h0 h1 h2).mono ?_
    rintro e w1 ⟨rfl, hb⟩
    have HB := Lib.hid (HB.out.trans (hb.mono HB.out.size))
    clear hb
    rw [E0.out]
    go_wp2
    go_ret
    exact ⟨Kit.ret_int Hf.out.symm, HB.out⟩
  | true =>
    cases e1 : Lab.ok a with
    | false =>
      have Hf := Lib.hid (show Co.ins k a = 0 by unfold Co.ins; rw [e0, e1]; rfl)
      have E0 := Lib.hid e0
      have E1 := Lib.hid e1
      clear e0 e1
      go_enter Try.func33, Try.ntmps33
      go_wp2_with fail
      refine (implCostOk_any _ _ _ _ _ _ _ _ _ k _ H1.out h0 h1 h2).mono ?_
      rintro e w1 ⟨rfl, hb⟩
      have HB := Lib.hid (HB.out.trans (hb.mono HB.out.size))
      clear hb
      rw [E0.out]
      go_wp2_with fail
      refine (implLabelOk_any _ _).mono ?_
      rintro e w2 ⟨rfl, rfl⟩
      rw [E1.out]
      go_wp2
      go_ret
      exact ⟨Kit.ret_int Hf.out.symm, HB.out⟩
    | true =>
      have hl := (Co.ok_iff.1 e0)
      have hd := (Zs.fit_iff.1 hl.2.1).1
      have ha : 0 ≤ a ∧ a ≤ 5 := by simpa [Lab.ok] using e1
      obtain ⟨j, rfl⟩ := Int.eq_ofNat_of_zero_le ha.1
      have Hf := Lib.hid (show Co.ins k (j : Int) = Zs.at k.i j by unfold Co.ins; rw [e0, e1]; rfl)
      have E0 := Lib.hid e0
      have E1 := Lib.hid e1
      have hn6 : n1 = 6 := by rw [← hd]; exact HL.out.2.1.symm
      clear e0 e1 hl hd
      subst hn6
      obtain ⟨ad, rfl, _⟩ := H1.out.2.1.2.1 (by omega)
      have hj : j < 6 := by omega
      have j0 : (0 : Int) ≤ (j : Int) := by omega
      have j1 : (j : Int) < 6 := by omega
      have g0 : (w.alloc (.cells #[.slice A0 n0 c0, .slice (some ad) 6 c1, .slice A2 n2 c2] 27)).cell? ⟨w.heap.size, 1, none⟩ = some (.slice (some ad) 6 c1) := by simp
      have f0 := HB.out
      go_enter Try.func33, Try.ntmps33
      go_wp2_with fail
      refine (implCostOk_any _ _ _ _ _ _ _ _ _ k _ H1.out h0 h1 h2).mono ?_
      rintro e w1 ⟨rfl, hb⟩
      have HB := Lib.hid (HB.out.trans (hb.mono HB.out.size))
      have H1 := Lib.hid (H1.out.to_below hb)
      have g1 := (hb.cell (p := ⟨w.heap.size, 1, none⟩) (by simp)).trans g0
      have c1' := H1.out.2.1.here (k := j) hj
      clear hb g0 f0
      rw [E0.out]
      go_wp2_with fail
      refine (implLabelOk_any _ _).mono ?_
      rintro e w2 ⟨rfl, rfl⟩
      rw [E1.out]
      go_wp2
      go_ret
      exact ⟨Kit.ret_int Hf.out.symm, HB.out⟩

end Go.Proofs.Ytlndaflhlkbedaa

/- Contracts (RelI). -/
namespace Go.Proofs.Ytlndaflhlkbedaa
open Go.RowKit
set_option linter.unusedVariables false

set_option maxHeartbeats 1600000 in
set_option maxRecDepth 100000 in
theorem implRelCost_any (A0 A1 A2 : Option Addr) (n0 n1 n2 c0 c1 c2 : Nat) (k : Co) (a b : Int) (w : World) (h : CoIn w w.heap.size A0 A1 A2 n0 n1 n2 k) (h0 : n0 ≤ 1048576) (h1 : n1 ≤ 1048576) (h2 : n2 ≤ 1048576) :
    Calls Try.prog 70 #[.agg #[.slice A0 n0 c0, .slice A1 n1 c1, .slice A2 n2 c2], .int .i64 a, .int .i64 b] w fun e w' => e = .returned (.int .i64 (Co.rel k a b)) ∧ Below w.heap.size w w' := by
  have H := Lib.hid h
  have HL := Lib.hid h.len
  clear h
  have HB := Lib.hid ((Below.refl w.heap.size w).alloc (Nat.le_refl _) (.cells #[.slice A0 n0 c0, .slice A1 n1 c1, .slice A2 n2 c2] 27))
  have H1 := Lib.hid (H.out.to_below HB.out)
  cases e0 : Co.ok k with
  | false =>
    have Hf := Lib.hid (show Co.rel k a b = 0 by unfold Co.rel; rw [e0]; rfl)
    have E0 := Lib.hid e0
    clear e0
    go_enter Try.func70, Try.ntmps70
    go_wp2_with fail
    refine (implCostOk_any _ _ _ _ _ _ _ _ _ k _ H1.out h0 h1 h2).mono ?_
    rintro e w1 ⟨rfl, hb⟩
    have HB := Lib.hid (HB.out.trans (hb.mono HB.out.size))
    clear hb
    rw [E0.out]
    go_wp2
    go_ret
    exact ⟨Kit.ret_int Hf.out.symm, HB.out⟩
  | true =>
    cases e1 : Lab.ok a with
    | false =>
      have Hf := Lib.hid (show Co.rel k a b = 0 by unfold Co.rel; rw [e0, e1]; rfl)
      have E0 := Lib.hid e0
      have E1 := Lib.hid e1
      clear e0 e1
      go_enter Try.func70, Try.ntmps70
      go_wp2_with fail
      refine (implCostOk_any _ _ _ _ _ _ _ _ _ k _ H1.out h0 h1 h2).mono ?_
      rintro e w1 ⟨rfl, hb⟩
      have HB := Lib.hid (HB.out.trans (hb.mono HB.out.size))
      clear hb
      rw [E0.out]
      go_wp2_with fail
      refine (implLabelOk_any _ _).mono ?_
      rintro e w2 ⟨rfl, rfl⟩
      rw [E1.out]
      go_wp2
      go_ret
      exact ⟨Kit.ret_int Hf.out.symm, HB.out⟩
    | true =>
      cases e2 : Lab.ok b with
      | false =>
        have Hf := Lib.hid (show Co.rel k a b = 0 by unfold Co.rel; rw [e0, e1, e2]; rfl)
        have E0 := Lib.hid e0
        have E1 := Lib.hid e1
        have E2 := Lib.hid e2
        clear e0 e1 e2
        go_enter Try.func70, Try.ntmps70
        go_wp2_with fail
        refine (implCostOk_any _ _ _ _ _ _ _ _ _ k _ H1.out h0 h1 h2).mono ?_
        rintro e w1 ⟨rfl, hb⟩
        have HB := Lib.hid (HB.out.trans (hb.mono HB.out.size))
        clear hb
        rw [E0.out]
        go_wp2_with fail
        refine (implLabelOk_any _ _).mono ?_
        rintro e w2 ⟨rfl, rfl⟩
        rw [E1.out]
        go_wp2_with fail
        refine (implLabelOk_any _ _).mono ?_
        rintro e w3 ⟨rfl, rfl⟩
        rw [E2.out]
        go_wp2
        go_ret
        exact ⟨Kit.ret_int Hf.out.symm, HB.out⟩
      | true =>
        have hd := (Zs.fit_iff.1 (Co.ok_iff.1 e0).2.2.1).1
        have ha : 0 ≤ a ∧ a ≤ 5 := by simpa [Lab.ok] using e1
        have hb' : 0 ≤ b ∧ b ≤ 5 := by simpa [Lab.ok] using e2
        obtain ⟨i, rfl⟩ := Int.eq_ofNat_of_zero_le ha.1
        obtain ⟨j, rfl⟩ := Int.eq_ofNat_of_zero_le hb'.1
        obtain ⟨p, hp⟩ : ∃ p, p = i * 6 + j := ⟨_, rfl⟩
        have Hf := Lib.hid (show Co.rel k (i : Int) (j : Int) = Zs.at k.r p by unfold Co.rel; rw [e0, e1, e2, hp]; rfl)
        have E0 := Lib.hid e0
        have E1 := Lib.hid e1
        have E2 := Lib.hid e2
        have hn6 : n2 = 36 := by rw [← hd]; exact HL.out.2.2.symm
        clear e0 e1 e2 hd
        subst hn6
        obtain ⟨ad, rfl, _⟩ := H1.out.2.2.2.1 (by omega)
        have a1 : IntKind.i64.wrap ((i : Int) * 6) = (i : Int) * 6 := Kit.w64 (by omega) (by omega)
        have a2 : IntKind.i64.wrap ((i : Int) * 6 + (j : Int)) = (p : Int) := by rw [Kit.w64 (by omega) (by omega)]; omega
        have a3 : (i : Int) * 6 + (j : Int) = (p : Int) := by omega
        have k1 : (0 : Int) ≤ (p : Int) := by omega
        have k2 : (p : Int) < 36 := by omega
        have hp36 : p < 36 := by omega
        have g0 : (w.alloc (.cells #[.slice A0 n0 c0, .slice A1 n1 c1, .slice (some ad) 36 c2] 27)).cell? ⟨w.heap.size, 2, none⟩ = some (.slice (some ad) 36 c2) := by simp
        clear hp ha hb'
        go_enter Try.func70, Try.ntmps70
        go_wp2_with fail
        refine (implCostOk_any _ _ _ _ _ _ _ _ _ k _ H1.out h0 h1 h2).mono ?_
        rintro e w1 ⟨rfl, hb⟩
        have HB := Lib.hid (HB.out.trans (hb.mono HB.out.size))
        have H1 := Lib.hid (H1.out.to_below hb)
        have g1 := (hb.cell (p := ⟨w.heap.size, 2, none⟩) (by simp)).trans g0
        have c1' := H1.out.2.2.here (k := p) hp36
        clear hb g0
        rw [E0.out]
        go_wp2_with fail
        refine (implLabelOk_any _ _).mono ?_
        rintro e w2 ⟨rfl, rfl⟩
        rw [E1.out]
        go_wp2_with fail
        refine (implLabelOk_any _ _).mono ?_
        rintro e w3 ⟨rfl, rfl⟩
        rw [E2.out]
        go_wp2_with fail
        go_quiet (first | (go_at_call 116; exact quiet_same ((relIndex_any _ _ _ (by omega) (by omega) (by omega) (by omega)).mono fun e w' ⟨h1, h2⟩ => ⟨by rw [h1, a3], h2⟩)))
        go_wp2
        go_ret
        exact ⟨Kit.ret_int Hf.out.symm, HB.out.trans ((Drawn.refl _).drewN _).toBelow⟩
end Go.Proofs.Ytlndaflhlkbedaa

/- Contracts (Fiv). -/
namespace Go.Proofs.Ytlndaflhlkbedaa
open Go.RowKit
set_option linter.unusedVariables false

section
variable {wa wx wy : World} {b : Nat} {p q : Addr} {v0 v1 v2 v3 v4 : Value}
theorem fv_below (h : ((wx.cell? ⟨b, 0, none⟩ = some v0 ∧ wx.cell? ⟨b, 1, none⟩ = some v1 ∧ wx.cell? ⟨b, 2, none⟩ = some v2) ∧ (wx.cell? p = some v3 ∧ wx.cell? q = some v4)) ∧ BelA wa wx) : Below wa.heap.size wa wx := h.2
theorem fv_keep (h : ((wx.cell? ⟨b, 0, none⟩ = some v0 ∧ wx.cell? ⟨b, 1, none⟩ = some v1 ∧ wx.cell? ⟨b, 2, none⟩ = some v2) ∧ (wx.cell? p = some v3 ∧ wx.cell? q = some v4)) ∧ BelA wa wx) (hb : Below wx.heap.size wx wy) : ((wy.cell? ⟨b, 0, none⟩ = some v0 ∧ wy.cell? ⟨b, 1, none⟩ = some v1 ∧ wy.cell? ⟨b, 2, none⟩ = some v2) ∧ (wy.cell? p = some v3 ∧ wy.cell? q = some v4)) ∧ BelA wa wy :=
  have c : ∀ {p : Addr} {v : Value}, wx.cell? p = some v → wy.cell? p = some v := fun hc => (hb.cell (World.block_lt_of_cell? _ _ hc)).trans hc
  ⟨⟨⟨c h.1.1.1, c h.1.1.2.1, c h.1.1.2.2⟩, c h.1.2.1, c h.1.2.2⟩, h.2.trans (hb.mono h.2.size)⟩
end

end Go.Proofs.Ytlndaflhlkbedaa

/- Contracts (McI). -/
namespace Go.Proofs.Ytlndaflhlkbedaa
open Go.RowKit
set_option linter.unusedVariables false

set_option maxHeartbeats 3200000 in
set_option maxRecDepth 100000 in
theorem implMapCost_any (A A' A'' K0 K1 K2 : Option Addr) (n n' n'' n0 n1 n2 c c' c'' c0 c1 c2 : Nat) (xs ys ms : Tr) (k : Co) (w : World) (ha : NdIn w w.heap.size A n xs) (hb : NdIn w w.heap.size A' n' ys) (hk : CoIn w w.heap.size K0 K1 K2 n0 n1 n2 k) (hm : NdIn w w.heap.size A'' n'' ms) (hn : n ≤ 1048576) (hn' : n' ≤ 1048576) (hn'' : n'' ≤ 1048576) (h0 : n0 ≤ 1048576) (h1 : n1 ≤ 1048576) (h2 : n2 ≤ 1048576) (hc : n ≤ c) (hc' : n' ≤ c') (hc'' : n'' ≤ c'') :
    Calls Try.prog 41 #[.slice A n c, .slice A' n' c', .agg #[.slice K0 n0 c0, .slice K1 n1 c1, .slice K2 n2 c2], .slice A'' n'' c''] w fun e w' => e = .returned (.int .i64 (Mp.cost xs ys k ms)) ∧ Below w.heap.size w w' := by
  obtain ⟨wc, hwc⟩ : ∃ wc, wc = w.alloc (.cells #[.slice K0 n0 c0, .slice K1 n1 c1, .slice K2 n2 c2] 27) := ⟨_, rfl⟩
  have hbc : Below w.heap.size w wc := by rw [hwc]; exact (Below.refl _ _).alloc (Nat.le_refl _) _
  have HQ := Lib.hid (show Box3 wc w.heap.size (.slice K0 n0 c0) (.slice K1 n1 c1) (.slice K2 n2 c2) by rw [hwc]; exact Box3.made _ _ _ _ _)
  have HWC := Lib.hid hwc
  have HA := Lib.hid (ha.to_below hbc)
  have HB := Lib.hid (hb.to_below hbc)
  have HM := Lib.hid (hm.to_below hbc)
  have HK := Lib.hid (hk.to_below hbc)
  have HBC := Lib.hid hbc
  have HN := Lib.hid ha.1
  have HN' := Lib.hid hb.1
  have HN2 := Lib.hid hm.1
  have HBX := Lib.hid (fun (wq : World) (hq : Below wc.heap.size wc wq) => (⟨(hq.cell (World.block_lt_of_cell? _ _ HQ.out.1)).trans HQ.out.1, (hq.cell (World.block_lt_of_cell? _ _ HQ.out.2.1)).trans HQ.out.2.1, (hq.cell (World.block_lt_of_cell? _ _ HQ.out.2.2)).trans HQ.out.2.2⟩ : wq.cell? ⟨w.heap.size, 0, none⟩ = some (.slice K0 n0 c0) ∧ wq.cell? ⟨w.heap.size, 1, none⟩ = some (.slice K1 n1 c1) ∧ wq.cell? ⟨w.heap.size, 2, none⟩ = some (.slice K2 n2 c2)))
  obtain ⟨b1, hb1⟩ : ∃ b, b = Mp.ok xs ys ms := ⟨_, rfl⟩
  obtain ⟨b2, hb2⟩ : ∃ b, b = Co.ok k := ⟨_, rfl⟩
  have CM := Lib.hid (show Calls Try.prog 39 #[.slice A n c, .slice A' n' c', .slice A'' n'' c''] wc fun e w' => e = .returned (.bool b1) ∧ Below wc.heap.size wc w' from by
    rw [hb1]
    refine (implMapOk_any A A' A'' n n' n'' c c' c'' xs ys ms wc HA.out HB.out HM.out hn hn' hn'' hc hc' hc'').mono ?_
    rintro e wq ⟨he, hh⟩
    exact ⟨he, hh⟩)
  have CO := Lib.hid (fun (wq : World) (hq : Below wc.heap.size wc wq) => show Calls Try.prog 92 #[.agg #[.slice K0 n0 c0, .slice K1 n1 c1, .slice K2 n2 c2]] wq fun e w' => e = .returned (.bool b2) ∧ Below wq.heap.size wq w' from by rw [hb2]; exact implCostOk_any K0 K1 K2 n0 n1 n2 c0 c1 c2 k wq (HK.out.to_below hq) h0 h1 h2)
  have CD := Lib.hid (fun (l : Int) (wq : World) (hq : Below wc.heap.size wc wq) => ((implDelCost_any K0 K1 K2 n0 n1 n2 c0 c1 c2 k l wq (HK.out.to_below hq) h0 h1 h2) : Calls Try.prog 32 #[.agg #[.slice K0 n0 c0, .slice K1 n1 c1, .slice K2 n2 c2], .int .i64 l] wq fun e w' => e = .returned (.int .i64 (Co.del k l)) ∧ Below wq.heap.size wq w'))
  have CI := Lib.hid (fun (l : Int) (wq : World) (hq : Below wc.heap.size wc wq) => ((implInsCost_any K0 K1 K2 n0 n1 n2 c0 c1 c2 k l wq (HK.out.to_below hq) h0 h1 h2) : Calls Try.prog 33 #[.agg #[.slice K0 n0 c0, .slice K1 n1 c1, .slice K2 n2 c2], .int .i64 l] wq fun e w' => e = .returned (.int .i64 (Co.ins k l)) ∧ Below wq.heap.size wq w'))
  have CR := Lib.hid (fun (l m : Int) (wq : World) (hq : Below wc.heap.size wc wq) => ((implRelCost_any K0 K1 K2 n0 n1 n2 c0 c1 c2 k l m wq (HK.out.to_below hq) h0 h1 h2) : Calls Try.prog 70 #[.agg #[.slice K0 n0 c0, .slice K1 n1 c1, .slice K2 n2 c2], .int .i64 l, .int .i64 m] wq fun e w' => e = .returned (.int .i64 (Co.rel k l m)) ∧ Below wq.heap.size wq w'))
  have HB1 := Lib.hid hb1
  have HB2 := Lib.hid hb2
  clear ha hb hk hm hwc hbc hb1 hb2
  cases b1 with
  | false =>
    have Hf := Lib.hid (show Mp.cost xs ys k ms = -1 by unfold Mp.cost; rw [← HB1.out]; rfl)
    as_aux_lemma =>
      go_enter Try.func41, Try.ntmps41
      go_wp2_with fail
      rw [← HWC.out]
      (try go_wp2_with fail)
      refine CM.out.mono ?_
      rintro e w1 ⟨rfl, b1⟩
      have B1 := Lib.hid b1
      clear b1
      go_wp2
      go_ret
      exact ⟨Kit.ret_int Hf.out.symm, HBC.out.trans (B1.out.mono HBC.out.size)⟩
  | true =>
    cases b2 with
    | false =>
      have Hf := Lib.hid (show Mp.cost xs ys k ms = -1 by unfold Mp.cost; rw [← HB1.out, ← HB2.out]; rfl)
      as_aux_lemma =>
        go_enter Try.func41, Try.ntmps41
        go_wp2_with fail
        rw [← HWC.out]
        (try go_wp2_with fail)
        refine CM.out.mono ?_
        rintro e w1 ⟨rfl, b1⟩
        have B1 := Lib.hid b1
        clear b1
        obtain ⟨q0, q1, q2⟩ := HBX.out w1 B1.out
        go_wp2_with fail
        clear q0 q1 q2
        refine (CO.out w1 B1.out).mono ?_
        rintro e w2 ⟨rfl, b2⟩
        have B2 := Lib.hid (B1.out.trans (b2.mono B1.out.size))
        clear b2
        go_wp2
        go_ret
        exact ⟨Kit.ret_int Hf.out.symm, HBC.out.trans (B2.out.mono HBC.out.size)⟩
    | true =>
      obtain ⟨ox, oy, oall⟩ := Mp.ok_all HB1.out.symm
      have x24 := Tr.len24 ox
      have y24 := Tr.len24 oy
      have HOA := Lib.hid oall
      have hln := HN.out
      have hln' := HN'.out
      obtain ⟨ad, rfl, _⟩ := HA.out.at_ (k := 0) (by omega)
      obtain ⟨bd, rfl, _⟩ := HB.out.at_ (k := 0) (by omega)
      have Hf := Lib.hid (show Mp.cost xs ys k ms = Mp.part xs ys k ms ms.length by unfold Mp.cost; rw [← HB1.out, ← HB2.out]; rfl)
      have HL := Lib.hid hln
      have HL' := Lib.hid hln'
      have X := Lib.hid x24
      have Y := Lib.hid y24
      clear ox oy oall x24 y24 hln hln'
      go_enter Try.func41, Try.ntmps41
      go_wp2_with fail
      rw [← HWC.out]
      (try go_wp2_with fail)
      refine CM.out.mono ?_
      rintro e w1 ⟨rfl, b1⟩
      have B1 := Lib.hid b1
      clear b1
      obtain ⟨q0, q1, q2⟩ := HBX.out w1 B1.out
      go_wp2_with fail
      clear q0 q1 q2
      refine (CO.out w1 B1.out).mono ?_
      rintro e w2 ⟨rfl, b2⟩
      have B2 := Lib.hid (B1.out.trans (b2.mono B1.out.size))
      clear b2
      go_wp2
      have HRX := Lib.hid True.intro
      have sb1 := Lib.hid (fun (i : Nat) (hi : i ≤ n) => (show 0 ≤ Mp.sum (fun i => Co.del k (Tr.l xs i)) i ∧ Mp.sum (fun i => Co.del k (Tr.l xs i)) i ≤ 24000 by have h := Mp.sum_bound (f := (fun i => Co.del k (Tr.l xs i))) (fun i => (Co.nonneg' k).1 _) i; have := X.out; have := HL.out; omega))
      go_loopw [9, 30] (fun sv iv wr => ∃ i : Nat, i ≤ n ∧ iv = .int .i64 i ∧ sv = .int .i64 (Mp.sum (fun i => Co.del k (Tr.l xs i)) (i)) ∧ Below wc.heap.size wc wr) (fun _ iv _ => n - (intOf iv).toNat)
      case atStart => exact ⟨0, by omega, rfl, by simp [Mp.sum], B2.out⟩
      case round =>
        clear HRX
        obtain ⟨i, hi, rfl, rfl, hR⟩ := hrel
        have HR := Lib.hid hR
        clear hR
        by_cases hlt : i < n
        · have bd1 := sb1.out i hi
          have bd2 := (Co.nonneg' k).1 (Tr.l xs i)
          have hst : Mp.sum (fun i => Co.del k (Tr.l xs i)) (i + 1) = Mp.sum (fun i => Co.del k (Tr.l xs i)) (i) + Co.del k (Tr.l xs i) := rfl
          obtain ⟨s, hs⟩ : ∃ s, s = Mp.sum (fun i => Co.del k (Tr.l xs i)) (i) := ⟨_, rfl⟩
          obtain ⟨g, hg⟩ : ∃ g, g = Co.del k (Tr.l xs i) := ⟨_, rfl⟩
          rw [← hs] at bd1 hst
          rw [← hg] at bd2 hst
          have a1 : IntKind.i64.wrap (s + g) = s + g := Kit.w64 (by omega) (by omega)
          have k0 : (0 : Int) ≤ (i : Int) := by omega
          have k1 : (i : Int) < (n : Int) := by omega
          have HST := Lib.hid hst
          have CC := Lib.hid (fun (wq : World) (hq : Below wc.heap.size wc wq) => show Calls Try.prog 32 #[.agg #[.slice K0 n0 c0, .slice K1 n1 c1, .slice K2 n2 c2], .int .i64 (Tr.l xs i)] wq fun e w' => e = .returned (.int .i64 g) ∧ Below wq.heap.size wq w' from by rw [hg]; exact CD.out _ wq hq)
          obtain ⟨lc, ld⟩ := (HA.out.to_below HR.out).here (k := i) hlt
          obtain ⟨wz, hwz⟩ : ∃ wz, wz = wr.alloc (.cells #[.int .i64 (Tr.l xs i), .int .i64 (Tr.d xs i)] 42) := ⟨_, rfl⟩
          have BZ := Lib.hid (show Below wr.heap.size wr wz by rw [hwz]; exact (Below.refl _ _).alloc (Nat.le_refl _) _)
          obtain ⟨r0, r1⟩ := (show Bx2 wz wr.heap.size (Tr.l xs i) (Tr.d xs i) by rw [hwz]; exact Bx2.made _ _ _ _)
          have H3 := Lib.hid (HR.out.trans (BZ.out.mono HR.out.size))
          obtain ⟨bx0, bx1, bx2⟩ := HBX.out wz H3.out
          have HZ := Lib.hid hwz
          rw [hwz] at bx0 bx1 bx2 r0 r1
          rw [← hs]
          clear hst hs bd1 bd2 hg hwz
          as_aux_lemma =>
            go_wp2_with fail
            rw [← HZ.out]
            clear lc ld
            refine (CC.out wz H3.out).mono ?_
            rintro e w5 ⟨rfl, hb5⟩
            have HR2 := Lib.hid (H3.out.trans (hb5.mono H3.out.size))
            clear hb5 r0 r1 bx0 bx1 bx2
            go_wp2
            go_roundw
            case rel => exact ⟨i + 1, by omega, by go_num, by rw [HST.out], HR2.out⟩
            case measure => simp [intOf]; omega
        · obtain rfl : n = i := by omega
          obtain ⟨sx, hsx⟩ : ∃ sx, sx = Mp.sum (fun i => Co.del k (Tr.l xs i)) n := ⟨_, rfl⟩
          have bx := Mp.sum_bound (f := (fun i => Co.del k (Tr.l xs i))) (fun i => (Co.nonneg' k).1 _) n
          rw [← hsx] at bx ⊢
          have HX := X.out
          have HLX := HL.out
          have BX := Lib.hid (show 0 ≤ sx ∧ sx ≤ 24000 by omega)
          have HSX := Lib.hid (show Mp.sum (fun i => Co.del k (Tr.l xs i)) xs.length = sx by rw [HL.out]; exact hsx.symm)
          have HRX := Lib.hid True.intro
          clear hsx bx hlt hi HX HLX
          have sb2 := Lib.hid (fun (j : Nat) (hj : j ≤ n') => (show 0 ≤ sx + Mp.sum (fun j => Co.ins k (Tr.l ys j)) j ∧ sx + Mp.sum (fun j => Co.ins k (Tr.l ys j)) j ≤ 48000 by have h := Mp.sum_bound (f := (fun j => Co.ins k (Tr.l ys j))) (fun i => (Co.nonneg' k).2.1 _) j; have := Y.out; have := HL'.out; have := BX.out; omega))
          go_wp2
          go_loopw [9, 43] (fun sv iv wr => ∃ j : Nat, j ≤ n' ∧ iv = .int .i64 j ∧ sv = .int .i64 (sx + Mp.sum (fun j => Co.ins k (Tr.l ys j)) (j)) ∧ Below wc.heap.size wc wr) (fun _ iv _ => n' - (intOf iv).toNat)
          case atStart => exact ⟨0, by omega, rfl, by simp [Mp.sum], HR.out⟩
          case round =>
            clear HRX
            obtain ⟨j, hi, rfl, rfl, hR⟩ := hrel
            have HR := Lib.hid hR
            clear hR
            by_cases hlt : j < n'
            · have bd1 := sb2.out j hi
              have bd2 := (Co.nonneg' k).2.1 (Tr.l ys j)
              have hst : sx + Mp.sum (fun j => Co.ins k (Tr.l ys j)) (j + 1) = sx + Mp.sum (fun j => Co.ins k (Tr.l ys j)) (j) + Co.ins k (Tr.l ys j) := (Int.add_assoc _ _ _).symm
              obtain ⟨s, hs⟩ : ∃ s, s = sx + Mp.sum (fun j => Co.ins k (Tr.l ys j)) (j) := ⟨_, rfl⟩
              obtain ⟨g, hg⟩ : ∃ g, g = Co.ins k (Tr.l ys j) := ⟨_, rfl⟩
              rw [← hs] at bd1 hst
              rw [← hg] at bd2 hst
              have a1 : IntKind.i64.wrap (s + g) = s + g := Kit.w64 (by omega) (by omega)
              have k0 : (0 : Int) ≤ (j : Int) := by omega
              have k1 : (j : Int) < (n' : Int) := by omega
              have HST := Lib.hid hst
              have CC := Lib.hid (fun (wq : World) (hq : Below wc.heap.size wc wq) => show Calls Try.prog 33 #[.agg #[.slice K0 n0 c0, .slice K1 n1 c1, .slice K2 n2 c2], .int .i64 (Tr.l ys j)] wq fun e w' => e = .returned (.int .i64 g) ∧ Below wq.heap.size wq w' from by rw [hg]; exact CI.out _ wq hq)
              obtain ⟨lc, ld⟩ := (HB.out.to_below HR.out).here (k := j) hlt
              obtain ⟨wz, hwz⟩ : ∃ wz, wz = wr.alloc (.cells #[.int .i64 (Tr.l ys j), .int .i64 (Tr.d ys j)] 42) := ⟨_, rfl⟩
              have BZ := Lib.hid (show Below wr.heap.size wr wz by rw [hwz]; exact (Below.refl _ _).alloc (Nat.le_refl _) _)
              obtain ⟨r0, r1⟩ := (show Bx2 wz wr.heap.size (Tr.l ys j) (Tr.d ys j) by rw [hwz]; exact Bx2.made _ _ _ _)
              have H3 := Lib.hid (HR.out.trans (BZ.out.mono HR.out.size))
              obtain ⟨bx0, bx1, bx2⟩ := HBX.out wz H3.out
              have HZ := Lib.hid hwz
              rw [hwz] at bx0 bx1 bx2 r0 r1
              rw [← hs]
              clear hst hs bd1 bd2 hg hwz
              as_aux_lemma =>
                go_wp2_with fail
                rw [← HZ.out]
                clear lc ld
                refine (CC.out wz H3.out).mono ?_
                rintro e w5 ⟨rfl, hb5⟩
                have HR2 := Lib.hid (H3.out.trans (hb5.mono H3.out.size))
                clear hb5 r0 r1 bx0 bx1 bx2
                go_wp2
                go_roundw
                case rel => exact ⟨j + 1, by omega, by go_num, by rw [HST.out], HR2.out⟩
                case measure => simp [intOf]; omega
            · obtain rfl : n' = j := by omega
              obtain ⟨s0, hs0⟩ : ∃ s0, s0 = sx + Mp.sum (fun j => Co.ins k (Tr.l ys j)) n' := ⟨_, rfl⟩
              have HP0 := Lib.hid (show Mp.part xs ys k ms 0 = s0 by rw [Mp.part_zero, HSX.out, HL'.out, hs0])
              rw [← hs0]
              clear hs0 hlt hi
              go_wp2
              go_loopw [9, 56] (fun sv iv wr => ∃ m : Nat, m ≤ n'' ∧ iv = .int .i64 m ∧ sv = .int .i64 (Mp.part xs ys k ms m) ∧ Below wc.heap.size wc wr) (fun _ iv _ => n'' - (intOf iv).toNat)
              case atStart => exact ⟨0, by omega, rfl, by rw [HP0.out], HR.out⟩
              case round =>
                clear HR
                obtain ⟨m, hm, rfl, rfl, hR⟩ := hrel
                have HR := Lib.hid hR
                clear hR
                by_cases hlt : m < n''
                · have hml : m < ms.length := by rw [HN2.out]; exact hlt
                  have hok := HOA.out m hml
                  obtain ⟨a, b, ha, hb, ea, eb⟩ := Mp.pair_at hok
                  have hst := Mp.part_succ (k := k) hml hok ea eb
                  have bd1 := Mp.part_bound (k := k) (ms := ms) X.out.2 Y.out.2 m
                  have bd2 := Mp.part_bound (k := k) (ms := ms) X.out.2 Y.out.2 (m + 1)
                  have bd3 := (Co.nonneg' k).2.2 (Tr.l xs a) (Tr.l ys b)
                  have bd4 := (Co.nonneg' k).1 (Tr.l xs a)
                  have bd5 := (Co.nonneg' k).2.1 (Tr.l ys b)
                  obtain ⟨s, hs⟩ : ∃ s, s = Mp.part xs ys k ms m := ⟨_, rfl⟩
                  obtain ⟨r, hr⟩ : ∃ r, r = Co.rel k (Tr.l xs a) (Tr.l ys b) := ⟨_, rfl⟩
                  obtain ⟨dl, hdl⟩ : ∃ dl, dl = Co.del k (Tr.l xs a) := ⟨_, rfl⟩
                  obtain ⟨il, hil⟩ : ∃ il, il = Co.ins k (Tr.l ys b) := ⟨_, rfl⟩
                  rw [← hs] at bd1 hst
                  rw [← hr] at bd3 hst
                  rw [← hdl] at bd4 hst
                  rw [← hil] at bd5 hst
                  have a1 : IntKind.i64.wrap (r - dl) = r - dl := Kit.w64 (by omega) (by omega)
                  have a2 : IntKind.i64.wrap (r - dl - il) = r - dl - il := Kit.w64 (by omega) (by omega)
                  have a3 : IntKind.i64.wrap (s + (r - dl - il)) = s + (r - dl - il) := Kit.w64 (by omega) (by omega)
                  have HST := Lib.hid hst
                  have C1 := Lib.hid (fun (wq : World) (hq : Below wc.heap.size wc wq) => show Calls Try.prog 70 #[.agg #[.slice K0 n0 c0, .slice K1 n1 c1, .slice K2 n2 c2], .int .i64 (Tr.l xs a), .int .i64 (Tr.l ys b)] wq fun e w' => e = .returned (.int .i64 r) ∧ Below wq.heap.size wq w' from by rw [hr]; exact CR.out _ _ wq hq)
                  have C2 := Lib.hid (fun (wq : World) (hq : Below wc.heap.size wc wq) => show Calls Try.prog 32 #[.agg #[.slice K0 n0 c0, .slice K1 n1 c1, .slice K2 n2 c2], .int .i64 (Tr.l xs a)] wq fun e w' => e = .returned (.int .i64 dl) ∧ Below wq.heap.size wq w' from by rw [hdl]; exact CD.out _ wq hq)
                  have C3 := Lib.hid (fun (wq : World) (hq : Below wc.heap.size wc wq) => show Calls Try.prog 33 #[.agg #[.slice K0 n0 c0, .slice K1 n1 c1, .slice K2 n2 c2], .int .i64 (Tr.l ys b)] wq fun e w' => e = .returned (.int .i64 il) ∧ Below wq.heap.size wq w' from by rw [hil]; exact CI.out _ wq hq)
                  obtain ⟨md, rfl, _, lc, ld⟩ := (HM.out.to_below HR.out).at_ (k := m) hlt
                  rw [ea] at lc
                  rw [eb] at ld
                  obtain ⟨wz, hwz⟩ : ∃ wz, wz = wr.alloc (.cells #[.int .i64 (a : Int), .int .i64 (b : Int)] 55) := ⟨_, rfl⟩
                  have BZ := Lib.hid (show Below wr.heap.size wr wz by rw [hwz]; exact (Below.refl _ _).alloc (Nat.le_refl _) _)
                  obtain ⟨r0, r1⟩ := (show Bx2 wz wr.heap.size (a : Int) (b : Int) by rw [hwz]; exact Bx2.made _ _ _ _)
                  have H3 := Lib.hid (HR.out.trans (BZ.out.mono HR.out.size))
                  have han : a < n := by rw [← HL.out]; exact ha
                  have hbn : b < n' := by rw [← HL'.out]; exact hb
                  have la := ((HA.out.to_below H3.out).here (k := a) han).1
                  have lb := ((HB.out.to_below H3.out).here (k := b) hbn).1
                  have HZ := Lib.hid hwz
                  have k0 : (0 : Int) ≤ (m : Int) := by omega
                  have k1 : (m : Int) < (n'' : Int) := by omega
                  have k2 : (0 : Int) ≤ (a : Int) := by omega
                  have k3 : (a : Int) < (n : Int) := by omega
                  have k4 : (0 : Int) ≤ (b : Int) := by omega
                  have k5 : (b : Int) < (n' : Int) := by omega
                  rw [← hs]
                  clear hst hs bd1 bd2 bd3 bd4 bd5 hr hdl hil hwz ea eb hok hml
                  as_aux_lemma =>
                    go_wp2_with fail
                    rw [← HZ.out]
                    clear lc ld
                    (try go_wp2_with fail)
                    go_quiet (fail)
                    go_wp2_with fail
                    obtain ⟨wy, hwy⟩ : ∃ wy, wy = wz.drewN nq := ⟨_, rfl⟩
                    rw [← hwy]
                    have H4 := Lib.hid (show Below wc.heap.size wc wy by rw [hwy]; exact H3.out.trans ((((Drawn.refl _).drewN nq).toBelow).mono H3.out.size))
                    clear hwy
                    have C1 := Lib.hid (fun (wq : World) (hq : Below wy.heap.size wy wq) => C1.out wq (H4.out.trans (hq.mono H4.out.size)))
                    have C2 := Lib.hid (fun (wq : World) (hq : Below wy.heap.size wy wq) => C2.out wq (H4.out.trans (hq.mono H4.out.size)))
                    have C3 := Lib.hid (fun (wq : World) (hq : Below wy.heap.size wy wq) => C3.out wq (H4.out.trans (hq.mono H4.out.size)))
                    obtain ⟨bx0, bx1, bx2⟩ := HBX.out wy H4.out
                    have S0 := Lib.hid (show ((wy.drew.cell? ⟨w.heap.size, 0, none⟩ = some (.slice K0 n0 c0) ∧ wy.drew.cell? ⟨w.heap.size, 1, none⟩ = some (.slice K1 n1 c1) ∧ wy.drew.cell? ⟨w.heap.size, 2, none⟩ = some (.slice K2 n2 c2)) ∧ (wy.drew.cell? ⟨w.heap.size, 0, none⟩ = some (.slice K0 n0 c0) ∧ wy.drew.cell? ⟨w.heap.size, 0, none⟩ = some (.slice K0 n0 c0))) ∧ BelA wy wy.drew from ⟨⟨⟨bx0, bx1, bx2⟩, bx0, bx0⟩, (Drawn.refl _).drew.toBelow⟩)
                    clear bx0 bx1 bx2 la lb r0 r1
                    (try go_wp2_with fail)
                    go_region_held3 (fun wq => ((wq.cell? ⟨w.heap.size, 0, none⟩ = some (.slice K0 n0 c0) ∧ wq.cell? ⟨w.heap.size, 1, none⟩ = some (.slice K1 n1 c1) ∧ wq.cell? ⟨w.heap.size, 2, none⟩ = some (.slice K2 n2 c2)) ∧ (wq.cell? ⟨w.heap.size, 0, none⟩ = some (.slice K0 n0 c0) ∧ wq.cell? ⟨w.heap.size, 0, none⟩ = some (.slice K0 n0 c0))) ∧ BelA wy wq) (first | (with_reducible exact SC) | (with_reducible exact S0.out)) (first | ((go_at_call 70; with_reducible refine (C1.out _ (fv_below (by assumption))).mono ?_); rintro e w5 ⟨rfl, hb5⟩; have SC := fv_keep (by assumption) hb5) | ((go_at_call 32; with_reducible refine (C2.out _ (fv_below (by assumption))).mono ?_); rintro e w5 ⟨rfl, hb5⟩; have SC := fv_keep (by assumption) hb5) | ((go_at_call 33; with_reducible refine (C3.out _ (fv_below (by assumption))).mono ?_); rintro e w5 ⟨rfl, hb5⟩; have SC := fv_keep (by assumption) hb5))
                    have HR2 := Lib.hid (H4.out.trans ((fv_below SC).mono H4.out.size))
                    go_wp2
                    go_roundw
                    case rel => exact ⟨m + 1, by omega, by go_num, by rw [HST.out], HR2.out⟩
                    case measure => simp [intOf]; omega
                · obtain rfl : n'' = m := by omega
                  have Hg := Lib.hid (show Mp.cost xs ys k ms = Mp.part xs ys k ms n'' by rw [Hf.out, HN2.out])
                  go_wp2
                  go_ret
                  exact ⟨Kit.ret_int Hg.out.symm, HBC.out.trans (HR.out.mono HBC.out.size)⟩

end Go.Proofs.Ytlndaflhlkbedaa
