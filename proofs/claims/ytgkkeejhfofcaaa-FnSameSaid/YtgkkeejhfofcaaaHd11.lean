/- Texts of one claim laid into one file, in build order: MapI. -/
import Derived.Test.YtgkkeejhfofcaaaHd10
import Derived.Test.YtgkkeejhfofcaaaHd8
import Derived.Test.YtgkkeejhfofcaaaHd9
import Derived.Deep.RegionHeld3
import Derived.Outline
import Derived.Test.YtgkkeejhfofcaaaRows
/- Contracts (MapI). -/
namespace Go.Proofs.Ytgkkeejhfofcaaa
open Go.RowKit
set_option linter.unusedVariables false

set_option maxHeartbeats 3200000 in
set_option maxRecDepth 100000 in
theorem implMapOk_any (A A' A'' : Option Addr) (n n' n'' c c' c'' : Nat) (xs ys ms : Tr) (w : World) (h : NdIn w w.heap.size A n xs) (h' : NdIn w w.heap.size A' n' ys) (h'' : NdIn w w.heap.size A'' n'' ms) (hn : n ≤ 1048576) (hn' : n' ≤ 1048576) (hn'' : n'' ≤ 1048576) (hc : n ≤ c) (hc' : n' ≤ c') (hc'' : n'' ≤ c'') :
    Calls Try.prog 62 #[.slice A n c, .slice A' n' c', .slice A'' n'' c''] w fun e w' => e = .returned (.bool (Mp.ok xs ys ms)) ∧ Below w.heap.size w w' := by
  have H := Lib.hid h
  have H' := Lib.hid h'
  have H2 := Lib.hid h''
  clear h h' h''
  have HL := Lib.hid H2.out.1
  obtain ⟨o1, ho1⟩ : ∃ b, b = Tr.ok xs := ⟨_, rfl⟩
  obtain ⟨o2, ho2⟩ : ∃ b, b = Tr.ok ys := ⟨_, rfl⟩
  have C1 := Lib.hid (show Calls Try.prog 72 #[.slice A n c] w fun e w' => e = .returned (.bool o1) ∧ Below w.heap.size w w' from by rw [ho1]; exact implTreeOk_any _ _ _ xs _ H.out hn hc)
  have C2 := Lib.hid (fun (wq : World) (hq : Below w.heap.size w wq) => show Calls Try.prog 72 #[.slice A' n' c'] wq fun e w' => e = .returned (.bool o2) ∧ Below wq.heap.size wq w' from by rw [ho2]; exact implTreeOk_any _ _ _ ys _ (H'.out.to_below hq) hn' hc')
  have HO1 := Lib.hid ho1
  have HO2 := Lib.hid ho2
  clear ho1 ho2
  cases o1 with
  | false =>
    have hf := Lib.hid (show Mp.ok xs ys ms = false by unfold Mp.ok; rw [← HO1.out]; rfl)
    as_aux_lemma =>
      go_enter Try.func62, Try.ntmps62
      go_wp2_with fail
      refine C1.out.mono ?_
      rintro e w1 ⟨rfl, hb1⟩
      go_wp2
      go_ret
      exact ⟨Kit.ret_bool hf.out.symm, hb1⟩
  | true =>
    cases o2 with
    | false =>
      have hf := Lib.hid (show Mp.ok xs ys ms = false by unfold Mp.ok; rw [← HO2.out, Bool.and_false]; rfl)
      as_aux_lemma =>
        go_enter Try.func62, Try.ntmps62
        go_wp2_with fail
        refine C1.out.mono ?_
        rintro e w1 ⟨rfl, hb1⟩
        have HB := Lib.hid hb1
        clear hb1
        go_wp2_with fail
        refine (C2.out _ HB.out).mono ?_
        rintro e w2 ⟨rfl, hb2⟩
        have HE := Lib.hid (HB.out.trans (hb2.mono HB.out.size))
        clear hb2
        go_wp2
        go_ret
        exact ⟨Kit.ret_bool hf.out.symm, HE.out⟩
    | true =>
      go_enter Try.func62, Try.ntmps62
      go_wp2_with fail
      refine C1.out.mono ?_
      rintro e w1 ⟨rfl, hb1⟩
      have HB := Lib.hid hb1
      clear hb1
      go_wp2_with fail
      refine (C2.out _ HB.out).mono ?_
      rintro e w2 ⟨rfl, hb2⟩
      have HB0 := Lib.hid (HB.out.trans (hb2.mono HB.out.size))
      clear hb2 HB
      go_wp2
      go_loopw [19] (fun iv wr => ∃ k : Nat, k ≤ n'' ∧ iv = .int .i64 k ∧ (∀ q, q < k → Mp.okAt xs ys ms q = true) ∧ Below w.heap.size w wr) (fun i _ => n'' - (intOf i).toNat)
      case atStart => exact ⟨0, by omega, rfl, fun q hq => absurd hq (by omega), HB0.out⟩
      case round =>
        obtain ⟨k, hk, rfl, hgood, hB⟩ := hrel
        have HG := Lib.hid hgood
        clear hgood
        by_cases hlt : k < n''
        · obtain ⟨ad, rfl, hb, hl, hd⟩ := (H2.out.below hB).at_ (k := k) hlt
          have hk0 : (0 : Int) ≤ (k : Int) := by omega
          have hklt : (k : Int) < (n'' : Int) := by omega
          have hkc : (k : Int) ≤ (c'' : Int) := by omega
          have HK := Lib.hid (show k < ms.length by rw [HL.out]; exact hlt)
          obtain ⟨wz, hwz⟩ : ∃ wz, wz = wr.alloc (.cells #[.int .i64 (Tr.l ms k), .int .i64 (Tr.d ms k)] 124) := ⟨_, rfl⟩
          have BZ := Lib.hid (show Below wr.heap.size wr wz by rw [hwz]; exact (Below.refl _ _).alloc (Nat.le_refl _) _)
          have HQ := Lib.hid (show Bx2 wz wr.heap.size (Tr.l ms k) (Tr.d ms k) by rw [hwz]; exact Bx2.made _ _ _ _)
          have HB := Lib.hid (hB.trans (BZ.out.mono hB.size))
          have HZ := Lib.hid hwz
          have HS := Lib.hid (show w.heap.size ≤ wz.heap.size from HB.out.size)
          clear hwz hB
          obtain ⟨b1, hb1⟩ : ∃ b, b = Tr.has xs (Tr.l ms k) := ⟨_, rfl⟩
          obtain ⟨b2, hb2⟩ : ∃ b, b = Tr.has ys (Tr.d ms k) := ⟨_, rfl⟩
          obtain ⟨b3, hb3⟩ : ∃ b, b = Mp.after xs ys ms k (Tr.l ms k) (Tr.d ms k) := ⟨_, rfl⟩
          have QA := Lib.hid (fun (wq : World) (hq : Below wz.heap.size wz wq) => show Calls Try.prog 117 #[.slice A n c, .int .i64 (Tr.l ms k)] wq fun e w' => e = .returned (.bool b1) ∧ Below wq.heap.size wq w' from by rw [hb1]; exact hasNode_any _ _ _ xs _ _ (H.out.to_below (HB.out.trans (hq.mono HS.out))) hn hc)
          have QB := Lib.hid (fun (wq : World) (hq : Below wz.heap.size wz wq) => show Calls Try.prog 117 #[.slice A' n' c', .int .i64 (Tr.d ms k)] wq fun e w' => e = .returned (.bool b2) ∧ Below wq.heap.size wq w' from by rw [hb2]; exact hasNode_any _ _ _ ys _ _ (H'.out.to_below (HB.out.trans (hq.mono HS.out))) hn' hc')
          have QC := Lib.hid (fun (wq : World) (hq : Below wz.heap.size wz wq) => show Calls Try.prog 118 #[.slice A n c, .slice A' n' c', .slice (some ad) k c'', .agg #[.int .i64 (Tr.l ms k), .int .i64 (Tr.d ms k)]] wq fun e w' => e = .returned (.bool b3) ∧ Below wq.heap.size wq w' from by
            rw [hb3, ← Mp.after_take]
            exact pairFits_any _ _ _ _ _ _ _ _ _ xs ys (ms.take k) _ _ _ (H.out.to_below (HB.out.trans (hq.mono HS.out))) (H'.out.to_below (HB.out.trans (hq.mono HS.out))) ((H2.out.to_below (HB.out.trans (hq.mono HS.out))).head hk) hn hn' (by omega) hc hc')
          have HB1 := Lib.hid hb1
          have HB2 := Lib.hid hb2
          have HB3 := Lib.hid hb3
          clear hb1 hb2 hb3
          cases b1 with
          | false =>
            have hf := Lib.hid (Mp.ok_no HK.out (Mp.no_a HB1.out.symm) : Mp.ok xs ys ms = false)
            as_aux_lemma =>
              go_wp2_with fail
              rw [← HZ.out]
              have S0 : (wz.drew.cell? ⟨wr.heap.size, 0, none⟩ = some (.int .i64 (Tr.l ms k)) ∧ wz.drew.cell? ⟨wr.heap.size, 1, none⟩ = some (.int .i64 (Tr.d ms k))) ∧ BelA wz wz.drew := ⟨⟨HQ.out.1, HQ.out.2⟩, (Drawn.refl _).drew.toBelow⟩
              refine wp_region_held_drew (S := (fun wq => (wq.cell? ⟨wr.heap.size, 0, none⟩ = some (.int .i64 (Tr.l ms k)) ∧ wq.cell? ⟨wr.heap.size, 1, none⟩ = some (.int .i64 (Tr.d ms k))) ∧ BelA wz wq)) (by kernel_rfl) S0 (fun hHeld => ?_)
              refine rg_take (i := 0) (v := ?_) rfl (by kernel_rfl) (by kernel_rfl) (by kernel_rfl) (fun _ _ _ h => h) (by rfl) ?_ (by assumption) ?_
              rotate_left
              · intro w hSw
                (try dsimp only at hSw)
                go_simp
                (try with_reducible rfl)
              (try simp only [Act.put, List.setIfInBounds_toArray, List.set_cons_zero, List.set_cons_succ])
              refine rg_take (i := 1) (v := ?_) rfl (by kernel_rfl) (by kernel_rfl) (by kernel_rfl) (fun _ _ _ h => h) (by rfl) ?_ (by assumption) ?_
              rotate_left
              · intro w hSw
                (try dsimp only at hSw)
                go_simp
                (try with_reducible rfl)
              (try simp only [Act.put, List.setIfInBounds_toArray, List.set_cons_zero, List.set_cons_succ])
              refine rg_take (i := 2) (v := ?_) rfl (by kernel_rfl) (by kernel_rfl) (by kernel_rfl) (fun _ _ _ h => h) (by rfl) ?_ (by assumption) ?_
              rotate_left
              · intro w hSw
                (try dsimp only at hSw)
                go_simp
                (try with_reducible rfl)
              (try simp only [Act.put, List.setIfInBounds_toArray, List.set_cons_zero, List.set_cons_succ])
              refine rg_one (i := 3) rfl (by kernel_rfl) (fun K hK => ?_)
              go_simp
              go_at_call 117
              refine (QA.out _ (p2_below (by assumption))).mono ?_
              rintro e w5 ⟨rfl, hb5⟩
              have SC := p2_keep (by assumption) hb5
              go_wp2_with fail
              refine hK.out _ _ SC (fun hHeld => ?_)
              clear hK K
              (try simp only [Act.put, List.setIfInBounds_toArray, List.set_cons_zero, List.set_cons_succ])
              refine rg_take (i := 4) (v := ?_) rfl (by kernel_rfl) (by kernel_rfl) (by kernel_rfl) (fun _ _ _ h => h) (by rfl) ?_ (by assumption) ?_
              rotate_left
              · intro w hSw
                (try dsimp only at hSw)
                go_simp
                (try with_reducible rfl)
              (try simp only [Act.put, List.setIfInBounds_toArray, List.set_cons_zero, List.set_cons_succ])
              refine rg_take (i := 5) (v := ?_) rfl (by kernel_rfl) (by kernel_rfl) (by kernel_rfl) (fun _ _ _ h => h) (by rfl) ?_ (by assumption) ?_
              rotate_left
              · intro w hSw
                (try dsimp only at hSw)
                go_simp
                (try with_reducible rfl)
              (try simp only [Act.put, List.setIfInBounds_toArray, List.set_cons_zero, List.set_cons_succ])
              refine rg_skip (i := 6) rfl (by kernel_rfl) (by kernel_rfl) (by kernel_rfl) (fun _ _ _ h => h) (by rfl) (by assumption) ?_
              (try simp only [Act.put, List.setIfInBounds_toArray, List.set_cons_zero, List.set_cons_succ])
              refine rg_skip (i := 7) rfl (by kernel_rfl) (by kernel_rfl) (by kernel_rfl) (fun _ _ _ h => h) (by rfl) (by assumption) ?_
              (try simp only [Act.put, List.setIfInBounds_toArray, List.set_cons_zero, List.set_cons_succ])
              refine rg_skip (i := 8) rfl (by kernel_rfl) (by kernel_rfl) (by kernel_rfl) (fun _ _ _ h => h) (by rfl) (by assumption) ?_
              (try simp only [Act.put, List.setIfInBounds_toArray, List.set_cons_zero, List.set_cons_succ])
              refine rg_skip (i := 9) rfl (by kernel_rfl) (by kernel_rfl) (by kernel_rfl) (fun _ _ _ h => h) (by rfl) (by assumption) ?_
              (try simp only [Act.put, List.setIfInBounds_toArray, List.set_cons_zero, List.set_cons_succ])
              refine rg_skip (i := 10) rfl (by kernel_rfl) (by kernel_rfl) (by kernel_rfl) (fun _ _ _ h => h) (by rfl) (by assumption) ?_
              (try simp only [Act.put, List.setIfInBounds_toArray, List.set_cons_zero, List.set_cons_succ])
              refine rg_take (i := 11) (v := ?_) rfl (by kernel_rfl) (by kernel_rfl) (by kernel_rfl) (fun _ _ _ h => h) (by rfl) ?_ (by assumption) ?_
              rotate_left
              · intro w hSw
                (try dsimp only at hSw)
                go_simp
                (try with_reducible rfl)
              (try simp only [Act.put, List.setIfInBounds_toArray, List.set_cons_zero, List.set_cons_succ])
              refine rg_take (i := 12) (v := ?_) rfl (by kernel_rfl) (by kernel_rfl) (by kernel_rfl) (fun _ _ _ h => h) (by rfl) ?_ (by assumption) ?_
              rotate_left
              · intro w hSw
                (try dsimp only at hSw)
                go_simp
                (try with_reducible rfl)
              (try simp only [Act.put, List.setIfInBounds_toArray, List.set_cons_zero, List.set_cons_succ])
              refine rg_skip (i := 13) rfl (by kernel_rfl) (by kernel_rfl) (by kernel_rfl) (fun _ _ _ h => h) (by rfl) (by assumption) ?_
              (try simp only [Act.put, List.setIfInBounds_toArray, List.set_cons_zero, List.set_cons_succ])
              refine rg_skip (i := 14) rfl (by kernel_rfl) (by kernel_rfl) (by kernel_rfl) (fun _ _ _ h => h) (by rfl) (by assumption) ?_
              (try simp only [Act.put, List.setIfInBounds_toArray, List.set_cons_zero, List.set_cons_succ])
              refine rg_skip (i := 15) rfl (by kernel_rfl) (by kernel_rfl) (by kernel_rfl) (fun _ _ _ h => h) (by rfl) (by assumption) ?_
              (try simp only [Act.put, List.setIfInBounds_toArray, List.set_cons_zero, List.set_cons_succ])
              refine rg_skip (i := 16) rfl (by kernel_rfl) (by kernel_rfl) (by kernel_rfl) (fun _ _ _ h => h) (by rfl) (by assumption) ?_
              (try simp only [Act.put, List.setIfInBounds_toArray, List.set_cons_zero, List.set_cons_succ])
              refine rg_skip (i := 17) rfl (by kernel_rfl) (by kernel_rfl) (by kernel_rfl) (fun _ _ _ h => h) (by rfl) (by assumption) ?_
              (try simp only [Act.put, List.setIfInBounds_toArray, List.set_cons_zero, List.set_cons_succ])
              refine rg_skip (i := 18) rfl (by kernel_rfl) (by kernel_rfl) (by kernel_rfl) (fun _ _ _ h => h) (by rfl) (by assumption) ?_
              (try simp only [Act.put, List.setIfInBounds_toArray, List.set_cons_zero, List.set_cons_succ])
              refine rg_skip (i := 19) rfl (by kernel_rfl) (by kernel_rfl) (by kernel_rfl) (fun _ _ _ h => h) (by rfl) (by assumption) ?_
              (try simp only [Act.put, List.setIfInBounds_toArray, List.set_cons_zero, List.set_cons_succ])
              refine rg_skip (i := 20) rfl (by kernel_rfl) (by kernel_rfl) (by kernel_rfl) (fun _ _ _ h => h) (by rfl) (by assumption) ?_
              (try simp only [Act.put, List.setIfInBounds_toArray, List.set_cons_zero, List.set_cons_succ])
              refine rg_take (i := 21) (v := ?_) rfl (by kernel_rfl) (by kernel_rfl) (by kernel_rfl) (fun _ _ _ h => h) (by rfl) ?_ (by assumption) ?_
              rotate_left
              · intro w hSw
                (try dsimp only at hSw)
                go_simp
                (try with_reducible rfl)
              (try simp only [Act.put, List.setIfInBounds_toArray, List.set_cons_zero, List.set_cons_succ])
              refine wpAnyH_done (by kernel_rfl) ?_ _
              have HE := Lib.hid (HB.out.trans ((p2_below SC).mono HB.out.size))
              go_wp2
              go_ret
              exact ⟨Kit.ret_bool hf.out.symm, HE.out⟩
          | true =>
            cases b2 with
            | false =>
              have hf := Lib.hid (Mp.ok_no HK.out (Mp.no_b HB2.out.symm) : Mp.ok xs ys ms = false)
              as_aux_lemma =>
                go_wp2_with fail
                rw [← HZ.out]
                have S0 : (wz.drew.cell? ⟨wr.heap.size, 0, none⟩ = some (.int .i64 (Tr.l ms k)) ∧ wz.drew.cell? ⟨wr.heap.size, 1, none⟩ = some (.int .i64 (Tr.d ms k))) ∧ BelA wz wz.drew := ⟨⟨HQ.out.1, HQ.out.2⟩, (Drawn.refl _).drew.toBelow⟩
                refine wp_region_held_drew (S := (fun wq => (wq.cell? ⟨wr.heap.size, 0, none⟩ = some (.int .i64 (Tr.l ms k)) ∧ wq.cell? ⟨wr.heap.size, 1, none⟩ = some (.int .i64 (Tr.d ms k))) ∧ BelA wz wq)) (by kernel_rfl) S0 (fun hHeld => ?_)
                refine rg_take (i := 0) (v := ?_) rfl (by kernel_rfl) (by kernel_rfl) (by kernel_rfl) (fun _ _ _ h => h) (by rfl) ?_ (by assumption) ?_
                rotate_left
                · intro w hSw
                  (try dsimp only at hSw)
                  go_simp
                  (try with_reducible rfl)
                (try simp only [Act.put, List.setIfInBounds_toArray, List.set_cons_zero, List.set_cons_succ])
                refine rg_take (i := 1) (v := ?_) rfl (by kernel_rfl) (by kernel_rfl) (by kernel_rfl) (fun _ _ _ h => h) (by rfl) ?_ (by assumption) ?_
                rotate_left
                · intro w hSw
                  (try dsimp only at hSw)
                  go_simp
                  (try with_reducible rfl)
                (try simp only [Act.put, List.setIfInBounds_toArray, List.set_cons_zero, List.set_cons_succ])
                refine rg_take (i := 2) (v := ?_) rfl (by kernel_rfl) (by kernel_rfl) (by kernel_rfl) (fun _ _ _ h => h) (by rfl) ?_ (by assumption) ?_
                rotate_left
                · intro w hSw
                  (try dsimp only at hSw)
                  go_simp
                  (try with_reducible rfl)
                (try simp only [Act.put, List.setIfInBounds_toArray, List.set_cons_zero, List.set_cons_succ])
                refine rg_one (i := 3) rfl (by kernel_rfl) (fun K hK => ?_)
                go_simp
                go_at_call 117
                refine (QA.out _ (p2_below (by assumption))).mono ?_
                rintro e w5 ⟨rfl, hb5⟩
                have SC := p2_keep (by assumption) hb5
                go_wp2_with fail
                refine hK.out _ _ SC (fun hHeld => ?_)
                clear hK K
                (try simp only [Act.put, List.setIfInBounds_toArray, List.set_cons_zero, List.set_cons_succ])
                refine rg_take (i := 4) (v := ?_) rfl (by kernel_rfl) (by kernel_rfl) (by kernel_rfl) (fun _ _ _ h => h) (by rfl) ?_ (by assumption) ?_
                rotate_left
                · intro w hSw
                  (try dsimp only at hSw)
                  go_simp
                  (try with_reducible rfl)
                (try simp only [Act.put, List.setIfInBounds_toArray, List.set_cons_zero, List.set_cons_succ])
                refine rg_take (i := 5) (v := ?_) rfl (by kernel_rfl) (by kernel_rfl) (by kernel_rfl) (fun _ _ _ h => h) (by rfl) ?_ (by assumption) ?_
                rotate_left
                · intro w hSw
                  (try dsimp only at hSw)
                  go_simp
                  (try with_reducible rfl)
                (try simp only [Act.put, List.setIfInBounds_toArray, List.set_cons_zero, List.set_cons_succ])
                refine rg_take (i := 6) (v := ?_) rfl (by kernel_rfl) (by kernel_rfl) (by kernel_rfl) (fun _ _ _ h => h) (by rfl) ?_ (by assumption) ?_
                rotate_left
                · intro w hSw
                  (try dsimp only at hSw)
                  go_simp
                  (try with_reducible rfl)
                (try simp only [Act.put, List.setIfInBounds_toArray, List.set_cons_zero, List.set_cons_succ])
                refine rg_take (i := 7) (v := ?_) rfl (by kernel_rfl) (by kernel_rfl) (by kernel_rfl) (fun _ _ _ h => h) (by rfl) ?_ (by assumption) ?_
                rotate_left
                · intro w hSw
                  (try dsimp only at hSw)
                  go_simp
                  (try with_reducible rfl)
                (try simp only [Act.put, List.setIfInBounds_toArray, List.set_cons_zero, List.set_cons_succ])
                refine rg_take (i := 8) (v := ?_) rfl (by kernel_rfl) (by kernel_rfl) (by kernel_rfl) (fun _ _ _ h => h) (by rfl) ?_ (by assumption) ?_
                rotate_left
                · intro w hSw
                  (try dsimp only at hSw)
                  go_simp
                  (try with_reducible rfl)
                (try simp only [Act.put, List.setIfInBounds_toArray, List.set_cons_zero, List.set_cons_succ])
                refine rg_one (i := 9) rfl (by kernel_rfl) (fun K hK => ?_)
                go_simp
                go_at_call 117
                refine (QB.out _ (p2_below (by assumption))).mono ?_
                rintro e w6 ⟨rfl, hb5⟩
                have SC := p2_keep (by assumption) hb5
                go_wp2_with fail
                refine hK.out _ _ SC (fun hHeld => ?_)
                clear hK K
                (try simp only [Act.put, List.setIfInBounds_toArray, List.set_cons_zero, List.set_cons_succ])
                refine rg_take (i := 10) (v := ?_) rfl (by kernel_rfl) (by kernel_rfl) (by kernel_rfl) (fun _ _ _ h => h) (by rfl) ?_ (by assumption) ?_
                rotate_left
                · intro w hSw
                  (try dsimp only at hSw)
                  go_simp
                  (try with_reducible rfl)
                (try simp only [Act.put, List.setIfInBounds_toArray, List.set_cons_zero, List.set_cons_succ])
                refine rg_take (i := 11) (v := ?_) rfl (by kernel_rfl) (by kernel_rfl) (by kernel_rfl) (fun _ _ _ h => h) (by rfl) ?_ (by assumption) ?_
                rotate_left
                · intro w hSw
                  (try dsimp only at hSw)
                  go_simp
                  (try with_reducible rfl)
                (try simp only [Act.put, List.setIfInBounds_toArray, List.set_cons_zero, List.set_cons_succ])
                refine rg_take (i := 12) (v := ?_) rfl (by kernel_rfl) (by kernel_rfl) (by kernel_rfl) (fun _ _ _ h => h) (by rfl) ?_ (by assumption) ?_
                rotate_left
                · intro w hSw
                  (try dsimp only at hSw)
                  go_simp
                  (try with_reducible rfl)
                (try simp only [Act.put, List.setIfInBounds_toArray, List.set_cons_zero, List.set_cons_succ])
                refine rg_skip (i := 13) rfl (by kernel_rfl) (by kernel_rfl) (by kernel_rfl) (fun _ _ _ h => h) (by rfl) (by assumption) ?_
                (try simp only [Act.put, List.setIfInBounds_toArray, List.set_cons_zero, List.set_cons_succ])
                refine rg_skip (i := 14) rfl (by kernel_rfl) (by kernel_rfl) (by kernel_rfl) (fun _ _ _ h => h) (by rfl) (by assumption) ?_
                (try simp only [Act.put, List.setIfInBounds_toArray, List.set_cons_zero, List.set_cons_succ])
                refine rg_skip (i := 15) rfl (by kernel_rfl) (by kernel_rfl) (by kernel_rfl) (fun _ _ _ h => h) (by rfl) (by assumption) ?_
                (try simp only [Act.put, List.setIfInBounds_toArray, List.set_cons_zero, List.set_cons_succ])
                refine rg_skip (i := 16) rfl (by kernel_rfl) (by kernel_rfl) (by kernel_rfl) (fun _ _ _ h => h) (by rfl) (by assumption) ?_
                (try simp only [Act.put, List.setIfInBounds_toArray, List.set_cons_zero, List.set_cons_succ])
                refine rg_skip (i := 17) rfl (by kernel_rfl) (by kernel_rfl) (by kernel_rfl) (fun _ _ _ h => h) (by rfl) (by assumption) ?_
                (try simp only [Act.put, List.setIfInBounds_toArray, List.set_cons_zero, List.set_cons_succ])
                refine rg_skip (i := 18) rfl (by kernel_rfl) (by kernel_rfl) (by kernel_rfl) (fun _ _ _ h => h) (by rfl) (by assumption) ?_
                (try simp only [Act.put, List.setIfInBounds_toArray, List.set_cons_zero, List.set_cons_succ])
                refine rg_skip (i := 19) rfl (by kernel_rfl) (by kernel_rfl) (by kernel_rfl) (fun _ _ _ h => h) (by rfl) (by assumption) ?_
                (try simp only [Act.put, List.setIfInBounds_toArray, List.set_cons_zero, List.set_cons_succ])
                refine rg_skip (i := 20) rfl (by kernel_rfl) (by kernel_rfl) (by kernel_rfl) (fun _ _ _ h => h) (by rfl) (by assumption) ?_
                (try simp only [Act.put, List.setIfInBounds_toArray, List.set_cons_zero, List.set_cons_succ])
                refine rg_take (i := 21) (v := ?_) rfl (by kernel_rfl) (by kernel_rfl) (by kernel_rfl) (fun _ _ _ h => h) (by rfl) ?_ (by assumption) ?_
                rotate_left
                · intro w hSw
                  (try dsimp only at hSw)
                  go_simp
                  (try with_reducible rfl)
                (try simp only [Act.put, List.setIfInBounds_toArray, List.set_cons_zero, List.set_cons_succ])
                refine wpAnyH_done (by kernel_rfl) ?_ _
                have HE := Lib.hid (HB.out.trans ((p2_below SC).mono HB.out.size))
                go_wp2
                go_ret
                exact ⟨Kit.ret_bool hf.out.symm, HE.out⟩
            | true =>
              cases b3 with
              | false =>
                have hf := Lib.hid (Mp.ok_no HK.out (by unfold Mp.okAt; rw [← HB3.out, Bool.and_false]) : Mp.ok xs ys ms = false)
                as_aux_lemma =>
                  go_wp2_with fail
                  rw [← HZ.out]
                  have S0 := Lib.hid (show (wz.drew.cell? ⟨wr.heap.size, 0, none⟩ = some (.int .i64 (Tr.l ms k)) ∧ wz.drew.cell? ⟨wr.heap.size, 1, none⟩ = some (.int .i64 (Tr.d ms k))) ∧ BelA wz wz.drew from ⟨⟨HQ.out.1, HQ.out.2⟩, (Drawn.refl _).drew.toBelow⟩)
                  go_region_held3 (fun wq => (wq.cell? ⟨wr.heap.size, 0, none⟩ = some (.int .i64 (Tr.l ms k)) ∧ wq.cell? ⟨wr.heap.size, 1, none⟩ = some (.int .i64 (Tr.d ms k))) ∧ BelA wz wq) (first | (with_reducible exact SC) | (with_reducible exact S0.out)) (first | ((go_at_call 117; with_reducible refine (QA.out _ (p2_below (by assumption))).mono ?_); rintro e w5 ⟨rfl, hb5⟩; have SC := p2_keep (by assumption) hb5) | ((go_at_call 117; with_reducible refine (QB.out _ (p2_below (by assumption))).mono ?_); rintro e w5 ⟨rfl, hb5⟩; have SC := p2_keep (by assumption) hb5) | ((go_at_call 118; with_reducible refine (QC.out _ (p2_below (by assumption))).mono ?_); rintro e w5 ⟨rfl, hb5⟩; have SC := p2_keep (by assumption) hb5))
                  have HE := Lib.hid (HB.out.trans ((p2_below SC).mono HB.out.size))
                  go_wp2
                  go_ret
                  exact ⟨Kit.ret_bool hf.out.symm, HE.out⟩
              | true =>
                have HA := Lib.hid (by unfold Mp.okAt; rw [← HB1.out, ← HB2.out, ← HB3.out]; rfl : Mp.okAt xs ys ms k = true)
                as_aux_lemma =>
                  go_wp2_with fail
                  rw [← HZ.out]
                  have S0 := Lib.hid (show (wz.drew.cell? ⟨wr.heap.size, 0, none⟩ = some (.int .i64 (Tr.l ms k)) ∧ wz.drew.cell? ⟨wr.heap.size, 1, none⟩ = some (.int .i64 (Tr.d ms k))) ∧ BelA wz wz.drew from ⟨⟨HQ.out.1, HQ.out.2⟩, (Drawn.refl _).drew.toBelow⟩)
                  go_region_held3 (fun wq => (wq.cell? ⟨wr.heap.size, 0, none⟩ = some (.int .i64 (Tr.l ms k)) ∧ wq.cell? ⟨wr.heap.size, 1, none⟩ = some (.int .i64 (Tr.d ms k))) ∧ BelA wz wq) (first | (with_reducible exact SC) | (with_reducible exact S0.out)) (first | ((go_at_call 117; with_reducible refine (QA.out _ (p2_below (by assumption))).mono ?_); rintro e w5 ⟨rfl, hb5⟩; have SC := p2_keep (by assumption) hb5) | ((go_at_call 117; with_reducible refine (QB.out _ (p2_below (by assumption))).mono ?_); rintro e w5 ⟨rfl, hb5⟩; have SC := p2_keep (by assumption) hb5) | ((go_at_call 118; with_reducible refine (QC.out _ (p2_below (by assumption))).mono ?_); rintro e w5 ⟨rfl, hb5⟩; have SC := p2_keep (by assumption) hb5))
                  have HE := Lib.hid (HB.out.trans ((p2_below SC).mono HB.out.size))
                  go_wp2
                  go_roundw
                  case rel => exact ⟨k + 1, by omega, by go_num, fun q hq => by
                    rcases Nat.lt_succ_iff_lt_or_eq.1 hq with h' | rfl
                    · exact HG.out q h'
                    · exact HA.out, HE.out⟩
                  case measure => simp [intOf]; omega
        · obtain rfl : k = n'' := by omega
          have hf := Lib.hid ((Mp.ok_yes (fun q hq => HG.out q (by rw [← HL.out]; exact hq))).trans (by rw [← HO1.out, ← HO2.out]; rfl) : Mp.ok xs ys ms = true)
          go_wp2
          go_ret
          exact ⟨Kit.ret_bool hf.out.symm, hB⟩

end Go.Proofs.Ytgkkeejhfofcaaa
