/- Texts of one claim laid into one file, in build order: FitI, Ext, RwS. -/
import Derived.Test.YtnfjdlocmdgefaaEa1
import Derived.Test.YtnfjdlocmdgefaaEa2
import Derived.Test.YtnfjdlocmdgefaaEa3
import Derived.Test.YtnfjdlocmdgefaaEa4
import Derived.Deep.RegionHeld3
import Derived.LoopIn
import Derived.LoopNIn
import Derived.Outline
import Derived.OwnWalkIn
import Derived.Shelf.Abstract
import Derived.Shelf.RegionOpen
import Derived.TacticsInMore
import Derived.Test.YtnfjdlocmdgefaaRows
/- Contracts (FitI). -/
namespace Go.Proofs.Ytnfjdlocmdgefaa
open Go.RowKit
set_option linter.unusedVariables false

set_option maxHeartbeats 3200000 in
set_option maxRecDepth 100000 in
theorem pairFits_any (A A' A'' : Option Addr) (n n' n'' c c' c'' : Nat) (xs ys ms : Tr) (a b : Int) (w : World) (h : NdIn w w.heap.size A n xs) (h' : NdIn w w.heap.size A' n' ys) (h'' : NdIn w w.heap.size A'' n'' ms) (hn : n ≤ 1048576) (hn' : n' ≤ 1048576) (hn'' : n'' ≤ 1048576) (hc : n ≤ c) (hc' : n' ≤ c') :
    Calls Try.prog 71 #[.slice A n c, .slice A' n' c', .slice A'' n'' c'', .agg #[.int .i64 a, .int .i64 b]] w fun e w' => e = .returned (.bool (Mp.after xs ys ms n'' a b)) ∧ Below w.heap.size w w' := by
  have H := Lib.hid h
  have H' := Lib.hid h'
  have H2 := Lib.hid h''
  clear h h' h''
  have HL := Lib.hid H2.out.1
  obtain ⟨w1, hw1⟩ : ∃ w1, w1 = w.alloc (.cells #[.int .i64 a, .int .i64 b] 77) := ⟨_, rfl⟩
  have B1 := Lib.hid (show Below w.heap.size w w1 by rw [hw1]; exact (Below.refl _ _).alloc (Nat.le_refl _) _)
  have P1 := Lib.hid (show Bx2 w1 w.heap.size a b by rw [hw1]; exact Bx2.made _ _ _ _)
  have W1 := Lib.hid hw1
  clear hw1
  go_enter Try.func71, Try.ntmps71
  go_wp2
  rw [← W1.out]
  go_loopw [13] (fun iv wr => ∃ k : Nat, k ≤ n'' ∧ iv = .int .i64 k ∧ (∀ q, q < k → Mp.at xs ys ms a b q = true) ∧ Below w.heap.size w wr ∧ Bx2 wr w.heap.size a b) (fun i _ => n'' - (intOf i).toNat)
  case atStart => exact ⟨0, by omega, rfl, fun q hq => absurd hq (by omega), B1.out, P1.out⟩
  case round =>
    obtain ⟨k, hk, rfl, hgood, hB, hP⟩ := hrel
    have HG := Lib.hid hgood
    clear hgood
    by_cases hlt : k < n''
    · obtain ⟨ad, rfl, hb, hl, hd⟩ := (H2.out.below hB).at_ (k := k) hlt
      have hk0 : (0 : Int) ≤ (k : Int) := by omega
      have hklt : (k : Int) < (n'' : Int) := by omega
      obtain ⟨wz, hwz⟩ : ∃ wz, wz = wr.alloc (.cells #[.int .i64 (Tr.l ms k), .int .i64 (Tr.d ms k)] 77) := ⟨_, rfl⟩
      have BZ := Lib.hid (show Below wr.heap.size wr wz by rw [hwz]; exact (Below.refl _ _).alloc (Nat.le_refl _) _)
      have HQ := Lib.hid (show Bx2 wz wr.heap.size (Tr.l ms k) (Tr.d ms k) by rw [hwz]; exact Bx2.made _ _ _ _)
      have HP := Lib.hid (hP.below BZ.out hP.lt)
      have HB := Lib.hid (hB.trans (BZ.out.mono hB.size))
      have HZ := Lib.hid hwz
      have HS := Lib.hid (show w.heap.size ≤ wz.heap.size from HB.out.size)
      clear hwz hP hB
      by_cases hla : Tr.l ms k < a
      · have g1 : decide (a ≤ Tr.l ms k) = false := decide_eq_false (by omega)
        by_cases hdb : Tr.d ms k < b
        · have g2 : decide (b ≤ Tr.d ms k) = false := decide_eq_false (by omega)
          obtain ⟨u1, hu1⟩ : ∃ u, u = Tr.under xs (Tr.l ms k) a := ⟨_, rfl⟩
          obtain ⟨u2, hu2⟩ : ∃ u, u = Tr.under ys (Tr.d ms k) b := ⟨_, rfl⟩
          have QU := Lib.hid (fun (wq : World) (hq : Below wz.heap.size wz wq) => show Calls Try.prog 92 #[.slice A n c, .int .i64 (Tr.l ms k), .int .i64 a] wq fun e w' => e = .returned (.bool u1) ∧ Below wq.heap.size wq w' from by rw [hu1]; exact implUnder_any _ _ _ xs _ _ _ (H.out.to_below (HB.out.trans (hq.mono HS.out))) hn hc)
          have QV := Lib.hid (fun (wq : World) (hq : Below wz.heap.size wz wq) => show Calls Try.prog 92 #[.slice A' n' c', .int .i64 (Tr.d ms k), .int .i64 b] wq fun e w' => e = .returned (.bool u2) ∧ Below wq.heap.size wq w' from by rw [hu2]; exact implUnder_any _ _ _ ys _ _ _ (H'.out.to_below (HB.out.trans (hq.mono HS.out))) hn' hc')
          have HU1 := Lib.hid hu1
          have HU2 := Lib.hid hu2
          clear hu1 hu2
          cases u1 with
          | false =>
            cases u2 with
            | false =>
              have HA := Lib.hid (Mp.at_yes hla hdb (by rw [← HU1.out, ← HU2.out]) : Mp.at xs ys ms a b k = true)
              as_aux_lemma =>
                go_wp2_with fail
                rw [← HZ.out]
                have S0 := Lib.hid (show (wz.drew.cell? ⟨wr.heap.size, 0, none⟩ = some (.int .i64 (Tr.l ms k)) ∧ wz.drew.cell? ⟨wr.heap.size, 1, none⟩ = some (.int .i64 (Tr.d ms k)) ∧ wz.drew.cell? ⟨w.heap.size, 0, none⟩ = some (.int .i64 (a)) ∧ wz.drew.cell? ⟨w.heap.size, 1, none⟩ = some (.int .i64 (b))) ∧ BelA wz wz.drew from ⟨⟨HQ.out.1, HQ.out.2, HP.out.1, HP.out.2⟩, (Drawn.refl _).drew.toBelow⟩)
                go_region_held3 (fun wq => (wq.cell? ⟨wr.heap.size, 0, none⟩ = some (.int .i64 (Tr.l ms k)) ∧ wq.cell? ⟨wr.heap.size, 1, none⟩ = some (.int .i64 (Tr.d ms k)) ∧ wq.cell? ⟨w.heap.size, 0, none⟩ = some (.int .i64 (a)) ∧ wq.cell? ⟨w.heap.size, 1, none⟩ = some (.int .i64 (b))) ∧ BelA wz wq) (first | (with_reducible exact SC) | (with_reducible exact S0.out)) (first | ((go_at_call 92; with_reducible refine (QU.out _ (px_below (by assumption))).mono ?_); rintro e w5 ⟨rfl, hb5⟩; have SC := px_keep (by assumption) hb5) | ((go_at_call 92; with_reducible refine (QV.out _ (px_below (by assumption))).mono ?_); rintro e w6 ⟨rfl, hb5⟩; have SC := px_keep (by assumption) hb5))
                have HE := Lib.hid (HB.out.trans ((px_below SC).mono HB.out.size))
                obtain ⟨⟨_, _, p0, p1⟩, _⟩ := id SC
                have HP := Lib.hid (show Bx2 w6 w.heap.size a b from ⟨p0, p1⟩)
                clear p0 p1
                go_wp2
                go_roundw
                case rel => exact ⟨k + 1, by omega, by go_num, fun q hq => by
                  rcases Nat.lt_succ_iff_lt_or_eq.1 hq with h' | rfl
                  · exact HG.out q h'
                  · exact HA.out, HE.out, HP.out⟩
                case measure => simp [intOf]; omega
            | true =>
              have hf := Lib.hid (Mp.after_no hlt (Mp.at_u (by rw [← HU1.out, ← HU2.out]; decide)) : Mp.after xs ys ms n'' a b = false)
              as_aux_lemma =>
                go_wp2_with fail
                rw [← HZ.out]
                have S0 := Lib.hid (show (wz.drew.cell? ⟨wr.heap.size, 0, none⟩ = some (.int .i64 (Tr.l ms k)) ∧ wz.drew.cell? ⟨wr.heap.size, 1, none⟩ = some (.int .i64 (Tr.d ms k)) ∧ wz.drew.cell? ⟨w.heap.size, 0, none⟩ = some (.int .i64 (a)) ∧ wz.drew.cell? ⟨w.heap.size, 1, none⟩ = some (.int .i64 (b))) ∧ BelA wz wz.drew from ⟨⟨HQ.out.1, HQ.out.2, HP.out.1, HP.out.2⟩, (Drawn.refl _).drew.toBelow⟩)
                go_region_held3 (fun wq => (wq.cell? ⟨wr.heap.size, 0, none⟩ = some (.int .i64 (Tr.l ms k)) ∧ wq.cell? ⟨wr.heap.size, 1, none⟩ = some (.int .i64 (Tr.d ms k)) ∧ wq.cell? ⟨w.heap.size, 0, none⟩ = some (.int .i64 (a)) ∧ wq.cell? ⟨w.heap.size, 1, none⟩ = some (.int .i64 (b))) ∧ BelA wz wq) (first | (with_reducible exact SC) | (with_reducible exact S0.out)) (first | ((go_at_call 92; with_reducible refine (QU.out _ (px_below (by assumption))).mono ?_); rintro e w5 ⟨rfl, hb5⟩; have SC := px_keep (by assumption) hb5) | ((go_at_call 92; with_reducible refine (QV.out _ (px_below (by assumption))).mono ?_); rintro e w6 ⟨rfl, hb5⟩; have SC := px_keep (by assumption) hb5))
                have HE := Lib.hid (HB.out.trans ((px_below SC).mono HB.out.size))
                obtain ⟨⟨_, _, p0, p1⟩, _⟩ := id SC
                go_wp2
                go_ret
                exact ⟨Kit.ret_bool hf.out.symm, HE.out⟩
          | true =>
            cases u2 with
            | false =>
              have hf := Lib.hid (Mp.after_no hlt (Mp.at_u (by rw [← HU1.out, ← HU2.out]; decide)) : Mp.after xs ys ms n'' a b = false)
              as_aux_lemma =>
                go_wp2_with fail
                rw [← HZ.out]
                have S0 := Lib.hid (show (wz.drew.cell? ⟨wr.heap.size, 0, none⟩ = some (.int .i64 (Tr.l ms k)) ∧ wz.drew.cell? ⟨wr.heap.size, 1, none⟩ = some (.int .i64 (Tr.d ms k)) ∧ wz.drew.cell? ⟨w.heap.size, 0, none⟩ = some (.int .i64 (a)) ∧ wz.drew.cell? ⟨w.heap.size, 1, none⟩ = some (.int .i64 (b))) ∧ BelA wz wz.drew from ⟨⟨HQ.out.1, HQ.out.2, HP.out.1, HP.out.2⟩, (Drawn.refl _).drew.toBelow⟩)
                go_region_held3 (fun wq => (wq.cell? ⟨wr.heap.size, 0, none⟩ = some (.int .i64 (Tr.l ms k)) ∧ wq.cell? ⟨wr.heap.size, 1, none⟩ = some (.int .i64 (Tr.d ms k)) ∧ wq.cell? ⟨w.heap.size, 0, none⟩ = some (.int .i64 (a)) ∧ wq.cell? ⟨w.heap.size, 1, none⟩ = some (.int .i64 (b))) ∧ BelA wz wq) (first | (with_reducible exact SC) | (with_reducible exact S0.out)) (first | ((go_at_call 92; with_reducible refine (QU.out _ (px_below (by assumption))).mono ?_); rintro e w5 ⟨rfl, hb5⟩; have SC := px_keep (by assumption) hb5) | ((go_at_call 92; with_reducible refine (QV.out _ (px_below (by assumption))).mono ?_); rintro e w6 ⟨rfl, hb5⟩; have SC := px_keep (by assumption) hb5))
                have HE := Lib.hid (HB.out.trans ((px_below SC).mono HB.out.size))
                obtain ⟨⟨_, _, p0, p1⟩, _⟩ := id SC
                go_wp2
                go_ret
                exact ⟨Kit.ret_bool hf.out.symm, HE.out⟩
            | true =>
              have HA := Lib.hid (Mp.at_yes hla hdb (by rw [← HU1.out, ← HU2.out]) : Mp.at xs ys ms a b k = true)
              as_aux_lemma =>
                go_wp2_with fail
                rw [← HZ.out]
                have S0 := Lib.hid (show (wz.drew.cell? ⟨wr.heap.size, 0, none⟩ = some (.int .i64 (Tr.l ms k)) ∧ wz.drew.cell? ⟨wr.heap.size, 1, none⟩ = some (.int .i64 (Tr.d ms k)) ∧ wz.drew.cell? ⟨w.heap.size, 0, none⟩ = some (.int .i64 (a)) ∧ wz.drew.cell? ⟨w.heap.size, 1, none⟩ = some (.int .i64 (b))) ∧ BelA wz wz.drew from ⟨⟨HQ.out.1, HQ.out.2, HP.out.1, HP.out.2⟩, (Drawn.refl _).drew.toBelow⟩)
                go_region_held3 (fun wq => (wq.cell? ⟨wr.heap.size, 0, none⟩ = some (.int .i64 (Tr.l ms k)) ∧ wq.cell? ⟨wr.heap.size, 1, none⟩ = some (.int .i64 (Tr.d ms k)) ∧ wq.cell? ⟨w.heap.size, 0, none⟩ = some (.int .i64 (a)) ∧ wq.cell? ⟨w.heap.size, 1, none⟩ = some (.int .i64 (b))) ∧ BelA wz wq) (first | (with_reducible exact SC) | (with_reducible exact S0.out)) (first | ((go_at_call 92; with_reducible refine (QU.out _ (px_below (by assumption))).mono ?_); rintro e w5 ⟨rfl, hb5⟩; have SC := px_keep (by assumption) hb5) | ((go_at_call 92; with_reducible refine (QV.out _ (px_below (by assumption))).mono ?_); rintro e w6 ⟨rfl, hb5⟩; have SC := px_keep (by assumption) hb5))
                have HE := Lib.hid (HB.out.trans ((px_below SC).mono HB.out.size))
                obtain ⟨⟨_, _, p0, p1⟩, _⟩ := id SC
                have HP := Lib.hid (show Bx2 w6 w.heap.size a b from ⟨p0, p1⟩)
                clear p0 p1
                go_wp2
                go_roundw
                case rel => exact ⟨k + 1, by omega, by go_num, fun q hq => by
                  rcases Nat.lt_succ_iff_lt_or_eq.1 hq with h' | rfl
                  · exact HG.out q h'
                  · exact HA.out, HE.out, HP.out⟩
                case measure => simp [intOf]; omega
        · have g2 : decide (b ≤ Tr.d ms k) = true := decide_eq_true (by omega)
          have hf := Lib.hid (Mp.after_no hlt (Mp.at_d hdb) : Mp.after xs ys ms n'' a b = false)
          as_aux_lemma =>
            go_wp2_with fail
            rw [← HZ.out]
            obtain ⟨q0, q1⟩ := HQ.out
            obtain ⟨p0, p1⟩ := HP.out
            go_quiet (fail)
            go_wp2
            go_ret
            exact ⟨Kit.ret_bool hf.out.symm, below_drawn_b HB.out _⟩
      · have g1 : decide (a ≤ Tr.l ms k) = true := decide_eq_true (by omega)
        have hf := Lib.hid (Mp.after_no hlt (Mp.at_l hla) : Mp.after xs ys ms n'' a b = false)
        as_aux_lemma =>
          go_wp2_with fail
          rw [← HZ.out]
          obtain ⟨q0, q1⟩ := HQ.out
          obtain ⟨p0, p1⟩ := HP.out
          go_quiet (fail)
          go_wp2
          go_ret
          exact ⟨Kit.ret_bool hf.out.symm, below_drawn_b HB.out _⟩
    · obtain rfl : k = n'' := by omega
      have hf := Lib.hid (Mp.after_iff.2 HG.out : Mp.after xs ys ms k a b = true)
      go_wp2
      go_ret
      exact ⟨Kit.ret_bool hf.out.symm, hB⟩

end Go.Proofs.Ytnfjdlocmdgefaa

/- Contracts (Ext). -/
namespace Go.Proofs.Ytnfjdlocmdgefaa
open Go.RowKit
set_option linter.unusedVariables false


theorem info_prX : (Try.prog.info? 77).map (fun i => (i.zero, i.size, i.bytes)) = some (some (.agg #[.int .i64 0, .int .i64 0]), 2, 16) := by kernel_rfl
theorem grown_of_below {w w' : World} (h : Below w.heap.size w w') (row : Option Nat) : w.grownBy w' row := ⟨h.os, h.tape, h.output, h.size, fun k hk _ => h.block k hk⟩
/-- the front of a row that was made longer in its place -/
theorem own_front {w : World} {base size n m g c : Nat} {e : TypeId} {xs ys : List Value} (h : w.ownsRow base e size (.slice (some ⟨g, 0, none⟩) (n + m) c) (n + m) (xs ++ ys)) (hx : xs.length = n * size) :
    w.ownsRow base e size (.slice (some ⟨g, 0, none⟩) n c) n xs := by
  rcases h.2 with ⟨h1, _⟩ | ⟨g', cap, cur, hv, hb, hg, hn, hm, hs, ht⟩
  · cases h1
  · cases hv
    refine ⟨hx, .inr ⟨g, c, cur, rfl, hb, hg, by omega, hm, hs, ?_⟩⟩
    have : (cur.toList.take ((n + m) * size)).take (n * size) = (xs ++ ys).take (n * size) := by rw [ht]
    rw [List.take_take, Nat.min_eq_left (Nat.mul_le_mul_right _ (by omega))] at this
    rw [this, ← hx, List.take_left]
/-- a row in a block that stays as it is -/
theorem own_stay {w w' : World} {base size n g c : Nat} {e : TypeId} {xs : List Value} (h : w.ownsRow base e size (.slice (some ⟨g, 0, none⟩) n c) n xs) (hg : w'.heap[g]? = w.heap[g]?) :
    w'.ownsRow base e size (.slice (some ⟨g, 0, none⟩) n c) n xs := by
  refine ⟨h.1, ?_⟩
  rcases h.2 with ⟨h1, _⟩ | ⟨g', cap, cur, hv, hb, hg', hr⟩
  · cases h1
  · cases hv
    exact .inr ⟨g, c, cur, rfl, hb, hg.trans hg', hr⟩
theorem own_lt {w : World} {base size n g c : Nat} {e : TypeId} {xs : List Value} (h : w.ownsRow base e size (.slice (some ⟨g, 0, none⟩) n c) n xs) : base ≤ g ∧ g < w.heap.size := by
  rcases h.2 with ⟨h1, _⟩ | ⟨g', cap, cur, hv, hb, hg', hr⟩
  · cases h1
  · cases hv
    exact ⟨hb, (Array.getElem?_eq_some_iff.1 hg').1⟩

set_option maxHeartbeats 800000 in
set_option maxRecDepth 100000 in
theorem clonePair_any (ad : Addr) (n c : Nat) (xs : Tr) (w : World) (h : NdIn w w.heap.size (some ad) n xs) (hn : n ≤ 1048576) :
    Calls Try.prog 86 #[.slice (some ad) n c] w (OwnNodes 77 xs w) := by
  have H := Lib.hid h
  clear h
  have HL := Lib.hid H.out.1
  obtain ⟨i0, hi, hz0, hz1, hz2⟩ := info_parts info_prX
  have hnil := fun W : World => Lib.run_eql_slice_nil (P := Try.prog) W
  go_enter Try.func86, Try.ntmps86
  go_wp2_with (at_builtin; refine wpList_append_own (World.alloc w (.cells #[] 77)) rfl _ _ 36 rfl w.heap.size 77 i0 (.agg #[.int .i64 0, .int .i64 0]) 2 16 Try.underlying36 hi hz0 hz1 hz2 rfl (by omega) (.slice (some ⟨w.heap.size, 0, none⟩) 0 0) 0 [] rfl (World.ownsRow_lit w #[] 0 (Nat.le_refl _) (Nat.zero_le _) rfl) ad n c (Tr.cells xs) rfl (by rw [Tr.cells_length, HL.out]) (NdIn.cells_at (H.out.to_below ((Below.refl _ _).alloc (Nat.le_refl _) _))) (Tr.cells_cell xs) (by unfold maxLen; omega) (by omega) (by simp) ?_; intro v' w1 hown1 hgrow1 hnil1)
  clear hnil1 hnil
  have hown2 : w1.ownsRow w.heap.size 77 2 v' n (Tr.cells xs) := by simpa using hown1
  obtain ⟨A', c', rfl⟩ := own_slice hown2
  have hb : Below w.heap.size w w1 := ((Below.refl w.heap.size w).alloc (Nat.le_refl _) _).grown hgrow1 (by simp) (fun k hk => by simp [Value.ownBlock] at hk; omega)
  go_ret
  exact ⟨A', c', by rw [HL.out]; rfl, by rw [HL.out]; exact hown2, hb⟩

/-- a guarded operation whose guard says yes is as one without a guard -/
theorem wpList_want {P : Program} {ops : Array Oper} {Q : Exit → Act → World → Prop} {a : Act} {w : World} {rest : List Oper} {o : Oper} (hw : Region.wanted o (yielded ops a.tmps) = true) (h : wpList P ops Q ({ o with guard := none } :: rest) a w) : wpList P ops Q (o :: rest) a w := by
  unfold wpList at h ⊢
  rw [if_pos hw]
  rw [if_pos (by simp [Region.wanted])] at h
  cases o
  exact h
theorem two_new (w : World) (a b : Int) (e : TypeId) : ∀ j u, (Tr.cells [(a, b)])[j]? = some u → (w.alloc (.cells #[.int .i64 a, .int .i64 b] e)).cell? ((⟨w.heap.size, 0, none⟩ : Addr).add j) = some u := by
  intro j u hj
  have hj2 : j < 2 := by
    have := (List.getElem?_eq_some_iff.1 hj).1
    simpa [Tr.cells] using this
  have : j = 0 ∨ j = 1 := by omega
  rcases this with rfl | rfl <;> (simp [Tr.cells] at hj; subst hj; simp [Addr.add])

attribute [local go_sem] Oper.semAt_some
/-- what a call of extend ends in -/
def Exd (J : List Tr → (Nat → Prop) → World → Prop) (n0 g cm : Nat) (pre : List Tr) (ms : Tr) (M : Nat → Prop) (W W' : World) : Prop :=
  J pre M W' ∧ (∀ q, M q → q ≠ g → W'.heap[q]? = W.heap[q]?) ∧ Below n0 W W' ∧ W'.ownsRow n0 77 2 (.slice (some ⟨g, 0, none⟩) ms.length cm) ms.length (Tr.cells ms)

set_option maxHeartbeats 800000 in
set_option maxRecDepth 100000 in
theorem extend_leaf {xs ys : Tr} {A A' : Option Addr} {n n' c c' n0 l : Nat} {all : List Tr} {J : List Tr → (Nat → Prop) → World → Prop} (hJ : Frees J) (hY : Yields Try.prog 77 n0 l all J)
    (g cm : Nat) (ms : Tr) (pre : List Tr) (M : Nat → Prop) (W : World) (hn : n ≤ 1048576) (hm : W.ownsRow n0 77 2 (.slice (some ⟨g, 0, none⟩) ms.length cm) ms.length (Tr.cells ms)) (hM : M g) (hI : InM n0 M W)
    (hj : J pre M W) (h1 : 1 ≤ ms.length) (h2 : ms.length ≤ 1048576) (hp : pre ++ [ms] <+: all) (hn0 : n0 ≤ W.heap.size) :
    Calls Try.prog 64 #[.slice A n c, .slice A' n' c', .slice (some ⟨g, 0, none⟩) ms.length cm, .int .i64 (n : Int), .func (.yield l) #[] #[]] W fun e W' => e = .returned (.bool true) ∧ Exd J n0 g cm (pre ++ [ms]) ms M W W' := by
  have HJ := Lib.hid hj
  have HP := Lib.hid hp
  have HM := Lib.hid hm
  have HI := Lib.hid hI
  have C0 := Lib.hid ((clonePair_any ⟨g, 0, none⟩ ms.length cm ms W (NdIn.of_own hm) h2).mono (R' := fun e w1 => ∃ b c2 fn tmps assign body, e = .returned (.slice (some ⟨b, 0, none⟩) ms.length c2) ∧
      (Instr.yield l #[.slice (some ⟨b, 0, none⟩) ms.length c2]).run Try.prog w1 = .ok (.round l fn tmps assign body) w1 ∧ RoundIn Fence.wide 0 Try.prog l fn tmps assign body w1 fun e W' => e = .returned (.bool true) ∧ Exd J n0 g cm (pre ++ [ms]) ms M W W') (by
    rintro e w1 ⟨A1, c1, rfl, ho, hb⟩
    obtain ⟨b, rfl, hb1, hb2⟩ := own_form ho (by omega)
    have hI1 : InM n0 M w1 := fun r e => ⟨(hI r e).1, Nat.lt_of_lt_of_le (hI r e).2 hb.size⟩
    obtain ⟨fn, tmps, assign, body, hy, hR⟩ := hY pre ms _ b M w1 (hJ _ _ _ _ _ none hj (grown_of_below hb none) (fun r e => by cases e) (fun r e => e.imp id (by rintro rfl; exact hb1))) hI1 hp ⟨c1, rfl, own_base ho hn0, fun e => by have := (hI b e).2; omega⟩
    refine ⟨b, c1, fn, tmps, assign, body, rfl, hy, hR.mono ?_⟩
    rintro e W3 ⟨he, hJ3, hk3, hB3⟩
    exact ⟨he, hJ3, fun q e _ => (hk3 q e).trans (hb.block q (hI q e).2), (hb.mono hn0).trans hB3, own_stay (own_below hm hb) (hk3 g hM)⟩))
  clear hj hp hm hI hY hJ
  refine (callsIn_wide (n := 1)).1 ?_
  refine callsIn_of_wp Try.func64 rfl trivial ?_ rfl
  simp only [Try.ntmps64, List.size_toArray, List.length_cons, List.length_nil, Nat.reduceAdd, Nat.reduceSub, Array.replicate_succ, Array.replicate_zero, List.push_toArray, List.append_toArray, List.nil_append, List.cons_append]
  gi_wp2_with (refine ⟨trivial, ?_⟩; gi_at_call 86; refine (callsIn_wide.2 C0.out).mono ?_; rintro e w1 ⟨b, c2, fn, tmps, assign, body, rfl, hy, hR⟩; have HR := Lib.hid hR; clear hR)
  refine HR.out.mono ?_
  rintro e W3 ⟨rfl, hx3⟩
  have HX := Lib.hid hx3
  clear hx3
  gi_wp2
  go_ret
  exact ⟨rfl, HX.out⟩

end Go.Proofs.Ytnfjdlocmdgefaa

/- Contracts (RwS). -/
namespace Go.Proofs.Ytnfjdlocmdgefaa
open Go.RowKit
set_option linter.unusedVariables false


/-- a row of rows of pairs: the outer row holds the inner rows' values, each inner row reads as one list -/
def RowsP (w : World) (base : Nat) (v : Value) (vs : List Value) (ms : List Tr) : Prop :=
  w.ownsRow base 36 1 v vs.length vs ∧ vs.length = ms.length ∧ ∀ i, i < ms.length → w.ownsRow base 77 2 (vs.getD i undef) (ms.getD i []).length (Tr.cells (ms.getD i []))
section
variable {w w' : World} {base base' b n size : Nat} {e : TypeId} {v v' u : Value} {vs vs' xs : List Value} {ms ms' : List Tr} {row : Option Nat}
theorem own_other (h : w.ownsRow base e size u n xs) (hg : w.grownBy w' row) (hne : u.ownBlock = none ∨ u.ownBlock ≠ row) : w'.ownsRow base e size u n xs := by
  refine ⟨h.1, ?_⟩
  rcases h.2 with h1 | ⟨g, cap, cur, hv, hb, hg', hr⟩
  · exact .inl h1
  · subst hv
    refine .inr ⟨g, cap, cur, rfl, hb, (hg.block g (Array.getElem?_eq_some_iff.1 hg').1 ?_).trans hg', hr⟩
    rcases hne with h | h
    · cases h
    · exact h
theorem own_ne {b1 b2 n1 n2 s1 s2 : Nat} {e1 e2 : TypeId} {v1 v2 : Value} {x1 x2 : List Value} (h1 : w.ownsRow b1 e1 s1 v1 n1 x1) (h2 : w.ownsRow b2 e2 s2 v2 n2 x2) (he : e1 ≠ e2) : v1.ownBlock = none ∨ v1.ownBlock ≠ v2.ownBlock := by
  rcases h1.2 with ⟨rfl, _⟩ | ⟨g, cap, cur, rfl, _, hg, _⟩
  · exact .inl rfl
  · refine .inr fun e => ?_
    rcases h2.2 with ⟨rfl, _⟩ | ⟨g', cap', cur', rfl, _, hg', _⟩
    · cases e
    · simp only [Value.ownBlock, Option.some.injEq] at e
      subst e
      rw [hg] at hg'
      simp only [Option.some.injEq, Obj.cells.injEq] at hg'
      exact he hg'.2.1
theorem own_one (h : w.ownsRow base e size u n xs) : u.oneCell' = true := by
  obtain ⟨A, c, rfl⟩ := own_slice h
  rfl
theorem RowsP.below (h : RowsP w base v vs ms) (hb : Below w.heap.size w w') : RowsP w' base v vs ms := ⟨own_below h.1 hb, h.2.1, fun i hi => own_below (h.2.2 i hi) hb⟩
theorem RowsP.lower (h : RowsP w base v vs ms) (hb : base' ≤ base) : RowsP w base' v vs ms := ⟨own_base h.1 hb, h.2.1, fun i hi => own_base (h.2.2 i hi) hb⟩
theorem RowsP.ones (h : RowsP w base v vs ms) : ∀ u ∈ vs, u.oneCell' = true := fun u hu => by
  obtain ⟨i, hi, rfl⟩ := List.getElem_of_mem hu
  have := own_one (h.2.2 i (by rw [← h.2.1]; exact hi))
  rwa [List.getD_eq_getElem?_getD, List.getElem?_eq_getElem hi] at this
/-- one row -/
theorem RowsP.one {m : Tr} (hb : base ≤ w.heap.size) (h : w.ownsRow base 77 2 u m.length (Tr.cells m)) : RowsP (w.alloc (.cells #[u] 36)) base (.slice (some ⟨w.heap.size, 0, none⟩) 1 1) [u] [m] :=
  ⟨World.ownsRow_lit w #[u] 1 hb (by decide) rfl, rfl, fun i hi => by
    obtain rfl : i = 0 := by simpa using hi
    exact h.alloc _⟩
theorem pr_ne : 77 ≠ 36 := by decide
/-- the rows behind an append of the outer row -/
theorem RowsP.append (h : RowsP w base v vs ms) (h' : RowsP w base v' vs' ms') (hg : w.grownBy w' v.ownBlock) {v3 : Value} (ho : w'.ownsRow base 36 1 v3 (vs.length + vs'.length) (vs ++ vs')) : RowsP w' base v3 (vs ++ vs') (ms ++ ms') := by
  refine ⟨by rw [List.length_append]; exact ho, by rw [List.length_append, List.length_append, h.2.1, h'.2.1], fun i hi => ?_⟩
  by_cases hlt : i < ms.length
  · have hv : (vs ++ vs').getD i undef = vs.getD i undef := by simp [List.getD_eq_getElem?_getD, List.getElem?_append_left (show i < vs.length by rw [h.2.1]; exact hlt)]
    have hm : (ms ++ ms').getD i [] = ms.getD i [] := by simp [List.getD_eq_getElem?_getD, List.getElem?_append_left hlt]
    rw [hv, hm]
    exact own_other (h.2.2 i hlt) hg (own_ne (h.2.2 i hlt) h.1 pr_ne)
  · rw [List.length_append] at hi
    have hv : (vs ++ vs').getD i undef = vs'.getD (i - ms.length) undef := by rw [List.getD_eq_getElem?_getD, List.getElem?_append_right (show vs.length ≤ i by rw [h.2.1]; omega), ← List.getD_eq_getElem?_getD, h.2.1]
    have hm : (ms ++ ms').getD i [] = ms'.getD (i - ms.length) [] := by rw [List.getD_eq_getElem?_getD, List.getElem?_append_right (by omega), ← List.getD_eq_getElem?_getD]
    rw [hv, hm]
    have h1 := h'.2.2 (i - ms.length) (by omega)
    exact own_other h1 hg (own_ne h1 h.1 pr_ne)
end

end Go.Proofs.Ytnfjdlocmdgefaa
