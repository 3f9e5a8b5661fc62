/- Contracts (TxtS). -/
import Derived.Test.YtemionefggiknaaDoorTxt
import Derived.Test.YtemionefggiknaaDoorTreeOkS
import Derived.Test.YtemionefggiknaaDoorLabNameS
import Derived.Outline
import Derived.BigQuiet
namespace Go.Proofs.YtemionefggiknaaDoor
open Go.RowKit
set_option linter.unusedVariables false

set_option maxHeartbeats 1600000 in
set_option maxRecDepth 100000 in
theorem specTreeText_any (A : Option Addr) (n c : Nat) (xs : Tr) (w : World) (h : NdIn w w.heap.size A n xs) (hn : n ≤ 1048576) :
    Calls Tryd.prog 6 #[.slice A n c] w fun e w' => e = .returned (.string (Tr.txt xs)) ∧ Below w.heap.size w w' := by
  have H := Lib.hid h
  clear h
  have HL := Lib.hid H.out.1
  have HB := Lib.hid (Below.refl w.heap.size w)
  rcases hok : Tr.ok xs with _ | _
  · have Hf := Lib.hid (Tr.txt_no hok)
    have Hok := Lib.hid hok
    clear hok
    by_cases h0 : n = 0
    · subst h0
      go_enter Tryd.func6, Tryd.ntmps6
      go_wp2
      refine wp_loop_rounds 1 ?_
      rw [rounds_succ]
      go_wp2
      refine wp_loop_rounds 1 ?_
      rw [rounds_succ]
      go_wp2
      go_ret
      exact ⟨by rw [Hf.out]; rfl, HB.out⟩
    · have e0 : decide (0 < n) = true := by simp; omega
      go_enter Tryd.func6, Tryd.ntmps6
      go_wp2
      refine wp_loop_rounds 1 ?_
      rw [rounds_succ]
      go_wp2_with fail
      refine (specTreeOk_any _ _ _ xs _ H.out hn).mono ?_
      rintro e w1 ⟨rfl, hd⟩
      have HB := Lib.hid (Drawn.below HB.out hd)
      clear hd
      have H1 := Lib.hid (H.out.to_below HB.out)
      rw [Hok.out]
      go_wp2
      refine wp_loop_rounds 1 ?_
      rw [rounds_succ]
      go_wp2_with fail
      refine (specTreeOk_any _ _ _ xs _ H1.out hn).mono ?_
      rintro e w2 ⟨rfl, hd⟩
      have HB := Lib.hid (Drawn.below HB.out hd)
      clear hd
      rw [Hok.out]
      go_wp2
      go_ret
      exact ⟨by rw [Hf.out]; rfl, HB.out⟩
  · have Hf := Lib.hid (Tr.txt_yes hok)
    have hle := (Tr.ok_iff.1 hok).2
    rw [HL.out] at hle
    have hbd := Lib.hid fun k => (Tr.ok_at (xs := xs) hok (k := k))
    have Hsz := Lib.hid (Tr.txtTo_size (xs := xs) (fun j hj => (Tr.ok_at hok hj).2.1))
    have Hok := Lib.hid hok
    clear hok
    obtain ⟨ad, rfl, had⟩ := H.out.2.1 (by omega)
    go_enter Tryd.func6, Tryd.ntmps6
    go_wp2
    go_loopw [4, 3] (fun iv sv wr => ∃ k : Nat, k ≤ n ∧ iv = .int .i64 k ∧ sv = .string (Tr.txtTo xs k) ∧ Below w.heap.size w wr) (fun i _ _ => n - (intOf i).toNat)
    case atStart => exact ⟨0, Nat.zero_le _, rfl, rfl, HB.out⟩
    case round =>
      clear HB
      obtain ⟨k, hk, rfl, rfl, hB⟩ := hrel
      have HB := Lib.hid hB
      clear hB
      by_cases hlt : k < n
      · have H1 := Lib.hid ((H.out.below HB.out).more HB.out.size)
        go_wp2_with fail
        refine (specTreeOk_any _ _ _ xs _ H1.out hn).mono ?_
        rintro e w2 ⟨rfl, hd⟩
        have HB := Lib.hid (Drawn.below HB.out hd)
        clear hd
        rw [Hok.out]
        have hsz := Hsz.out k (by rw [HL.out]; exact hk)
        have H2 := Lib.hid ((H.out.below HB.out).more HB.out.size)
        obtain ⟨hl, hd⟩ := H2.out.here hlt
        have k0 : (0 : Int) ≤ (k : Int) := by omega
        have k1 : (k : Int) < (n : Int) := by omega
        by_cases hk0 : k = 0
        · have e3 : decide (0 < k) = false := by simp; omega
          have z0 := Lab.name_size (Tr.l xs k)
          have y9 : ¬ 9223372036854775807 < (Tr.txtTo xs k).size + (Lab.name (Tr.l xs k)).size := by omega
          have Hs := Lib.hid (Tr.txtTo_first (xs := xs) hk0)
          clear hk0
          go_wp2_with fail
          refine (specLabelName_any _ _).mono ?_
          rintro e w4 ⟨rfl, hb⟩
          have HB := Lib.hid (HB.out.trans (hb.mono HB.out.size))
          clear hb
          go_wp2
          go_roundw
          case rel => exact ⟨k + 1, by omega, by go_num, by rw [Hs.out], HB.out⟩
          case measure => simp [intOf]; omega
        · have e3 : decide (0 < k) = true := by simp; omega
          obtain ⟨hl', hd'⟩ := H2.out.here (show k - 1 < n by omega)
          have a1 : IntKind.i64.wrap ((k : Int) - 1) = (k : Int) - 1 := Kit.w64 (by omega) (by omega)
          have a2 : ((k : Int) - 1).toNat = k - 1 := by omega
          have a3 : (1 : Int) ≤ (k : Int) := by omega
          have a4 : (k : Int) - 1 < (n : Int) := by omega
          obtain ⟨D, hD⟩ : ∃ D, D = Tr.d xs k := ⟨_, rfl⟩
          obtain ⟨P, hP⟩ : ∃ P, P = Tr.d xs (k - 1) := ⟨_, rfl⟩
          have hDb := (hbd.out k (by rw [HL.out]; exact hlt)).2.1
          have hPb := (hbd.out (k - 1) (by rw [HL.out]; omega)).2.1
          have Hdown := Tr.txtTo_down (xs := xs) (k := k) (by omega)
          have Hon := Tr.txtTo_on (xs := xs) (k := k) (by omega)
          rw [← hD] at hd hDb
          rw [← hP] at hd' hPb
          rw [← hD, ← hP] at Hdown Hon
          have HDn := Lib.hid Hdown
          have HOn := Lib.hid Hon
          obtain ⟨q, hq⟩ : ∃ q, q = (P - D).toNat := ⟨_, rfl⟩
          rw [← hq] at HDn HOn
          have z0 := Lab.name_size (Tr.l xs k)
          have zc := Txt.close_size q
          have Hq := Lib.hid (show (D ≤ P → (q : Int) = P - D) ∧ (P < D → q = 0) by omega)
          clear Hdown Hon hD hP hq
          go_wp2
          go_loop [5, 3] (fun dv sv => ∃ j : Nat, (D ≤ P → j ≤ q + 1) ∧ (P < D → j = 0) ∧ dv = .int .i64 (D + j) ∧ sv = .string (Tr.txtTo xs k ++ Txt.close (min j q))) (fun d _ => (P + 1 - intOf d).toNat)
          case atStart => exact ⟨0, fun _ => Nat.zero_le _, fun _ => rfl, by simp, by rw [Nat.zero_min, Txt.nil]⟩
          case round =>
            obtain ⟨j, hj1, hj2, rfl, rfl⟩ := hrel
            have a5 : IntKind.i64.wrap (D + (j : Int) + 1) = D + (j : Int) + 1 := Kit.w64 (by have := Hq.out; omega) (by have := Hq.out; omega)
            have zj := Txt.close_size (min j q)
            by_cases h1 : D + (j : Int) ≤ P
            · have e1 : decide (D + (j : Int) ≤ P) = true := by simpa using h1
              by_cases h2 : D + (j : Int) < P
              · have e2 : decide (D + (j : Int) < P) = true := by simpa using h2
                have y1 : ¬ 9223372036854775807 < (Tr.txtTo xs k).size + (Txt.close (min j q)).size + 1 := by have := Hq.out; omega
                have Hm := Lib.hid (show min (j + 1) q = min j q + 1 by have := Hq.out; omega)
                go_wp2
                go_round
                case rel => exact ⟨j + 1, fun _ => by have := Hq.out; omega, fun h => by omega, by simp; omega, by rw [Hm.out, Txt.snoc]⟩
                case measure => simp [intOf]; omega
              · have e2 : decide (D + (j : Int) < P) = false := by simpa using h2
                have Hm := Lib.hid (show min (j + 1) q = min j q by have := Hq.out; omega)
                go_wp2
                go_round
                case rel => exact ⟨j + 1, fun _ => by have := Hq.out; omega, fun h => by omega, by simp; omega, by rw [Hm.out]⟩
                case measure => simp [intOf]; omega
            · have e1 : decide (D + (j : Int) ≤ P) = false := by simpa using h1
              have hm : min j q = q := by have := Hq.out; omega
              rw [hm] at zj ⊢
              by_cases h2 : P < D
              · have e2 : decide (P < D) = true := by simpa using h2
                have y1 : ¬ 9223372036854775807 < (Tr.txtTo xs k).size + (Txt.close q).size + 1 := by have := Hq.out; omega
                have y2 : ¬ 9223372036854775807 < (Tr.txtTo xs k).size + (Txt.close q).size + 1 + (Lab.name (Tr.l xs k)).size := by have := Hq.out; omega
                have Hs := Lib.hid (HDn.out (by omega))
                go_wp2
                go_quiet (fail)
                have HB := Lib.hid (Drawn.below HB.out (⟨nq, rfl⟩ : Drawn w2 (World.drewN w2 nq)))
                go_wp2_with fail
                refine (specLabelName_any _ _).mono ?_
                rintro e w4 ⟨rfl, hb⟩
                have HB := Lib.hid (HB.out.trans (hb.mono HB.out.size))
                clear hb
                go_wp2
                go_roundw
                case rel => exact ⟨k + 1, by omega, by go_num, by rw [Hs.out], HB.out⟩
                case measure => simp [intOf]; omega
              · have e2 : decide (P < D) = false := by simpa using h2
                have y1 : ¬ 9223372036854775807 < (Tr.txtTo xs k).size + (Txt.close q).size + 1 := by have := Hq.out; omega
                have y2 : ¬ 9223372036854775807 < (Tr.txtTo xs k).size + (Txt.close q).size + 1 + (Lab.name (Tr.l xs k)).size := by have := Hq.out; omega
                have Hs := Lib.hid (HOn.out (by omega))
                go_wp2
                go_quiet (fail)
                have HB := Lib.hid (Drawn.below HB.out (⟨nq, rfl⟩ : Drawn w2 (World.drewN w2 nq)))
                go_wp2_with fail
                refine (specLabelName_any _ _).mono ?_
                rintro e w4 ⟨rfl, hb⟩
                have HB := Lib.hid (HB.out.trans (hb.mono HB.out.size))
                clear hb
                go_wp2
                go_roundw
                case rel => exact ⟨k + 1, by omega, by go_num, by rw [Hs.out], HB.out⟩
                case measure => simp [intOf]; omega
      · obtain rfl : k = n := by omega
        have hsz := Hsz.out k (by rw [HL.out]; exact hk)
        obtain ⟨P, hP⟩ : ∃ P, P = Tr.d xs (k - 1) := ⟨_, rfl⟩
        have hPb := (hbd.out (k - 1) (by rw [HL.out]; omega)).2.1
        have Hf' := Lib.hid (show Tr.txt xs = Tr.txtTo xs k ++ Txt.close P.toNat by rw [Hf.out, HL.out, hP])
        have HP := Lib.hid hP
        rw [← hP] at hPb
        have e0 : decide (0 < k) = true := by simp; omega
        have a1 : IntKind.i64.wrap ((k : Int) - 1) = (k : Int) - 1 := Kit.w64 (by omega) (by omega)
        have a2 : ((k : Int) - 1).toNat = k - 1 := by omega
        have a3 : (1 : Int) ≤ (k : Int) := by omega
        have a4 : (k : Int) - 1 < (k : Int) := by omega
        clear hP
        go_wp2
        go_loopw [6, 3] (fun dv sv wr => ∃ j : Nat, (j : Int) ≤ P ∧ dv = .int .i64 j ∧ sv = .string (Tr.txtTo xs k ++ Txt.close j) ∧ Below w.heap.size w wr) (fun d _ _ => P.toNat - (intOf d).toNat)
        case atStart => exact ⟨0, by omega, rfl, by rw [Txt.nil], HB.out⟩
        case round =>
          clear HB
          obtain ⟨j, hj, rfl, rfl, hB⟩ := hrel
          have HB := Lib.hid hB
          clear hB
          have H1 := Lib.hid ((H.out.below HB.out).more HB.out.size)
          go_wp2_with fail
          refine (specTreeOk_any _ _ _ xs _ H1.out hn).mono ?_
          rintro e w2 ⟨rfl, hd⟩
          have HB := Lib.hid (Drawn.below HB.out hd)
          clear hd
          rw [Hok.out]
          have H2 := Lib.hid ((H.out.below HB.out).more HB.out.size)
          obtain ⟨hl', hd'⟩ := H2.out.here (show k - 1 < k by omega)
          rw [← HP.out] at hd'
          have zj := Txt.close_size j
          by_cases h1 : (j : Int) < P
          · have e1 : decide ((j : Int) < P) = true := by simpa using h1
            have y1 : ¬ 9223372036854775807 < (Tr.txtTo xs k).size + (Txt.close j).size + 1 := by omega
            go_wp2
            go_roundw
            case rel => exact ⟨j + 1, by omega, by go_num, by rw [Txt.snoc], HB.out⟩
            case measure => simp [intOf]; omega
          · have e1 : decide ((j : Int) < P) = false := by simpa using h1
            have hj' : P.toNat = j := by omega
            go_wp2
            go_ret
            exact ⟨by rw [Hf'.out, hj']; rfl, HB.out⟩

end Go.Proofs.YtemionefggiknaaDoor
