/- Contracts (PutCI). -/
import Derived.Test.YtpdpkcadolcbmaaPutM
import Derived.Test.YtpdpkcadolcbmaaVarB
import Derived.Test.YtpdpkcadolcbmaaCostOkI
import Derived.Outline
import Derived.Deep.RegionHeld3
namespace Go.Proofs.Ytpdpkcadolcbmaa
open Go.RowKit
set_option linter.unusedVariables false

set_option maxHeartbeats 1600000 in
set_option maxRecDepth 100000 in
theorem putTable_any (A : Option Addr) (n c : Nat) (zs : List Int) (w : World) (h : IntIn w w.heap.size A n zs) (hn : n ≤ 1048576) :
    Calls Try.prog 53 #[.slice A n c] w fun e w' => e = .returned (.string (Zs.put zs)) ∧ Below w.heap.size w w' := by
  have H := Lib.hid h
  have HL := Lib.hid h.1
  clear h
  go_enter Try.func53, Try.ntmps53
  go_wp2
  go_loopw [8, 3] (fun iv sv wr => ∃ k : Nat, k ≤ n ∧ iv = .int .i64 k ∧ sv = .string (Zs.putTo zs k) ∧ Below w.heap.size w wr) (fun i _ _ => n - (intOf i).toNat)
  case atStart => exact ⟨0, Nat.zero_le _, rfl, rfl, Below.refl _ _⟩
  case round =>
    obtain ⟨k, hk, rfl, rfl, hB⟩ := hrel
    have HB := Lib.hid hB
    clear hB
    by_cases hlt : k < n
    · obtain ⟨ad, rfl, _, c1⟩ := (H.out.below HB.out).at_ hlt
      have z1 := Zs.putTo_size zs k
      have z2 := Num.varB_size (Zs.at zs k)
      have y1 : ¬ 9223372036854775807 < (Zs.putTo zs k).size + (Num.varB (Zs.at zs k)).size := by omega
      have Hs := Lib.hid (show Zs.putTo zs (k + 1) = Zs.putTo zs k ++ Num.varB (Zs.at zs k) from rfl)
      have k0 : (0 : Int) ≤ (k : Int) := by omega
      have k1 : (k : Int) < (n : Int) := by omega
      clear z1 z2
      go_wp2_with fail
      refine (implVarB_any _ _).mono ?_
      rintro e w2 ⟨rfl, hb⟩
      have HB := Lib.hid (HB.out.trans (hb.mono HB.out.size))
      clear hb
      go_wp2
      go_roundw
      case rel => exact ⟨k + 1, by omega, by go_num, by rw [Hs.out], HB.out⟩
      case measure => simp [intOf]; omega
    · obtain rfl : k = n := by omega
      go_wp2
      go_ret
      exact ⟨by rw [← HL.out]; rfl, HB.out⟩
/-- a variable of three cells stands as it did; the world has only grown -/
def TriG (w0 : World) (s : Nat) (wq : World) : Prop := Below w0.heap.size w0 wq ∧ s < w0.heap.size
theorem tri_keep {w0 wx wq : World} {s : Nat} {a0 a1 a2 : Option Value} (hS : wx.cell? ⟨s, 0, none⟩ = a0 ∧ wx.cell? ⟨s, 1, none⟩ = a1 ∧ wx.cell? ⟨s, 2, none⟩ = a2 ∧ TriG w0 s wx)
    (hb : Below wx.heap.size wx wq) : wq.cell? ⟨s, 0, none⟩ = a0 ∧ wq.cell? ⟨s, 1, none⟩ = a1 ∧ wq.cell? ⟨s, 2, none⟩ = a2 ∧ TriG w0 s wq := by
  obtain ⟨h0, h1, h2, hB, hs⟩ := hS
  have hz := hB.size
  have c (o : Nat) : wq.cell? ⟨s, o, none⟩ = wx.cell? ⟨s, o, none⟩ := hb.cell (p := ⟨s, o, none⟩) (by simp only; omega)
  exact ⟨by rw [c 0, h0], by rw [c 1, h1], by rw [c 2, h2], hB.trans (hb.mono hz), hs⟩
theorem tri_below {w0 wx : World} {s : Nat} {a0 a1 a2 : Option Value} (hS : wx.cell? ⟨s, 0, none⟩ = a0 ∧ wx.cell? ⟨s, 1, none⟩ = a1 ∧ wx.cell? ⟨s, 2, none⟩ = a2 ∧ TriG w0 s wx) : Below w0.heap.size w0 wx := hS.2.2.2.1
set_option maxHeartbeats 1600000 in
set_option maxRecDepth 100000 in
theorem implPutCost_any (A0 A1 A2 : Option Addr) (n0 n1 n2 c0 c1 c2 : Nat) (k : Co) (w : World) (h : CoIn w w.heap.size A0 A1 A2 n0 n1 n2 k) (h0 : n0 ≤ 1048576) (h1 : n1 ≤ 1048576) (h2 : n2 ≤ 1048576) :
    Calls Try.prog 33 #[.agg #[.slice A0 n0 c0, .slice A1 n1 c1, .slice A2 n2 c2]] w fun e w' => e = .returned (.string (Co.put k)) ∧ Below w.heap.size w w' := by
  have H := Lib.hid h
  clear h
  have HB := Lib.hid ((Below.refl w.heap.size w).alloc (Nat.le_refl _) (.cells #[.slice A0 n0 c0, .slice A1 n1 c1, .slice A2 n2 c2] 26))
  have H1 := Lib.hid (H.out.to_below HB.out)
  cases e0 : Co.ok k with
  | false =>
    have Hf := Lib.hid (Co.put_no e0)
    have E0 := Lib.hid e0
    clear e0
    go_enter Try.func33, Try.ntmps33
    go_wp2_with fail
    refine (implCostOk_any _ _ _ _ _ _ _ _ _ k _ H1.out h0 h1 h2).mono ?_
    rintro e w1 ⟨rfl, hb⟩
    have HB := Lib.hid (HB.out.trans (hb.mono HB.out.size))
    clear hb
    rw [E0.out]
    go_wp2
    go_ret
    exact ⟨by rw [Hf.out]; rfl, HB.out⟩
  | true =>
    have Hf := Lib.hid (Co.put_yes e0)
    have E0 := Lib.hid e0
    have HX := Lib.hid (Box3.made w (.slice A0 n0 c0) (.slice A1 n1 c1) (.slice A2 n2 c2) 26)
    have HLT := Lib.hid (show w.heap.size < (w.alloc (.cells #[.slice A0 n0 c0, .slice A1 n1 c1, .slice A2 n2 c2] 26)).heap.size by simp)
    have HLN := Lib.hid (Co.ok_len e0)
    clear e0
    go_enter Try.func33, Try.ntmps33
    go_wp2_with fail
    refine (implCostOk_any _ _ _ _ _ _ _ _ _ k _ H1.out h0 h1 h2).mono ?_
    rintro e w1 ⟨rfl, hb⟩
    have HB := Lib.hid (HB.out.trans (hb.mono HB.out.size))
    have H1 := Lib.hid (H1.out.to_below hb)
    obtain ⟨g0, g1, g2⟩ := HX.out.below hb HLT.out
    have HLT := Lib.hid (Nat.lt_of_lt_of_le HLT.out hb.size)
    clear hb
    rw [E0.out]
    obtain ⟨s0, es0⟩ : ∃ s, s = Zs.put k.d := ⟨_, rfl⟩
    obtain ⟨s1, es1⟩ : ∃ s, s = Zs.put k.i := ⟨_, rfl⟩
    obtain ⟨s2, es2⟩ : ∃ s, s = Zs.put k.r := ⟨_, rfl⟩
    have z0 := Zs.put_size k.d
    have z1 := Zs.put_size k.i
    have z2 := Zs.put_size k.r
    rw [← es0, HLN.out.1] at z0
    rw [← es1, HLN.out.2.1] at z1
    rw [← es2, HLN.out.2.2] at z2
    have y1 : ¬ 9223372036854775807 < s0.size + s1.size := by omega
    have y2 : ¬ 9223372036854775807 < s0.size + s1.size + s2.size := by omega
    have HE := Lib.hid (And.intro es0 (And.intro es1 es2))
    clear z0 z1 z2 es0 es1 es2
    go_wp2_with fail
    have S0 := Lib.hid (show w1.drew.cell? ⟨w.heap.size, 0, none⟩ = some (.slice A0 n0 c0) ∧ w1.drew.cell? ⟨w.heap.size, 1, none⟩ = some (.slice A1 n1 c1) ∧ w1.drew.cell? ⟨w.heap.size, 2, none⟩ = some (.slice A2 n2 c2) ∧ TriG w1 w.heap.size w1.drew from ⟨g0, g1, g2, (Below.refl _ _).drew, HLT.out⟩)
    clear g0 g1 g2
    go_region_held3 (fun wq => wq.cell? ⟨w.heap.size, 0, none⟩ = some (.slice A0 n0 c0) ∧ wq.cell? ⟨w.heap.size, 1, none⟩ = some (.slice A1 n1 c1) ∧ wq.cell? ⟨w.heap.size, 2, none⟩ = some (.slice A2 n2 c2) ∧ TriG w1 w.heap.size wq) (first | exact S0.out | (refine tri_keep ?_ hb; assumption)) (first | (go_at_call 53; (fail_if_success (have := hp0)); refine (putTable_any _ _ _ k.d _ ((H1.out.to_below (tri_below (by assumption))).1) h0).mono ?_; rintro e w2 ⟨rfl, hb⟩; have hp0 := True.intro; rw [← HE.out.1]) | (go_at_call 53; (fail_if_success (have := hp1)); have := hp0; refine (putTable_any _ _ _ k.i _ ((H1.out.to_below (tri_below (by assumption))).2.1) h1).mono ?_; rintro e w3 ⟨rfl, hb⟩; have hp1 := True.intro; rw [← HE.out.2.1]) | (go_at_call 53; (fail_if_success (have := hp2)); have := hp0; have := hp1; refine (putTable_any _ _ _ k.r _ ((H1.out.to_below (tri_below (by assumption))).2.2) h2).mono ?_; rintro e w4 ⟨rfl, hb⟩; have hp2 := True.intro; rw [← HE.out.2.2]))
    have HG := Lib.hid (show TriG w1 w.heap.size w4 by (first | (rename_i q; exact q.2.2.2) | (rename_i q _; exact q.2.2.2)))
    go_wp2
    go_ret
    exact ⟨by rw [Hf.out, HE.out.1, HE.out.2.1, HE.out.2.2]; rfl, HB.out.trans (HG.out.1.mono HB.out.size)⟩

end Go.Proofs.Ytpdpkcadolcbmaa
