/- Contracts (TxtI). -/
import Derived.Test.YtemionefggiknaaDoorGapI
import Derived.Test.YtemionefggiknaaDoorTreeOkI
import Derived.Test.YtemionefggiknaaDoorLabNameI
import Derived.Outline
import Derived.Deep.RegionHeld3
namespace Go.Proofs.YtemionefggiknaaDoor
open Go.RowKit
set_option linter.unusedVariables false

def TxtG (B : Nat) (w : World) (p : Addr) (wq : World) : Prop := B ≤ w.heap.size ∧ Below B w wq ∧ p.block < wq.heap.size ∧ HasNames wq
theorem txt_keep {B : Nat} {w wx wq : World} {ad : Addr} {i j k : Nat} {u v x : Option Value} (hS : wx.cell? ⟨(ad.add i).block, (ad.add i).off + 1, none⟩ = u ∧ wx.cell? ⟨(ad.add j).block, (ad.add j).off + 1, none⟩ = v ∧ wx.cell? (ad.add k) = x ∧ TxtG B w ad wx) (hb : Below wx.heap.size wx wq) :
    wq.cell? ⟨(ad.add i).block, (ad.add i).off + 1, none⟩ = u ∧ wq.cell? ⟨(ad.add j).block, (ad.add j).off + 1, none⟩ = v ∧ wq.cell? (ad.add k) = x ∧ TxtG B w ad wq := by
  obtain ⟨h1, h2, h3, h0, h4, h5, h6⟩ := hS
  have e := hb.size
  have f := h4.size
  exact ⟨by rw [hb.cell (by show (ad.add i).block < _; rw [block_of_add]; exact h5), h1], by rw [hb.cell (by show (ad.add j).block < _; rw [block_of_add]; exact h5), h2], by rw [hb.cell (by rw [block_of_add]; exact h5), h3], h0, h4.trans (hb.mono (by omega)), by omega, h6.below hb⟩
theorem txt_names {B : Nat} {w wx : World} {ad : Addr} {i j k : Nat} {u v x : Option Value} (hS : wx.cell? ⟨(ad.add i).block, (ad.add i).off + 1, none⟩ = u ∧ wx.cell? ⟨(ad.add j).block, (ad.add j).off + 1, none⟩ = v ∧ wx.cell? (ad.add k) = x ∧ TxtG B w ad wx) : HasNames wx := hS.2.2.2.2.2.2

set_option maxHeartbeats 1600000 in
set_option maxRecDepth 100000 in
theorem implTreeText_any (A : Option Addr) (n c : Nat) (xs : Tr) (w : World) (h : NdIn w w.heap.size A n xs) (hn : n ≤ 1048576) (hnc : n ≤ c) (ht : HasNames w) :
    Calls Tryd.prog 8 #[.slice A n c] w fun e w' => e = .returned (.string (Tr.txt xs)) ∧ Below w.heap.size w w' := by
  have H := Lib.hid h
  have HN := Lib.hid ht
  clear h ht
  have HL := Lib.hid H.out.1
  rcases hok : Tr.ok xs with _ | _
  · have Hf := Lib.hid (Tr.txt_no hok)
    have Hok := Lib.hid hok
    clear hok
    go_enter Tryd.func8, Tryd.ntmps8
    go_wp2_with fail
    refine (implTreeOk_any _ _ _ xs _ H.out hn hnc).mono ?_
    rintro e w1 ⟨rfl, hb1⟩
    rw [Hok.out]
    go_wp2
    go_ret
    exact ⟨by rw [Hf.out]; rfl, hb1⟩
  · have Hf := Lib.hid (Tr.txt_yes hok)
    have hle := (Tr.ok_iff.1 hok).2
    rw [HL.out] at hle
    have hbd := Lib.hid fun k => (Tr.ok_at (xs := xs) hok (k := k))
    have Hsz := Lib.hid (Tr.txtTo_size (xs := xs) (fun j hj => (Tr.ok_at hok hj).2.1))
    have Hok := Lib.hid hok
    have Hpos := Lib.hid (show 0 < n from hle.1)
    clear hok
    obtain ⟨ad, rfl, had⟩ := H.out.2.1 Hpos.out
    go_enter Tryd.func8, Tryd.ntmps8
    go_wp2_with fail
    refine (implTreeOk_any _ _ _ xs _ H.out hn hnc).mono ?_
    rintro e w1 ⟨rfl, hb1⟩
    have HB1 := Lib.hid hb1
    clear hb1
    have HN1 := Lib.hid (HN.out.below HB1.out)
    rw [Hok.out]
    obtain ⟨hl0, _⟩ := (H.out.below HB1.out).here Hpos.out
    have hl1 : w1.cell? ad = some (.int .i64 (Tr.l xs 0)) := by rw [Nat.zero_mul, Addr.add_zero'] at hl0; exact hl0
    have n0 : (0 : Int) < (n : Int) := by have := Hpos.out; omega
    go_wp2_with fail
    refine (implLabelName_any _ _ HN1.out).mono ?_
    rintro e w2 ⟨rfl, rfl⟩
    clear hl0 hl1 n0
    go_wp2
    go_loopw [4, 3] (fun iv sv wr => ∃ k : Nat, 0 < k ∧ k ≤ n ∧ iv = .int .i64 k ∧ sv = .string (Tr.txtTo xs k) ∧ Below w.heap.size w wr) (fun i _ _ => n - (intOf i).toNat)
    case atStart => exact ⟨1, by omega, Hpos.out, rfl, rfl, HB1.out⟩
    case round =>
      clear HN1 HB1
      obtain ⟨k, hk0, hk, rfl, rfl, hB⟩ := hrel
      have hsz := hB.size
      have HB := Lib.hid hB
      clear hB
      by_cases hlt : k < n
      · have H2 := Lib.hid (H.out.below HB.out)
        obtain ⟨hl, hd⟩ := H2.out.here hlt
        obtain ⟨hl', hd'⟩ := H2.out.here (show k - 1 < n by omega)
        have HD := Lib.hid (hbd.out k (by rw [HL.out]; exact hlt)).2.1
        have HP := Lib.hid (hbd.out (k - 1) (by rw [HL.out]; omega)).2.1
        have Hs := Lib.hid (Tr.txtTo_gap (xs := xs) hk0)
        have z1 := Hsz.out k (by rw [HL.out]; omega)
        have z2 := Txt.gap_size HP.out HD.out
        have z3 := Lab.name_size (Tr.l xs k)
        have y1 : ¬ 9223372036854775807 < (Txt.gap (Tr.d xs (k - 1)) (Tr.d xs k)).size + (Lab.name (Tr.l xs k)).size := by omega
        have y2 : ¬ 9223372036854775807 < (Tr.txtTo xs k).size + ((Txt.gap (Tr.d xs (k - 1)) (Tr.d xs k)).size + (Lab.name (Tr.l xs k)).size) := by omega
        have k0 : (0 : Int) ≤ (k : Int) := by omega
        have k1 : (k : Int) < (n : Int) := by omega
        have a3 : (1 : Int) ≤ (k : Int) := by omega
        have a4 : (k : Int) - 1 < (n : Int) := by omega
        have a5 : (0 : Int) ≤ (k : Int) - 1 := by omega
        have had2 : ad.block < wr.heap.size := by omega
        have HNr := Lib.hid (HN.out.below HB.out)
        have a2 : ((k : Int) - 1).toNat = k - 1 := by omega
        have a1 : IntKind.i64.wrap ((k : Int) - 1) = (k : Int) - 1 := Kit.w64 (by omega) (by omega)
        clear z1 z2 z3
        go_wp2_with fail
        have S0 := Lib.hid (show wr.drew.cell? ⟨(ad.add ((k - 1) * 2)).block, (ad.add ((k - 1) * 2)).off + 1, none⟩ = some (.int .i64 (Tr.d xs (k - 1))) ∧ wr.drew.cell? ⟨(ad.add (k * 2)).block, (ad.add (k * 2)).off + 1, none⟩ = some (.int .i64 (Tr.d xs k)) ∧ wr.drew.cell? (ad.add (k * 2)) = some (.int .i64 (Tr.l xs k)) ∧ TxtG w.heap.size w ad wr.drew from ⟨hd', hd, hl, Nat.le_refl _, HB.out.drew, had2, HNr.out⟩)
        go_region_held3 (fun wq => wq.cell? ⟨(ad.add ((k - 1) * 2)).block, (ad.add ((k - 1) * 2)).off + 1, none⟩ = some (.int .i64 (Tr.d xs (k - 1))) ∧ wq.cell? ⟨(ad.add (k * 2)).block, (ad.add (k * 2)).off + 1, none⟩ = some (.int .i64 (Tr.d xs k)) ∧ wq.cell? (ad.add (k * 2)) = some (.int .i64 (Tr.l xs k)) ∧ TxtG w.heap.size w ad wq) (first | exact S0.out | (refine txt_keep ?_ hb; assumption)) (first | (go_at_call 19; refine (textBetween_any _ _ HP.out HD.out _).mono ?_; rintro e w' ⟨rfl, hb⟩) | (go_at_call 18; refine (implLabelName_any _ _ (txt_names (by assumption))).mono ?_; rintro e w' ⟨rfl, rfl⟩; have hb := Below.refl w'.heap.size w'))
        all_goals
          clear a1 a2
          have HG := Lib.hid (show TxtG w.heap.size w ad w' by (first | (rename_i q; exact q.2.2.2) | (rename_i q _; exact q.2.2.2)))
          go_wp2
          go_roundw
          case rel => exact ⟨k + 1, by omega, by omega, by go_num, by rw [Hs.out], HG.out.2.1⟩
          case measure => simp [intOf]; omega
      · obtain rfl : k = n := by omega
        have z1 := Hsz.out k (by rw [HL.out]; exact hk)
        have hPb := (hbd.out (k - 1) (by rw [HL.out]; omega)).2.1
        obtain ⟨m, hm⟩ := Int.eq_ofNat_of_zero_le hPb.1
        have Hf' := Lib.hid (show Tr.txt xs = Tr.txtTo xs k ++ Txt.close m by rw [Hf.out, HL.out, hm]; rfl)
        obtain ⟨_, hd'⟩ := (H.out.below HB.out).here (show k - 1 < k by omega)
        rw [hm] at hd' hPb
        have zc := Txt.close_size m
        have m0 : m ≤ 1048576 := by omega
        have y1 : ¬ 9223372036854775807 < (Tr.txtTo xs k).size + (Txt.close m).size := by omega
        have a1 : IntKind.i64.wrap ((k : Int) - 1) = (k : Int) - 1 := Kit.w64 (by omega) (by omega)
        have a2 : ((k : Int) - 1).toNat = k - 1 := by omega
        have a3 : (1 : Int) ≤ (k : Int) := by omega
        have a4 : (k : Int) - 1 < (k : Int) := by omega
        clear hm hPb
        go_wp2_with fail
        refine (repeat_any m m0 _).mono ?_
        rintro e w1 ⟨rfl, hb⟩
        have HB2 := Lib.hid (HB.out.trans (hb.mono hsz))
        clear hb
        go_wp2
        go_ret
        exact ⟨by rw [Hf'.out]; rfl, HB2.out⟩

end Go.Proofs.YtemionefggiknaaDoor
