/- Contracts (SubI). -/
import Derived.Test.YtkpogjfaimpkdaaEndOfI
import Derived.Test.YtkpogjfaimpkdaaCloneI
import Derived.StillTailTactics
namespace Go.Proofs.Ytkpogjfaimpkdaa
open Go.RowKit
set_option linter.unusedVariables false

/-- a cut of a slice of nodes -/
theorem NdIn.cut {w : World} {B n : Nat} {ad : Addr} {xs : Tr} (h : NdIn w B (some ad) n xs) {j m : Nat} (hjm : j + m ≤ n) : NdIn w B (some (ad.add (j * 2))) m ((xs.drop j).take m) := by
  refine ⟨by have := h.1; simp; omega, fun hm => ⟨_, rfl, ?_⟩, fun ad' e k hk => ?_⟩
  · rw [block_of_add]
    obtain ⟨ad', e, hb⟩ := h.2.1 (by omega)
    obtain rfl : ad = ad' := by injection e
    exact hb
  · obtain rfl : ad.add (j * 2) = ad' := by injection e
    have hc := h.2.2 ad rfl (j + k) (by omega)
    have hg : ((xs.drop j).take m).getD k (0, 0) = xs.getD (j + k) (0, 0) := by
      simp [List.getD_eq_getElem?_getD, hk]
    rw [add_of_add, add_of_add, show j * 2 + k * 2 = (j + k) * 2 by omega, show j * 2 + (k * 2 + 1) = (j + k) * 2 + 1 by omega]
    simp only [Tr.l, Tr.d] at hc ⊢
    rw [hg]
    exact hc
theorem Tr.cells_set_odd (xs : Tr) (k : Nat) (b : Int) : (Tr.cells xs).set (k * 2 + 1) (.int .i64 b) = Tr.cells (xs.set k (Tr.l xs k, b)) := by
  induction xs generalizing k with
  | nil => simp [Tr.cells]
  | cons x l ih =>
    cases k with
    | zero => simp [Tr.cells, Tr.l]
    | succ k =>
      have := ih k
      simp only [Tr.cells, Tr.l] at this ⊢
      simpa [show (k + 1) * 2 = k * 2 + 1 + 1 by omega] using this
/-- m nodes from j on, the first k of them lowered -/
def Tr.mid (xs : Tr) (j m k : Nat) : Tr := (List.range m).map fun t => (Tr.l xs (j + t), if t < k then Tr.d xs (j + t) - Tr.d xs j else Tr.d xs (j + t))
theorem Tr.mid_length (xs : Tr) (j m k : Nat) : (Tr.mid xs j m k).length = m := by simp [Tr.mid]
theorem Tr.mid_l (xs : Tr) (j m k t : Nat) (h : t < m) : Tr.l (Tr.mid xs j m k) t = Tr.l xs (j + t) := by simp [Tr.mid, Tr.l, List.getD_eq_getElem?_getD, h]
theorem Tr.mid_d (xs : Tr) (j m k t : Nat) (h : t < m) : Tr.d (Tr.mid xs j m k) t = if t < k then Tr.d xs (j + t) - Tr.d xs j else Tr.d xs (j + t) := by
  simp only [Tr.mid, Tr.d, List.getD_eq_getElem?_getD]
  rw [List.getElem?_map, List.getElem?_range h]
  rfl
theorem Tr.mid_none (xs : Tr) (j m : Nat) (h : j + m ≤ xs.length) : Tr.mid xs j m 0 = (xs.drop j).take m := by
  refine Tr.ext (by simp [Tr.mid]; omega) fun k hk => ?_
  rw [Tr.mid_length] at hk
  have hg : ((xs.drop j).take m).getD k (0, 0) = xs.getD (j + k) (0, 0) := by
    simp [List.getD_eq_getElem?_getD, hk]
  rw [Tr.mid_l _ _ _ _ _ hk, Tr.mid_d _ _ _ _ _ hk, if_neg (by omega)]
  simp only [Tr.l, Tr.d, hg]
  trivial
theorem Tr.mid_all (xs : Tr) (j k : Nat) (h : j ≤ k) : Tr.mid xs j (k - j) (k - j) = Tr.subTo xs j k := by
  unfold Tr.mid Tr.subTo
  refine List.map_congr_left fun t ht => ?_
  rw [if_pos (List.mem_range.1 ht)]
theorem Tr.mid_set (xs : Tr) (j m k : Nat) (h : k < m) : (Tr.mid xs j m k).set k (Tr.l xs (j + k), Tr.d xs (j + k) - Tr.d xs j) = Tr.mid xs j m (k + 1) := by
  refine List.ext_getElem (by simp [Tr.mid]) fun t h1 h2 => ?_
  rw [Tr.mid_length] at h2
  by_cases e : t = k
  · subst e
    simp [Tr.mid]
  · rw [List.getElem_set_ne (by omega)]
    simp only [Tr.mid, List.getElem_map, List.getElem_range]
    by_cases q : t < k
    · rw [if_pos q, if_pos (by omega)]
    · rw [if_neg q, if_neg (by omega)]

set_option maxHeartbeats 800000 in
set_option maxRecDepth 100000 in
theorem implSubTree_any (A : Option Addr) (n c : Nat) (xs : Tr) (i : Int) (w : World) (h : NdIn w w.heap.size A n xs) (hn : n ≤ 1048576) (hnc : n ≤ c) :
    Calls Try.prog 23 #[.slice A n c, .int .i64 i] w (OwnNodes 32 (Tr.subTree xs i) w) := by
  have H := Lib.hid h
  clear h
  have HL := Lib.hid H.out.1
  rcases hok : Tr.has xs i with _ | _
  · have Hf := Lib.hid (Tr.subTree_no hok)
    have Hok := Lib.hid hok
    clear hok
    go_enter Try.func23, Try.ntmps23
    go_wp2_with fail
    refine (hasNode_any _ _ _ xs _ _ H.out hn hnc).mono ?_
    rintro e w1 ⟨rfl, hb1⟩
    have HB := Lib.hid hb1
    clear hb1
    rw [Hok.out]
    go_wp2
    go_ret
    exact ⟨_, _, by rw [Hf.out]; rfl, by rw [Hf.out]; exact own_nil, HB.out⟩
  · have h1 := (Tr.has_iff.1 hok).2
    have h0 := (Tr.has_iff.1 hok).1
    rw [HL.out] at h1
    have hbd := Lib.hid fun k => Tr.ok_at (xs := xs) h0 (k := k)
    obtain ⟨j, rfl⟩ := Int.eq_ofNat_of_zero_le h1.1
    have hj : j < n := by omega
    have Hf := Lib.hid (Tr.subTree_yes hok)
    have He := Lib.hid (Tr.endOf_yes hok)
    have hE := Tr.endN_spec xs j (by rw [HL.out]; exact hj)
    have hE1 := hE.1
    have hE2 := hE.2.1
    rw [HL.out] at hE2
    have Hok := Lib.hid hok
    clear hok h1 h0 hE
    obtain ⟨ad, rfl, _⟩ := H.out.2.1 (by omega)
    have hcj : ¬ c = j := by omega
    have hec : ((Tr.endN xs j : Nat) : Int) ≤ (c : Int) := by omega
    have hje : (j : Int) ≤ ((Tr.endN xs j : Nat) : Int) := by omega
    go_enter Try.func23, Try.ntmps23
    go_wp2_with fail
    refine (hasNode_any _ _ _ xs _ _ H.out hn hnc).mono ?_
    rintro e w1 ⟨rfl, hb1⟩
    have H1 := Lib.hid (H.out.to_below hb1)
    have HB1 := Lib.hid hb1
    clear hb1
    rw [Hok.out]
    go_wp2_with fail
    refine (implEndOf_any _ _ _ xs _ _ H1.out hn hnc).mono ?_
    rintro e w2 ⟨rfl, hb2⟩
    have H2 := Lib.hid (H1.out.to_below hb2)
    have HB2 := Lib.hid (HB1.out.trans (hb2.mono HB1.out.size))
    clear hb2
    rw [He.out]
    go_wp2_with fail
    refine (cloneNode_any _ _ _ ((xs.drop j).take (Tr.endN xs j - j)) _ (H2.out.cut (by omega)) (by omega)).mono ?_
    rintro e w3 ⟨A3, c3, rfl, hown3, hb3⟩
    rw [← Tr.mid_none xs j _ (by rw [HL.out]; omega), Tr.mid_length] at hown3
    have Hlen := Lib.hid (show ((xs.drop j).take (Tr.endN xs j - j)).length = Tr.endN xs j - j by simp [HL.out]; omega)
    rw [Hlen.out]
    obtain ⟨g, rfl, hg1, hg2⟩ := own_form hown3 (by omega)
    have Ho3 := Lib.hid hown3
    have Hb3 := Lib.hid hb3
    have H3 := Lib.hid (H2.out.to_below hb3)
    have HB3 := Lib.hid (HB2.out.trans (hb3.mono HB2.out.size))
    have hsz2 := HB2.out.size
    have hm : 0 < Tr.endN xs j - j := by omega
    have Hm := Lib.hid (Tr.mid_all xs j (Tr.endN xs j) (by omega))
    obtain ⟨m, hmm⟩ : ∃ m, m = Tr.endN xs j - j := ⟨_, rfl⟩
    have Hsub := Lib.hid (show Tr.subTree xs (j : Int) = Tr.mid xs j m m by rw [Hf.out, ← Hm.out, hmm])
    have hjm : j + m ≤ n := by omega
    rw [← hmm] at Ho3 ⊢
    clear hown3 hb3 Hlen Hm hmm hm hec hje hE1 hE2 He Hf hcj
    go_wp2
    go_loopw [20] (fun kv wr => ∃ k : Nat, k ≤ m ∧ kv = .int .i64 k ∧ wr.ownsRow w2.heap.size 32 2 (.slice (some ⟨g, 0, none⟩) m c3) m (Tr.cells (Tr.mid xs j m k)) ∧ Below w2.heap.size w2 wr) (fun k _ => m - (intOf k).toNat)
    case atStart => exact ⟨0, by omega, rfl, Ho3.out, Hb3.out⟩
    case round =>
      obtain ⟨k, hk, rfl, hown, hB⟩ := hrel
      have Ho := Lib.hid hown
      have HB := Lib.hid hB
      by_cases hlt : k < m
      · obtain ⟨hl', hd'⟩ := (H2.out.below hB).here hj
        have c1 := own_odd hown (k := k) (by rw [Tr.mid_length]; exact hlt)
        rw [Tr.mid_d _ _ _ _ _ hlt, if_neg (by omega)] at c1
        have f1 := hown.frozenAt (k * 2 + 1)
        have hbj := (hbd.out j (by rw [HL.out]; exact hj)).2.1
        have hbk := (hbd.out (j + k) (by rw [HL.out]; omega)).2.1
        have a5 : IntKind.i64.wrap (Tr.d xs (j + k) - Tr.d xs j) = Tr.d xs (j + k) - Tr.d xs j := Kit.w64 (by omega) (by omega)
        have b0 : (0 : Int) ≤ (k : Int) := by omega
        have b1 : (k : Int) < (m : Int) := by omega
        have b2 : (0 : Int) ≤ (j : Int) := by omega
        have b3 : (j : Int) < (n : Int) := by omega
        clear hown hB hl' hbj hbk
        go_wp2
        go_still_tail 13, (by kernel_rfl)
        change wpList _ _ _ _ _ wr.drew
        clear a5
        go_wp2
        go_roundw
        case rel =>
          refine ⟨k + 1, by omega, by go_num, ?_, (HB.out.setCell (by exact hg1) _).drew⟩
          have := (Ho.out.stored (k * 2 + 1) (.int .i64 (Tr.d xs (j + k) - Tr.d xs j))).1
          rw [Tr.cells_set_odd, Tr.mid_l _ _ _ _ _ hlt, Tr.mid_set _ _ _ _ hlt] at this
          exact this
        case measure => simp [intOf]; omega
      · obtain rfl : k = m := by omega
        clear hown hB
        go_wp2
        go_ret
        exact ⟨some ⟨g, 0, none⟩, c3, by rw [Hsub.out, Tr.mid_length]; rfl, by rw [Hsub.out, Tr.mid_length]; exact own_base Ho.out hsz2, HB2.out.trans (HB.out.mono hsz2)⟩

end Go.Proofs.Ytkpogjfaimpkdaa
