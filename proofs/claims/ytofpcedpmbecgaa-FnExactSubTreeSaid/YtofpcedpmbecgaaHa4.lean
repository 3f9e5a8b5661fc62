/- Texts of one claim laid into one file, in build order: ShI, BoxC, Bxc, Cbx, SubI, NdPt, NdTo, NdSm, NdEq. -/
import Derived.Test.YtofpcedpmbecgaaHa1
import Derived.Test.YtofpcedpmbecgaaHa2
import Derived.Test.YtofpcedpmbecgaaHa3
import Derived.Deep.RegionHeld3
import Derived.Laws.Entries
import Derived.Laws.MakeOwn
import Derived.Outline
import Derived.StillTailTactics
import Derived.Test.YtofpcedpmbecgaaRows
/- Contracts (ShI). -/
namespace Go.Proofs.Ytofpcedpmbecgaa
open Go.RowKit
set_option linter.unusedVariables false

/-- a cut of a slice of nodes -/
theorem NdIn.cut {w : World} {B n : Nat} {ad : Addr} {xs : Tr} (h : NdIn w B (some ad) n xs) {j m : Nat} (hjm : j + m ≤ n) : NdIn w B (some (ad.add (j * 2))) m ((xs.drop j).take m) := by
  refine ⟨by have := h.1; simp; omega, fun hm => ⟨_, rfl, ?_⟩, fun ad' e k hk => ?_⟩
  · rw [block_of_add]
    obtain ⟨ad', e, hb⟩ := h.2.1 (by omega)
    obtain rfl : ad = ad' := by injection e
    exact hb
  · obtain rfl : ad.add (j * 2) = ad' := by injection e
    have hc := h.2.2 ad rfl (j + k) (by omega)
    have hg : ((xs.drop j).take m).getD k (0, 0) = xs.getD (j + k) (0, 0) := by
      simp [List.getD_eq_getElem?_getD, hk]
    rw [add_of_add, add_of_add, show j * 2 + k * 2 = (j + k) * 2 by omega, show j * 2 + (k * 2 + 1) = (j + k) * 2 + 1 by omega]
    simp only [Tr.l, Tr.d] at hc ⊢
    rw [hg]
    exact hc
theorem Tr.cells_set_odd (xs : Tr) (k : Nat) (b : Int) : (Tr.cells xs).set (k * 2 + 1) (.int .i64 b) = Tr.cells (xs.set k (Tr.l xs k, b)) := by
  induction xs generalizing k with
  | nil => simp [Tr.cells]
  | cons x l ih =>
    cases k with
    | zero => simp [Tr.cells, Tr.l]
    | succ k =>
      have := ih k
      simp only [Tr.cells, Tr.l] at this ⊢
      simpa [show (k + 1) * 2 = k * 2 + 1 + 1 by omega] using this
/-- the first k nodes that many levels deeper -/
def Tr.up (xs : Tr) (dd : Int) (k : Nat) : Tr := (List.range xs.length).map fun t => (Tr.l xs t, if t < k then Tr.d xs t + dd else Tr.d xs t)
theorem Tr.up_length (xs : Tr) (dd : Int) (k : Nat) : (Tr.up xs dd k).length = xs.length := by simp [Tr.up]
theorem Tr.up_l {xs : Tr} {dd : Int} {k t : Nat} (h : t < xs.length) : Tr.l (Tr.up xs dd k) t = Tr.l xs t := by simp [Tr.up, Tr.l, List.getD_eq_getElem?_getD, h]
theorem Tr.up_d {xs : Tr} {dd : Int} {k t : Nat} (h : t < xs.length) : Tr.d (Tr.up xs dd k) t = if t < k then Tr.d xs t + dd else Tr.d xs t := by
  simp only [Tr.up, Tr.d, List.getD_eq_getElem?_getD]
  rw [List.getElem?_map, List.getElem?_range h]
  rfl
theorem Tr.up_none (xs : Tr) (dd : Int) : Tr.up xs dd 0 = xs := by
  refine Tr.ext (Tr.up_length _ _ _) fun k hk => ?_
  rw [Tr.up_length] at hk
  rw [Tr.up_l hk, Tr.up_d hk, if_neg (by omega)]
  exact ⟨rfl, rfl⟩
theorem Tr.up_set (xs : Tr) (dd : Int) (k : Nat) (h : k < xs.length) : (Tr.up xs dd k).set k (Tr.l xs k, Tr.d xs k + dd) = Tr.up xs dd (k + 1) := by
  refine List.ext_getElem (by simp [Tr.up]) fun t h1 h2 => ?_
  rw [Tr.up_length] at h2
  by_cases e : t = k
  · subst e
    simp [Tr.up]
  · rw [List.getElem_set_ne (by omega)]
    simp only [Tr.up, List.getElem_map, List.getElem_range]
    by_cases q : t < k
    · rw [if_pos q, if_pos (by omega)]
    · rw [if_neg q, if_neg (by omega)]
/-- nodes cut out and shifted -/
theorem Tr.up_cut (xs : Tr) (dd : Int) {j m : Nat} (h : j + m ≤ xs.length) : Tr.up ((xs.drop j).take m) dd m = (List.range m).map fun t => (Tr.l xs (j + t), Tr.d xs (j + t) + dd) := by
  have hl : ((xs.drop j).take m).length = m := by simp; omega
  unfold Tr.up
  rw [hl]
  refine List.map_congr_left fun t ht => ?_
  have ht := List.mem_range.1 ht
  have hg : ((xs.drop j).take m).getD t (0, 0) = xs.getD (j + t) (0, 0) := by simp [List.getD_eq_getElem?_getD, ht]
  rw [if_pos ht]
  simp only [Tr.l, Tr.d, hg]
theorem Tr.up_sub (xs : Tr) {j k : Nat} (h : k ≤ xs.length) (hjk : j ≤ k) : Tr.up ((xs.drop j).take (k - j)) (-(Tr.d xs j)) (k - j) = Tr.subTo xs j k := by
  rw [Tr.up_cut xs _ (by omega)]
  rfl

set_option maxHeartbeats 800000 in
set_option maxRecDepth 100000 in
theorem shifted_any (ad : Addr) (n c : Nat) (xs : Tr) (dd : Int) (w : World) (h : NdIn w w.heap.size (some ad) n xs) (hn : n ≤ 1048576) (hd : -4000 ≤ dd ∧ dd ≤ 4000) (hx : ∀ k, k < n → -4000 ≤ Tr.d xs k ∧ Tr.d xs k ≤ 4000) :
    Calls Try.prog 55 #[.slice (some ad) n c, .int .i64 dd] w (OwnNodes 40 (Tr.up xs dd n) w) := by
  have H := Lib.hid h
  clear h
  have HL := Lib.hid H.out.1
  have HX := Lib.hid hx
  clear hx
  go_enter Try.func55, Try.ntmps55
  go_wp2_with fail
  refine (cloneNode_any _ _ _ xs _ H.out hn).mono ?_
  rintro e w3 ⟨A3, c3, rfl, hown3, hb3⟩
  rw [HL.out] at hown3 ⊢
  have Ho3 := Lib.hid hown3
  have Hb3 := Lib.hid hb3
  have H3 := Lib.hid (H.out.to_below hb3)
  clear hown3 hb3
  go_wp2
  go_loopw [11] (fun kv wr => ∃ k : Nat, k ≤ n ∧ kv = .int .i64 k ∧ wr.ownsRow w.heap.size 40 2 (.slice A3 n c3) n (Tr.cells (Tr.up xs dd k)) ∧ Below w.heap.size w wr) (fun k _ => n - (intOf k).toNat)
  case atStart => exact ⟨0, by omega, rfl, by rw [Tr.up_none]; exact Ho3.out, Hb3.out⟩
  case round =>
    obtain ⟨k, hk, rfl, hown, hB⟩ := hrel
    have Ho := Lib.hid hown
    have HB := Lib.hid hB
    by_cases hlt : k < n
    · obtain ⟨g, rfl, hg1, hg2⟩ := own_form hown (by omega)
      have hlx : k < xs.length := by rw [HL.out]; exact hlt
      have c1 := own_odd hown (k := k) (by rw [Tr.up_length]; exact hlx)
      rw [Tr.up_d hlx, if_neg (by omega)] at c1
      have f1 := hown.frozenAt (k * 2 + 1)
      have hbk := HX.out k hlt
      have a5 : IntKind.i64.wrap (Tr.d xs k + dd) = Tr.d xs k + dd := Kit.w64 (by omega) (by omega)
      clear hown hB hbk hg2
      go_wp2
      go_roundw
      case rel =>
        refine ⟨k + 1, by omega, by go_num, ?_, HB.out.setCell (by exact hg1) _⟩
        have := (Ho.out.stored (k * 2 + 1) (.int .i64 (Tr.d xs k + dd))).1
        rw [Tr.cells_set_odd, Tr.up_l hlx, Tr.up_set _ _ _ hlx] at this
        exact this
      case measure => simp [intOf]; omega
    · obtain rfl : k = n := by omega
      clear hown hB
      go_wp2
      go_ret
      exact ⟨A3, c3, by rw [Tr.up_length, HL.out]; rfl, by rw [Tr.up_length, HL.out]; exact Ho.out, HB.out⟩

end Go.Proofs.Ytofpcedpmbecgaa

/- Contracts (BoxC). -/
namespace Go.Proofs.Ytofpcedpmbecgaa
open Go.RowKit
set_option linter.unusedVariables false

/-- a block of three cells -/
def Box3 (w : World) (g : Nat) (v0 v1 v2 : Value) : Prop := w.cell? ⟨g, 0, none⟩ = some v0 ∧ w.cell? ⟨g, 1, none⟩ = some v1 ∧ w.cell? ⟨g, 2, none⟩ = some v2
theorem Box3.drawn {w w' : World} {g : Nat} {v0 v1 v2 : Value} (h : Box3 w g v0 v1 v2) (hd : Drawn w w') : Box3 w' g v0 v1 v2 := ⟨(hd.cell _).trans h.1, (hd.cell _).trans h.2.1, (hd.cell _).trans h.2.2⟩
theorem Box3.below {w w' : World} {g B : Nat} {v0 v1 v2 : Value} (h : Box3 w g v0 v1 v2) (hb : Below B w w') (hg : g < B) : Box3 w' g v0 v1 v2 := ⟨(hb.cell (p := ⟨g, 0, none⟩) hg).trans h.1, (hb.cell (p := ⟨g, 1, none⟩) hg).trans h.2.1, (hb.cell (p := ⟨g, 2, none⟩) hg).trans h.2.2⟩
theorem Box3.alloc {w : World} {g : Nat} {v0 v1 v2 : Value} (h : Box3 w g v0 v1 v2) (hg : g < w.heap.size) (o : Obj) : Box3 (w.alloc o) g v0 v1 v2 :=
  ⟨(World.cell?_alloc_lt w o ⟨g, 0, none⟩ hg).trans h.1, (World.cell?_alloc_lt w o ⟨g, 1, none⟩ hg).trans h.2.1, (World.cell?_alloc_lt w o ⟨g, 2, none⟩ hg).trans h.2.2⟩

end Go.Proofs.Ytofpcedpmbecgaa

/- Contracts (Bxc). -/
namespace Go.Proofs.Ytofpcedpmbecgaa
open Go.RowKit
set_option linter.unusedVariables false

/-- below a world's blocks nothing has turned -/
def BelA (w wq : World) : Prop := Below w.heap.size w wq
section
variable {wa wx wy : World} {b : Nat} {v0 v1 v2 : Value}
end

end Go.Proofs.Ytofpcedpmbecgaa

/- Contracts (Cbx). -/
namespace Go.Proofs.Ytofpcedpmbecgaa
open Go.RowKit
set_option linter.unusedVariables false

section
variable {wa wx wy : World} {p0 : Addr} {v0 : Value}
theorem c1_below (h : wx.cell? p0 = some v0 ∧ BelA wa wx) : Below wa.heap.size wa wx := h.2
theorem c1_keep (h : wx.cell? p0 = some v0 ∧ BelA wa wx) (hb : Below wx.heap.size wx wy) : wy.cell? p0 = some v0 ∧ BelA wa wy := by
  have c : ∀ {p : Addr} {v : Value}, wx.cell? p = some v → wy.cell? p = some v := fun hc => (hb.cell (World.block_lt_of_cell? _ _ hc)).trans hc
  exact ⟨c h.1, h.2.trans (hb.mono h.2.size)⟩
end
section
variable {wa wx wy : World} {p0 p1 : Addr} {v0 v1 : Value}
end
section
variable {wa wx wy : World} {p0 p1 p2 : Addr} {v0 v1 v2 : Value}
end
section
variable {wa wx wy : World} {p0 p1 p2 p3 : Addr} {v0 v1 v2 v3 : Value}
end
section
variable {wa wx wy : World} {p0 p1 p2 p3 p4 : Addr} {v0 v1 v2 v3 v4 : Value}
end

end Go.Proofs.Ytofpcedpmbecgaa

/- Contracts (SubI). -/
namespace Go.Proofs.Ytofpcedpmbecgaa
open Go.RowKit
set_option linter.unusedVariables false

set_option maxHeartbeats 800000 in
set_option maxRecDepth 100000 in
theorem implSubTree_any (A : Option Addr) (n c : Nat) (xs : Tr) (i : Int) (w : World) (h : NdIn w w.heap.size A n xs) (hn : n ≤ 1048576) (hnc : n ≤ c) :
    Calls Try.prog 14 #[.slice A n c, .int .i64 i] w (OwnNodes 40 (Tr.subTree xs i) w) := by
  have H := Lib.hid h
  clear h
  have HL := Lib.hid H.out.1
  rcases hok : Tr.has xs i with _ | _
  · have Hf := Lib.hid (Tr.subTree_no hok)
    have Hok := Lib.hid hok
    clear hok
    go_enter Try.func14, Try.ntmps14
    go_wp2_with fail
    refine (hasNode_any _ _ _ xs _ _ H.out hn hnc).mono ?_
    rintro e w1 ⟨rfl, hb1⟩
    have HB := Lib.hid hb1
    clear hb1
    rw [Hok.out]
    go_wp2
    go_ret
    exact ⟨_, _, by rw [Hf.out]; rfl, by rw [Hf.out]; exact own_nil, HB.out⟩
  · have h1 := (Tr.has_iff.1 hok).2
    have h0 := (Tr.has_iff.1 hok).1
    rw [HL.out] at h1
    have hbd := Lib.hid fun k => Tr.ok_at (xs := xs) h0 (k := k)
    obtain ⟨j, rfl⟩ := Int.eq_ofNat_of_zero_le h1.1
    have hj : j < n := by omega
    have Hf := Lib.hid (Tr.subTree_yes hok)
    have He := Lib.hid (Tr.endOf_yes hok)
    have hE := Tr.endN_spec xs j (by rw [HL.out]; exact hj)
    have hE1 := hE.1
    have hE2 := hE.2.1
    rw [HL.out] at hE2
    have Hok := Lib.hid hok
    clear hok h1 h0 hE
    obtain ⟨ad, rfl, _⟩ := H.out.2.1 (by omega)
    have hcj : ¬ c = j := by omega
    have hec : ((Tr.endN xs j : Nat) : Int) ≤ (c : Int) := by omega
    have hje : (j : Int) ≤ ((Tr.endN xs j : Nat) : Int) := by omega
    go_enter Try.func14, Try.ntmps14
    go_wp2_with fail
    refine (hasNode_any _ _ _ xs _ _ H.out hn hnc).mono ?_
    rintro e w1 ⟨rfl, hb1⟩
    have H1 := Lib.hid (H.out.to_below hb1)
    have HB1 := Lib.hid hb1
    clear hb1
    rw [Hok.out]
    have H1' := Lib.hid (H1.out : NdIn w1.drew w1.heap.size (some ad) n xs)
    obtain ⟨hl', hd'⟩ := H1.out.here hj
    have bj := (hbd.out j (by rw [HL.out]; exact hj)).2.1
    have a5 : IntKind.i64.wrap (-Tr.d xs j) = -Tr.d xs j := Kit.w64 (by omega) (by omega)
    have b2 : (0 : Int) ≤ (j : Int) := by omega
    have b3 : (j : Int) < (n : Int) := by omega
    have C0 := Lib.hid (fun (wq : World) (hb : Below w1.heap.size w1 wq) => show Calls Try.prog 16 #[.slice (some ad) n c, .int .i64 (j : Int)] wq fun e w' => e = .returned (.int .i64 ((Tr.endN xs j : Nat) : Int)) ∧ Below wq.heap.size wq w' from by
      have := implEndOf_any (some ad) n c xs (j : Int) wq (H1.out.to_below hb) hn hnc
      rw [He.out] at this
      exact this)
    have C1 := Lib.hid (fun (wq : World) (hb : Below w1.heap.size w1 wq) (c' : Nat) => show Calls Try.prog 55 #[.slice (some (ad.add (j * 2))) (Tr.endN xs j - j) c', .int .i64 (-Tr.d xs j)] wq (OwnNodes 40 (Tr.subTree xs (j : Int)) wq) from by
      have hc := (H1.out.to_below hb).cut (j := j) (m := Tr.endN xs j - j) (by omega)
      have := shifted_any _ (Tr.endN xs j - j) c' _ (-Tr.d xs j) wq hc (by omega) (by omega) (fun k hk => by
        have hg : ((xs.drop j).take (Tr.endN xs j - j)).getD k (0, 0) = xs.getD (j + k) (0, 0) := by simp [List.getD_eq_getElem?_getD, hk]
        have := (hbd.out (j + k) (by rw [HL.out]; omega)).2.1
        simp only [Tr.d, hg] at this ⊢
        omega)
      rw [Tr.up_sub xs (by rw [HL.out]; exact hE2) (by omega), ← Hf.out] at this
      exact this)
    have S0 := Lib.hid (show w1.drew.cell? ⟨(ad.add (j * 2)).block, (ad.add (j * 2)).off + 1, none⟩ = some (.int .i64 (Tr.d xs j)) ∧ BelA w1 w1.drew from ⟨hd', (Drawn.refl _).drew.toBelow⟩)
    have hs1 := HB1.out.size
    clear hl' hd' bj hE1 hE2
    go_wp2_with fail
    go_region_held3 (fun wq => wq.cell? ⟨(ad.add (j * 2)).block, (ad.add (j * 2)).off + 1, none⟩ = some (.int .i64 (Tr.d xs j)) ∧ BelA w1 wq) (first | (with_reducible exact SD) | (with_reducible exact SC) | (with_reducible exact S0.out)) (first | ((go_at_call 16; with_reducible refine (C0.out _ (c1_below (by assumption))).mono ?_); rintro e w5 ⟨rfl, hb5⟩; have SC := c1_keep (by assumption) hb5) | (go_loud (go_at_call 55; refine (C1.out _ (c1_below SC) _).mono ?_; rintro e w6 ⟨A6, c6, rfl, ho6, hb6⟩; have hs6 := (c1_below SC).size; have SD := c1_keep SC hb6)))
    have HE := Lib.hid (HB1.out.trans ((c1_below SD).mono hs1))
    go_wp2
    go_ret
    exact ⟨_, _, rfl, own_base ho6 (by omega), HE.out⟩

end Go.Proofs.Ytofpcedpmbecgaa

/- Lists of which the first part is laid (NdPt). -/
namespace Go.Proofs.Ytofpcedpmbecgaa
open Go.RowKit
set_option linter.unusedVariables false

/-- the first k nodes of xs, then zeros -/
def Tr.part (xs : Tr) (k : Nat) : Tr := xs.take k ++ List.replicate (xs.length - k) (0, 0)
theorem Tr.part_length (xs : Tr) (k : Nat) (hk : k ≤ xs.length) : (Tr.part xs k).length = xs.length := by simp [Tr.part]; omega
theorem Tr.part_set (xs : Tr) (k : Nat) (hk : k < xs.length) : (Tr.part xs k).set k (Tr.l xs k, Tr.d xs k) = Tr.part xs (k + 1) := by
  unfold Tr.part
  rw [List.set_append_right _ _ (by simp; omega)]
  rw [List.take_succ_eq_append_getElem hk, List.append_assoc]
  congr 1
  rw [show xs.length - k = (xs.length - (k + 1)) + 1 by omega, List.replicate_succ]
  simp [Tr.l, Tr.d, List.getD_eq_getElem?_getD, hk, show k - min k xs.length = 0 by omega]
theorem Tr.part_full (xs : Tr) : Tr.part xs xs.length = xs := by simp [Tr.part]
theorem Tr.part_none (xs : Tr) : Tr.part xs 0 = List.replicate xs.length (0, 0) := by simp [Tr.part]

theorem made_nodes (n : Nat) : (madeCells (Value.agg #[.int .i64 0, .int .i64 0]).cells (n * 2)).toList = Tr.cells (List.replicate n (0, 0)) := by
  have h1 (m : Nat) : Tr.cells (List.replicate m (0, 0)) = List.replicate (m * 2) (.int .i64 0) := by
    induction m with
    | zero => rfl
    | succ m ih => rw [List.replicate_succ, show (m + 1) * 2 = m * 2 + 1 + 1 by omega, List.replicate_succ, List.replicate_succ, ← ih]; rfl
  rw [h1]
  apply List.ext_getElem?
  intro j
  by_cases hj : j < n * 2
  · have h2 : j % 2 = 0 ∨ j % 2 = 1 := by omega
    rcases h2 with h2 | h2 <;> simp [madeCells, hj, h2, Value.cells]
  · simp [madeCells, hj]

end Go.Proofs.Ytofpcedpmbecgaa

/- Contracts of the harness over []Node: size, copy. -/
namespace Go.Proofs.Ytofpcedpmbecgaa
open Go.RowKit
set_option linter.unusedVariables false

set_option maxHeartbeats 400000 in
theorem szNodeS_any (A : Option Addr) (n c : Nat) (left : Int) (w : World) (hn : n ≤ 9223372036854775807) (h0 : 0 ≤ left) (h1 : left ≤ 1048576) :
    Calls Try.prog 31 #[.slice A n c, .int .i64 left] w fun e w' => e = .returned (.int .i64 (if (n : Int) ≤ left then left - n else -1)) ∧ w = w' := by
  by_cases h : (n : Int) ≤ left
  · rw [if_pos h]
    go_enter Try.func31, Try.ntmps31
    go_wp2
    go_ret
    exact ⟨rfl, rfl⟩
  · rw [if_neg h]
    go_enter Try.func31, Try.ntmps31
    go_wp2
    go_ret
    exact ⟨rfl, rfl⟩

set_option maxHeartbeats 400000 in
theorem toNode_any (a b : Int) (w : World) :
    Calls Try.prog 74 #[.agg #[.int .i64 a, .int .i64 b]] w fun e w' => e = .returned (.agg #[.int .i64 a, .int .i64 b]) ∧ Below w.heap.size w w' := by
  go_enter Try.func74, Try.ntmps74
  go_wp2
  exact bodyPost_ret (v := .agg #[.int .i64 a, .int .i64 b]) (by simp [results, Try.results74, go_sem]) rfl ⟨rfl, by repeat' (first | exact Below.refl _ _ | refine Below.alloc ?_ (by simp [Nat.le_add_right, Nat.add_assoc]) _ | refine Below.setCell ?_ (by simp [Nat.add_assoc]) _)⟩

theorem info_node : (Try.prog.info? 40).map (fun i => (i.zero, i.size, i.bytes)) = some (some (.agg #[.int .i64 0, .int .i64 0]), 2, 16) := by kernel_rfl

set_option maxHeartbeats 800000 in
set_option maxRecDepth 100000 in
theorem toNodeS_any (A : Option Addr) (n c : Nat) (xs : Tr) (w : World) (h : NdIn w w.heap.size A n xs) (hn : n ≤ 1048576) :
    Calls Try.prog 33 #[.slice A n c] w fun e w' => e = .returned (.slice (some ⟨w.heap.size, 0, none⟩) n n) ∧
      w'.ownsRow w.heap.size 40 2 (.slice (some ⟨w.heap.size, 0, none⟩) n n) n (Tr.cells xs) ∧ Below w.heap.size w w' := by
  have H := Lib.hid h
  clear h
  have HL := Lib.hid H.out.1
  obtain ⟨i0, hi, hz0, hz1, hz2⟩ := info_parts info_node
  go_enter Try.func33, Try.ntmps33
  go_wp2_with (at_make; refine wpList_make_full _ rfl _ _ 24 rfl w.heap.size 40 i0 (.agg #[.int .i64 0, .int .i64 0]) 2 Try.underlying24 hi hz0 hz1 _ _ _ _ n rfl rfl rfl rfl (by rw [hz2]; omega) (by unfold maxLen; omega) (Nat.le_refl _) ?_; intro w1 hown1 hgrow1)
  have hb1 : Below w.heap.size w w1 := (Below.refl _ w).grown hgrow1 (Nat.le_refl _) (fun _ h => by cases h)
  rw [made_nodes, ← HL.out, ← Tr.part_none, HL.out] at hown1
  go_loopw [4] (fun iv wr => ∃ k : Nat, k ≤ n ∧ iv = .int .i64 k ∧ wr.ownsRow w.heap.size 40 2 (.slice (some ⟨w.heap.size, 0, none⟩) n n) n (Tr.cells (Tr.part xs k)) ∧ Below w.heap.size w wr) (fun i _ => n - (intOf i).toNat)
  case atStart => exact ⟨0, by omega, rfl, hown1, hb1⟩
  case round =>
    obtain ⟨k, hk, rfl, hown, hB⟩ := hrel
    have hsz := hB.size
    by_cases hlt : k < n
    · obtain ⟨ad, rfl, hb, hl, hd⟩ := (H.out.below hB).at_ hlt
      have Ho := Lib.hid hown
      have HB := Lib.hid hB
      clear hown hB
      go_wp2_with (go_at_call 74; refine (toNode_any _ _ _).mono ?_; rintro e w' ⟨rfl, hb'⟩; have hb2 := Lib.hid hb'; clear hb'; have Ho2 := Lib.hid (own_below Ho.out hb2.out); have c0 := own_even Ho2.out (k := k) (by rw [Tr.part_length _ _ (by rw [HL.out]; omega), HL.out]; omega); have c1 := own_odd Ho2.out (k := k) (by rw [Tr.part_length _ _ (by rw [HL.out]; omega), HL.out]; omega); have f0 := Ho2.out.frozenAt (k * 2); have f1 := Ho2.out.frozenAt (k * 2 + 1))
      go_roundw
      case rel =>
        refine ⟨k + 1, by omega, by go_num, ?_, ?_⟩
        · have := own_set Ho2.out k (Tr.l xs k) (Tr.d xs k)
          rw [Tr.part_set xs k (by rw [HL.out]; exact hlt)] at this
          exact this
        · exact ((HB.out.trans (hb2.out.mono hsz)).setCell (Nat.le_refl _) _).setCell (Nat.le_refl _) _
      case measure => simp [intOf]; omega
    · obtain rfl : k = n := by omega
      rw [← HL.out, Tr.part_full, HL.out] at hown
      go_wp2
      go_ret
      exact ⟨rfl, hown, hB⟩

end Go.Proofs.Ytofpcedpmbecgaa

/- Two lists of nodes that agree so far. -/
namespace Go.Proofs.Ytofpcedpmbecgaa
open Go.RowKit
set_option linter.unusedVariables false

/-- the first k nodes agree -/
def Tr.same (xs ys : Tr) (k : Nat) : Prop := ∀ j, j < k → Tr.l xs j = Tr.l ys j ∧ Tr.d xs j = Tr.d ys j

end Go.Proofs.Ytofpcedpmbecgaa

/- Contracts of the harness over []Node: equality. -/
namespace Go.Proofs.Ytofpcedpmbecgaa
open Go.RowKit
set_option linter.unusedVariables false

set_option maxHeartbeats 400000 in
theorem eqNode_any (a b c d : Int) (w : World) :
    Calls Try.prog 75 #[.agg #[.int .i64 a, .int .i64 b], .agg #[.int .i64 c, .int .i64 d]] w fun e w' => e = .returned (.bool (decide (a = c ∧ b = d))) ∧ Below w.heap.size w w' := by
  have hB : ∀ o1 o2, Below w.heap.size w ((w.alloc o1).alloc o2) := fun o1 o2 => ((Below.refl _ _).alloc (Nat.le_refl _) _).alloc (by simp) _
  by_cases h1 : a = c
  · by_cases h2 : b = d
    · subst h1 h2
      go_enter Try.func75, Try.ntmps75
      go_wp2
      go_ret
      exact ⟨Kit.ret_bool (by simp), hB _ _⟩
    · have h2' : (b != d) = true := by simpa using h2
      subst h1
      go_enter Try.func75, Try.ntmps75
      go_wp2
      go_ret
      exact ⟨Kit.ret_bool (by simp [h2]), hB _ _⟩
  · have h1' : (a != c) = true := by simpa using h1
    go_enter Try.func75, Try.ntmps75
    go_wp2
    go_ret
    exact ⟨Kit.ret_bool (by simp [h1]), hB _ _⟩


set_option maxHeartbeats 800000 in
set_option maxRecDepth 100000 in
theorem eqNodeS_any (A A' : Option Addr) (n c n' c' : Nat) (xs ys : Tr) (w : World) (h : NdIn w w.heap.size A n xs) (h' : NdIn w w.heap.size A' n' ys) (hn : n ≤ 1048576) (hn' : n' ≤ 1048576) :
    Calls Try.prog 34 #[.slice A n c, .slice A' n' c'] w fun e w' => e = .returned (.bool (decide (xs = ys))) ∧ Below w.heap.size w w' := by
  have H := Lib.hid h
  have H' := Lib.hid h'
  clear h h'
  have HL := Lib.hid H.out.1
  have HL' := Lib.hid H'.out.1
  by_cases hnn : n = n'
  · go_enter Try.func34, Try.ntmps34
    have Hnn := Lib.hid hnn
    have hne : ((n : Int) != (n' : Int)) = false := by simp [hnn]
    clear hnn
    go_wp2
    go_loopw [5] (fun iv wr => ∃ k : Nat, k ≤ n ∧ iv = .int .i64 k ∧ Tr.same xs ys k ∧ Below w.heap.size w wr) (fun i _ => n - (intOf i).toNat)
    case atStart => exact ⟨0, by omega, rfl, fun j hj => absurd hj (by omega), Below.refl _ _⟩
    case round =>
      obtain ⟨k, hk, rfl, hsm, hB⟩ := hrel
      have hsz := hB.size
      have Hsm := Lib.hid hsm
      have HB := Lib.hid hB
      clear hsm hB
      by_cases hlt : k < n
      · obtain ⟨ad, rfl, hb, hl, hd⟩ := (H.out.below HB.out).at_ hlt
        obtain ⟨ad', rfl, hb', hl', hd'⟩ := (H'.out.below HB.out).at_ (k := k) (by rw [← Hnn.out]; exact hlt)
        have hlt' : (k : Int) < (n' : Int) := by rw [← Hnn.out]; omega
        have hk0 : (0 : Int) ≤ (k : Int) := by omega
        have HB2 := Lib.hid HB.out.drew
        have hsz2 := HB.out.drew.size
        by_cases hq : Tr.l xs k = Tr.l ys k ∧ Tr.d xs k = Tr.d ys k
        · have hq' : decide (Tr.l xs k = Tr.l ys k ∧ Tr.d xs k = Tr.d ys k) = true := by simpa using hq
          have Hq := Lib.hid hq
          clear hq
          go_wp2
          go_still_tail 8, (by kernel_rfl)
          change wpList _ _ _ _ _ wr.drew
          generalize wr.drew = w2 at HB2 hsz2 ⊢
          go_wp2_with (go_at_call 75; refine (eqNode_any _ _ _ _ _).mono ?_; rintro e w3 ⟨rfl, hb3⟩)
          go_roundw
          case rel => exact ⟨k + 1, by omega, by go_num, fun j hj => by
            rcases Nat.lt_succ_iff_lt_or_eq.1 hj with h' | rfl
            · exact Hsm.out j h'
            · exact Hq.out, HB2.out.trans (hb3.mono hsz2)⟩
          case measure => simp [intOf]; omega
        · have hq' : decide (Tr.l xs k = Tr.l ys k ∧ Tr.d xs k = Tr.d ys k) = false := by simpa using hq
          have Hq := Lib.hid hq
          clear hq
          go_wp2
          go_still_tail 8, (by kernel_rfl)
          change wpList _ _ _ _ _ wr.drew
          generalize wr.drew = w2 at HB2 hsz2 ⊢
          go_wp2_with (go_at_call 75; refine (eqNode_any _ _ _ _ _).mono ?_; rintro e w3 ⟨rfl, hb3⟩)
          go_ret
          refine ⟨Kit.ret_bool ?_, HB2.out.trans (hb3.mono hsz2)⟩
          symm
          rw [decide_eq_false_iff_not]
          rintro rfl
          exact Hq.out ⟨rfl, rfl⟩
      · obtain rfl : k = n := by omega
        go_wp2
        go_ret
        refine ⟨Kit.ret_bool ?_, HB.out⟩
        symm
        rw [decide_eq_true_eq]
        exact Tr.ext (by rw [HL.out, HL'.out]; exact Hnn.out) (fun j hj => Hsm.out j (by rw [← HL.out]; exact hj))
  · have hne : ((n : Int) != (n' : Int)) = true := by simp; omega
    have Hq := Lib.hid (show decide (xs = ys) = false by
      rw [decide_eq_false_iff_not]; rintro rfl; exact hnn (HL.out.symm.trans HL'.out))
    clear hnn
    go_enter Try.func34, Try.ntmps34
    go_wp2
    go_ret
    exact ⟨Kit.ret_bool Hq.out.symm, Below.refl _ _⟩

end Go.Proofs.Ytofpcedpmbecgaa
