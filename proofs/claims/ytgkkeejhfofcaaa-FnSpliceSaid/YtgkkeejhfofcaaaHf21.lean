/- Texts of one claim laid into one file, in build order: CloneI, ShI, GroI, ConI, RmI. -/
import Derived.Test.YtgkkeejhfofcaaaHf10
import Derived.Test.YtgkkeejhfofcaaaHf11
import Derived.Test.YtgkkeejhfofcaaaHf17
import Derived.Test.YtgkkeejhfofcaaaHf18
import Derived.Test.YtgkkeejhfofcaaaHf2
import Derived.Deep.RegionHeld3
import Derived.Lib.AppendZerosOnto
import Derived.Lib.SliceRun
import Derived.Lib.Walk
import Derived.Outline
import Derived.Shelf.RegionOpenPlain
import Derived.Test.YtgkkeejhfofcaaaRows
import Derived.WalkKit
/- Contracts (CloneI). -/
namespace Go.Proofs.Ytgkkeejhfofcaaa
open Go.RowKit
set_option linter.unusedVariables false

theorem info_ndC : (Try.prog.info? 47).map (fun i => (i.zero, i.size, i.bytes)) = some (some (.agg #[.int .i64 0, .int .i64 0]), 2, 16) := by kernel_rfl

set_option maxHeartbeats 800000 in
set_option maxRecDepth 100000 in
theorem cloneNode_any (ad : Addr) (n c : Nat) (xs : Tr) (w : World) (h : NdIn w w.heap.size (some ad) n xs) (hn : n ≤ 1048576) :
    Calls Try.prog 75 #[.slice (some ad) n c] w (OwnNodes 47 xs w) := by
  have H := Lib.hid h
  clear h
  have HL := Lib.hid H.out.1
  obtain ⟨i0, hi, hz0, hz1, hz2⟩ := info_parts info_ndC
  have hnil := fun W : World => Lib.run_eql_slice_nil (P := Try.prog) W
  go_enter Try.func75, Try.ntmps75
  go_wp2_with (at_builtin; refine wpList_append_own (World.alloc w (.cells #[] 47)) rfl _ _ 24 rfl w.heap.size 47 i0 (.agg #[.int .i64 0, .int .i64 0]) 2 16 Try.underlying24 hi hz0 hz1 hz2 rfl (by omega) (.slice (some ⟨w.heap.size, 0, none⟩) 0 0) 0 [] rfl (World.ownsRow_lit w #[] 0 (Nat.le_refl _) (Nat.zero_le _) rfl) ad n c (Tr.cells xs) rfl (by rw [Tr.cells_length, HL.out]) (NdIn.cells_at (H.out.to_below ((Below.refl _ _).alloc (Nat.le_refl _) _))) (Tr.cells_cell xs) (by unfold maxLen; omega) (by omega) (by simp) ?_; intro v' w1 hown1 hgrow1 hnil1)
  clear hnil1 hnil
  have hown2 : w1.ownsRow w.heap.size 47 2 v' n (Tr.cells xs) := by simpa using hown1
  obtain ⟨A', c', rfl⟩ := own_slice hown2
  have hb : Below w.heap.size w w1 := ((Below.refl w.heap.size w).alloc (Nat.le_refl _) _).grown hgrow1 (by simp) (fun k hk => by simp [Value.ownBlock] at hk; omega)
  go_ret
  exact ⟨A', c', by rw [HL.out]; rfl, by rw [HL.out]; exact hown2, hb⟩

end Go.Proofs.Ytgkkeejhfofcaaa

/- Contracts (ShI). -/
namespace Go.Proofs.Ytgkkeejhfofcaaa
open Go.RowKit
set_option linter.unusedVariables false

/-- a cut of a slice of nodes -/
theorem NdIn.cut {w : World} {B n : Nat} {ad : Addr} {xs : Tr} (h : NdIn w B (some ad) n xs) {j m : Nat} (hjm : j + m ≤ n) : NdIn w B (some (ad.add (j * 2))) m ((xs.drop j).take m) := by
  refine ⟨by have := h.1; simp; omega, fun hm => ⟨_, rfl, ?_⟩, fun ad' e k hk => ?_⟩
  · rw [block_of_add]
    obtain ⟨ad', e, hb⟩ := h.2.1 (by omega)
    obtain rfl : ad = ad' := by injection e
    exact hb
  · obtain rfl : ad.add (j * 2) = ad' := by injection e
    have hc := h.2.2 ad rfl (j + k) (by omega)
    have hg : ((xs.drop j).take m).getD k (0, 0) = xs.getD (j + k) (0, 0) := by
      simp [List.getD_eq_getElem?_getD, hk]
    rw [add_of_add, add_of_add, show j * 2 + k * 2 = (j + k) * 2 by omega, show j * 2 + (k * 2 + 1) = (j + k) * 2 + 1 by omega]
    simp only [Tr.l, Tr.d] at hc ⊢
    rw [hg]
    exact hc
theorem Tr.cells_set_odd (xs : Tr) (k : Nat) (b : Int) : (Tr.cells xs).set (k * 2 + 1) (.int .i64 b) = Tr.cells (xs.set k (Tr.l xs k, b)) := by
  induction xs generalizing k with
  | nil => simp [Tr.cells]
  | cons x l ih =>
    cases k with
    | zero => simp [Tr.cells, Tr.l]
    | succ k =>
      have := ih k
      simp only [Tr.cells, Tr.l] at this ⊢
      simpa [show (k + 1) * 2 = k * 2 + 1 + 1 by omega] using this
/-- the first k nodes that many levels deeper -/
def Tr.up (xs : Tr) (dd : Int) (k : Nat) : Tr := (List.range xs.length).map fun t => (Tr.l xs t, if t < k then Tr.d xs t + dd else Tr.d xs t)
theorem Tr.up_length (xs : Tr) (dd : Int) (k : Nat) : (Tr.up xs dd k).length = xs.length := by simp [Tr.up]
theorem Tr.up_l {xs : Tr} {dd : Int} {k t : Nat} (h : t < xs.length) : Tr.l (Tr.up xs dd k) t = Tr.l xs t := by simp [Tr.up, Tr.l, List.getD_eq_getElem?_getD, h]
theorem Tr.up_d {xs : Tr} {dd : Int} {k t : Nat} (h : t < xs.length) : Tr.d (Tr.up xs dd k) t = if t < k then Tr.d xs t + dd else Tr.d xs t := by
  simp only [Tr.up, Tr.d, List.getD_eq_getElem?_getD]
  rw [List.getElem?_map, List.getElem?_range h]
  rfl
theorem Tr.up_none (xs : Tr) (dd : Int) : Tr.up xs dd 0 = xs := by
  refine Tr.ext (Tr.up_length _ _ _) fun k hk => ?_
  rw [Tr.up_length] at hk
  rw [Tr.up_l hk, Tr.up_d hk, if_neg (by omega)]
  exact ⟨rfl, rfl⟩
theorem Tr.up_set (xs : Tr) (dd : Int) (k : Nat) (h : k < xs.length) : (Tr.up xs dd k).set k (Tr.l xs k, Tr.d xs k + dd) = Tr.up xs dd (k + 1) := by
  refine List.ext_getElem (by simp [Tr.up]) fun t h1 h2 => ?_
  rw [Tr.up_length] at h2
  by_cases e : t = k
  · subst e
    simp [Tr.up]
  · rw [List.getElem_set_ne (by omega)]
    simp only [Tr.up, List.getElem_map, List.getElem_range]
    by_cases q : t < k
    · rw [if_pos q, if_pos (by omega)]
    · rw [if_neg q, if_neg (by omega)]
/-- nodes cut out and shifted -/
theorem Tr.up_cut (xs : Tr) (dd : Int) {j m : Nat} (h : j + m ≤ xs.length) : Tr.up ((xs.drop j).take m) dd m = (List.range m).map fun t => (Tr.l xs (j + t), Tr.d xs (j + t) + dd) := by
  have hl : ((xs.drop j).take m).length = m := by simp; omega
  unfold Tr.up
  rw [hl]
  refine List.map_congr_left fun t ht => ?_
  have ht := List.mem_range.1 ht
  have hg : ((xs.drop j).take m).getD t (0, 0) = xs.getD (j + t) (0, 0) := by simp [List.getD_eq_getElem?_getD, ht]
  rw [if_pos ht]
  simp only [Tr.l, Tr.d, hg]
set_option maxHeartbeats 800000 in
set_option maxRecDepth 100000 in
theorem shifted_any (ad : Addr) (n c : Nat) (xs : Tr) (dd : Int) (w : World) (h : NdIn w w.heap.size (some ad) n xs) (hn : n ≤ 1048576) (hd : -4000 ≤ dd ∧ dd ≤ 4000) (hx : ∀ k, k < n → -4000 ≤ Tr.d xs k ∧ Tr.d xs k ≤ 4000) :
    Calls Try.prog 135 #[.slice (some ad) n c, .int .i64 dd] w (OwnNodes 47 (Tr.up xs dd n) w) := by
  have H := Lib.hid h
  clear h
  have HL := Lib.hid H.out.1
  have HX := Lib.hid hx
  clear hx
  go_enter Try.func135, Try.ntmps135
  go_wp2_with fail
  refine (cloneNode_any _ _ _ xs _ H.out hn).mono ?_
  rintro e w3 ⟨A3, c3, rfl, hown3, hb3⟩
  rw [HL.out] at hown3 ⊢
  have Ho3 := Lib.hid hown3
  have Hb3 := Lib.hid hb3
  have H3 := Lib.hid (H.out.to_below hb3)
  clear hown3 hb3
  go_wp2
  go_loopw [11] (fun kv wr => ∃ k : Nat, k ≤ n ∧ kv = .int .i64 k ∧ wr.ownsRow w.heap.size 47 2 (.slice A3 n c3) n (Tr.cells (Tr.up xs dd k)) ∧ Below w.heap.size w wr) (fun k _ => n - (intOf k).toNat)
  case atStart => exact ⟨0, by omega, rfl, by rw [Tr.up_none]; exact Ho3.out, Hb3.out⟩
  case round =>
    obtain ⟨k, hk, rfl, hown, hB⟩ := hrel
    have Ho := Lib.hid hown
    have HB := Lib.hid hB
    by_cases hlt : k < n
    · obtain ⟨g, rfl, hg1, hg2⟩ := own_form hown (by omega)
      have hlx : k < xs.length := by rw [HL.out]; exact hlt
      have c1 := own_odd hown (k := k) (by rw [Tr.up_length]; exact hlx)
      rw [Tr.up_d hlx, if_neg (by omega)] at c1
      have f1 := hown.frozenAt (k * 2 + 1)
      have hbk := HX.out k hlt
      have a5 : IntKind.i64.wrap (Tr.d xs k + dd) = Tr.d xs k + dd := Kit.w64 (by omega) (by omega)
      clear hown hB hbk hg2
      go_wp2
      go_roundw
      case rel =>
        refine ⟨k + 1, by omega, by go_num, ?_, HB.out.setCell (by exact hg1) _⟩
        have := (Ho.out.stored (k * 2 + 1) (.int .i64 (Tr.d xs k + dd))).1
        rw [Tr.cells_set_odd, Tr.up_l hlx, Tr.up_set _ _ _ hlx] at this
        exact this
      case measure => simp [intOf]; omega
    · obtain rfl : k = n := by omega
      clear hown hB
      go_wp2
      go_ret
      exact ⟨A3, c3, by rw [Tr.up_length, HL.out]; rfl, by rw [Tr.up_length, HL.out]; exact Ho.out, HB.out⟩

end Go.Proofs.Ytgkkeejhfofcaaa

/- Contracts (GroI). -/
namespace Go.Proofs.Ytgkkeejhfofcaaa
open Go.RowKit
set_option linter.unusedVariables false

set_option maxHeartbeats 800000 in
set_option maxRecDepth 100000 in
theorem growNodes_any (n : Nat) (w : World) (h0 : 0 < n) (hn : n ≤ 1048576) :
    Calls Try.prog 165 #[.slice none 0 0, .int .i64 (n : Int)] w fun e w' => ∃ G, e = .returned (.slice (some ⟨w.heap.size, 0, none⟩) 0 G) ∧ w'.ownsRow w.heap.size 47 2 (.slice (some ⟨w.heap.size, 0, none⟩) 0 G) 0 [] ∧ Below w.heap.size w w' := by
  obtain ⟨i0, hi0, hz0, hz1, hz2⟩ := info_parts info_ndC
  have hrz : ∀ ty, (Builtin.append_ #[24, 3] ty #[.slice none 0 0, .int .i64 (n : Int)]).run Try.prog w =
      .ok (.slice (some ⟨w.heap.size, 0, none⟩) n (grownCap w n 0 47)) (w.drew.alloc (.cells (#[] ++ Builtin.zeroCells (Value.agg #[.int .i64 0, .int .i64 0]).cells n ++ Builtin.zeroCells (Value.agg #[.int .i64 0, .int .i64 0]).cells (grownCap w n 0 47 - n)) 47)) := fun ty => by
    have h := Lib.run_append_grow_zeros w 24 3 ty 47 i0 (.agg #[.int .i64 0, .int .i64 0]) .i64 .i64 Try.underlying24 Try.underlying3 hi0 hz0 none 0 0 [] (run_firstCells_none w.drew i0.size 0 0 0) n h0 (by omega) (by omega) (by omega) (by rw [hz2]; omega) (growslice_fits (by omega) (by rw [hz2]; omega))
    simpa using h
  have hGn : n ≤ grownCap w n 0 47 := grownCap_ge w _ _ _
  have hGm := grownCap_le_maxLen w n 0 47 (by unfold maxLen; omega)
  obtain ⟨G, hG⟩ : ∃ G, G = grownCap w n 0 47 := ⟨_, rfl⟩
  rw [← hG] at hrz hGn hGm
  have hG63 : G ≤ 9223372036854775807 := by unfold maxLen at hGm; omega
  clear hG
  obtain ⟨cs, hcs⟩ : ∃ cs : Array Value, cs = #[] ++ Builtin.zeroCells (Value.agg #[.int .i64 0, .int .i64 0]).cells n ++ Builtin.zeroCells (Value.agg #[.int .i64 0, .int .i64 0]).cells (G - n) := ⟨_, rfl⟩
  rw [← hcs] at hrz
  have hsz : cs.size = G * 2 := by
    have h2 : (Value.agg #[.int .i64 0, .int .i64 0]).cells.size = 2 := rfl
    rw [hcs]; simp [Builtin.zeroCells]; rw [h2]; omega
  have h1 : ¬ ((n : Int) < 0) := by omega
  have h2 : IntKind.i64.wrap ((n : Int) - 0) = (n : Int) := by rw [Int.sub_zero]; exact Kit.w64 (by omega) (by omega)
  have HS := Lib.hid hsz
  have HM := Lib.hid hGm
  clear hcs hsz hGm
  go_enter Try.func165, Try.ntmps165
  go_wp2_with (at_builtin; refine Lib.wpList_append_run _ rfl _ _ _ _ rfl _ _ rfl rfl _ _ (hrz _) ?_)
  go_ret
  exact ⟨G, rfl, ⟨rfl, .inr ⟨_, G, cs, rfl, Nat.le_refl _, heap_alloc_new _ _, Nat.zero_le _, HM.out, HS.out, by simp⟩⟩, (Drawn.refl _).drew.toBelow.alloc (Nat.le_refl _) _⟩

end Go.Proofs.Ytgkkeejhfofcaaa

/- Contracts (ConI). -/
namespace Go.Proofs.Ytgkkeejhfofcaaa
open Go.RowKit
set_option linter.unusedVariables false

/-- the i-th of some slices of nodes that stand in a row reads as the i-th list -/
def SlsIn (w : World) (b m : Nat) (vs : List Value) (xss : List Tr) : Prop :=
  xss.length = m ∧ ∀ i, i < m → w.cell? ⟨b, i, none⟩ = some (vs.getD i undef) ∧ ∃ A c, vs.getD i undef = .slice A (xss.getD i []).length c ∧ NdIn w w.heap.size A (xss.getD i []).length (xss.getD i []) ∧ (A = none → (xss.getD i []).length = 0 ∧ c = 0)
theorem SlsIn.to_below {w w' : World} {b m : Nat} {vs : List Value} {xss : List Tr} (h : SlsIn w b m vs xss) (hb : Below w.heap.size w w') : SlsIn w' b m vs xss := by
  refine ⟨h.1, fun i hi => ?_⟩
  obtain ⟨c1, A, c, e, hn, h0⟩ := h.2 i hi
  exact ⟨(hb.cell (World.block_lt_of_cell? _ _ c1)).trans c1, A, c, e, hn.to_below hb, h0⟩
theorem flat_step (xss : List Tr) (k : Nat) (hk : k < xss.length) : (xss.take (k + 1)).flatten = (xss.take k).flatten ++ xss.getD k [] := by
  rw [List.take_succ_eq_append_getElem hk, List.flatten_append]
  simp [List.getD_eq_getElem?_getD, hk]
theorem flat_le (xss : List Tr) (k : Nat) : (xss.take k).flatten.length ≤ xss.flatten.length := by
  conv => rhs; rw [← List.take_append_drop k xss, List.flatten_append, List.length_append]
  omega
set_option maxHeartbeats 800000 in
set_option maxRecDepth 100000 in
theorem concatNodes_any (b m : Nat) (c : Nat) (vs : List Value) (xss : List Tr) (w : World) (h : SlsIn w b m vs xss) (hm : m ≤ 1000) (h0 : 0 < xss.flatten.length) (hl : xss.flatten.length ≤ 1048576) :
    Calls Try.prog 134 #[.slice (some ⟨b, 0, none⟩) m c] w (OwnNodes 47 xss.flatten w) := by
  have H := Lib.hid h
  have HM := Lib.hid h.1
  obtain ⟨P, hP⟩ : ∃ P : Nat → Tr, P = fun k => (xss.take k).flatten := ⟨_, rfl⟩
  obtain ⟨R, hR⟩ : ∃ R : Tr, R = xss.flatten := ⟨_, rfl⟩
  have HF := Lib.hid (show ∀ k, k < m → P (k + 1) = P k ++ xss.getD k [] from fun k hk => by rw [hP]; exact flat_step xss k (by rw [h.1]; exact hk))
  have HFL := Lib.hid (show ∀ k, (P k).length ≤ R.length from fun k => by rw [hP, hR]; exact flat_le xss k)
  have HFA := Lib.hid (show P m = R by rw [hP, hR]; show (xss.take m).flatten = _; rw [List.take_of_length_le (by rw [h.1]; exact Nat.le_refl _)])
  have HF0 := Lib.hid (show P 0 = [] by rw [hP]; rfl)
  rw [← hR] at h0 hl ⊢
  clear hP hR
  obtain ⟨i0, hi, hz0, hz1, hz2⟩ := info_parts info_ndC
  clear h
  go_enter Try.func134, Try.ntmps134
  go_wp2
  go_loop [11, 3] (fun kv sv => ∃ k : Nat, k ≤ m ∧ kv = .int .i64 k ∧ sv = .int .i64 (((P k).length : Nat) : Int)) (fun k _ => m - (intOf k).toNat)
  case atStart => exact ⟨0, by omega, by go_num, by rw [HF0.out]; rfl⟩
  case round =>
    obtain ⟨k, hk, rfl, rfl⟩ := hrel
    by_cases hlt : k < m
    · obtain ⟨c1, A, cc, e, hn, hz⟩ := H.out.2 k hlt
      rw [e] at c1
      have hs := HF.out k hlt
      have hls := HFL.out (k + 1)
      have k0 : (0 : Int) ≤ (k : Int) := by omega
      have k1 : (k : Int) < (m : Int) := by omega
      obtain ⟨s, hs'⟩ : ∃ s, s = (P k).length := ⟨_, rfl⟩
      obtain ⟨z, hz'⟩ : ∃ z, z = (xss.getD k []).length := ⟨_, rfl⟩
      rw [hs, List.length_append, ← hs', ← hz'] at hls
      have Hs := Lib.hid (show (((P (k + 1)).length : Nat) : Int) = (s : Int) + (z : Int) by rw [hs, List.length_append, ← hs', ← hz']; omega)
      rw [← hs']
      rw [← hz'] at c1
      have a5 : IntKind.i64.wrap ((s : Int) + (z : Int)) = (s : Int) + (z : Int) := Kit.w64 (by omega) (by omega)
      have q : decide ((s : Int) + (z : Int) < 0) = false := decide_eq_false (by omega)
      clear hs hs' hz' hn hz e
      go_wp2
      go_round
      case rel => exact ⟨k + 1, by omega, by go_num, by rw [Hs.out]⟩
      case measure => simp [intOf]; omega
    · obtain rfl : k = m := by omega
      rw [HFA.out]
      go_wp2_with fail
      refine (growNodes_any _ _ h0 hl).mono ?_
      rintro e w2 ⟨G, rfl, ho2, hb2⟩
      have Ho2 := Lib.hid ho2
      have Hb2 := Lib.hid hb2
      clear ho2 hb2
      go_wp2
      go_loopw [27, 6] (fun kv sv wq => ∃ j : Nat, j ≤ k ∧ kv = .int .i64 j ∧ wq.ownsRow w.heap.size 47 2 sv (P j).length (Tr.cells (P j)) ∧ Below w.heap.size w wq) (fun j _ _ => k - (intOf j).toNat)
      case atStart => exact ⟨0, by omega, by go_num, by rw [HF0.out]; exact Ho2.out, Hb2.out⟩
      case round =>
        obtain ⟨j, hj, rfl, hown, hB⟩ := hrel
        have Ho := Lib.hid hown
        have HB := Lib.hid hB
        have hsz := hB.size
        clear hown hB
        by_cases hlt : j < k
        · obtain ⟨c1, A, cc, e, hn, hz⟩ := (H.out.to_below HB.out).2 j hlt
          rw [e] at c1
          have k0 : (0 : Int) ≤ (j : Int) := by omega
          have k1 : (j : Int) < (k : Int) := by omega
          have hs := HF.out j hlt
          have hls := HFL.out (j + 1)
          rw [hs, List.length_append] at hls
          have Hs := Lib.hid hs
          have Hn := Lib.hid hn
          obtain ⟨z, hz'⟩ : ∃ z, z = (xss.getD j []).length := ⟨_, rfl⟩
          rw [← hz'] at c1 hls hz
          have Hz' := Lib.hid hz'
          have Hz := Lib.hid hz
          clear hs hn hz' e hz
          cases A with
          | none =>
            obtain ⟨hz0', rfl⟩ := Hz.out rfl
            subst hz0'
            have hnil := Lib.hid (show xss.getD j [] = [] from List.length_eq_zero_iff.1 Hz'.out.symm)
            go_wp2_with (at_builtin; go_loud (refine wpList_append_own_none rfl _ _ 24 rfl w.heap.size 47 i0 2 Try.underlying24 hi u6 (P j).length (Tr.cells (P j)) rfl Ho.out rfl ?_))
            go_roundw
            case rel => exact ⟨j + 1, by omega, by go_num, by rw [Hs.out, hnil.out, List.append_nil]; exact Ho.out, HB.out⟩
            case measure => simp [intOf]; omega
          | some ad =>
            have HC := Lib.hid (show (Tr.cells (xss.getD j [])).length = z * 2 by rw [Tr.cells_length, ← Hz'.out])
            have HN2 := Lib.hid (Hn.out.cells_at)
            go_wp2_with (at_builtin; go_loud (refine wpList_append_own _ rfl _ _ 24 rfl w.heap.size 47 i0 (.agg #[.int .i64 0, .int .i64 0]) 2 16 Try.underlying24 hi hz0 hz1 hz2 rfl (by decide) u6 (P j).length (Tr.cells (P j)) rfl Ho.out ad z cc (Tr.cells (xss.getD j [])) rfl HC.out HN2.out (Tr.cells_cell _) (by unfold maxLen; omega) (by omega) hsz ?_; intro v3 w3 hown3 hgr3 _))
            have Ho3 := Lib.hid hown3
            have hb3 := HB.out.grown hgr3 hsz (fun g hg => (Ho.out.lt g hg).1)
            have HB3 := Lib.hid hb3
            clear hown3 hgr3 hb3
            go_roundw
            case rel => exact ⟨j + 1, by omega, by go_num, by rw [Hs.out, List.length_append, ← Hz'.out, Tr.cells_append]; exact Ho3.out, HB3.out⟩
            case measure => simp [intOf]; omega
        · obtain rfl : j = k := by omega
          rw [HFA.out] at Ho
          obtain ⟨A', c', rfl⟩ := own_slice Ho.out
          go_wp2
          go_ret
          exact ⟨A', c', rfl, Ho.out, HB.out⟩

end Go.Proofs.Ytgkkeejhfofcaaa

/- Contracts (RmI). -/
namespace Go.Proofs.Ytgkkeejhfofcaaa
open Go.RowKit
set_option linter.unusedVariables false

theorem Tr.sh_cut (xs : Tr) {f m : Nat} (h : f + m ≤ xs.length) : (xs.drop f).take m = Tr.sh xs f (f + m) 0 := by
  rw [← Tr.up_none ((xs.drop f).take m) 0]
  unfold Tr.up Tr.sh
  have hl : ((xs.drop f).take m).length = m := by simp; omega
  rw [hl, show f + m - f = m by omega]
  refine List.map_congr_left fun t ht => ?_
  have ht := List.mem_range.1 ht
  have hg : ((xs.drop f).take m).getD t (0, 0) = xs.getD (f + t) (0, 0) := by simp [List.getD_eq_getElem?_getD, ht]
  rw [if_neg (by omega)]
  simp only [Tr.l, Tr.d, hg, Int.add_zero]
theorem Tr.sh_up (xs : Tr) (dd : Int) {f m : Nat} (h : f + m ≤ xs.length) : Tr.up ((xs.drop f).take m) dd m = Tr.sh xs f (f + m) dd := by
  rw [Tr.up_cut xs dd h]
  unfold Tr.sh
  rw [show f + m - f = m by omega]
theorem Tr.cells_set_even (xs : Tr) (k : Nat) (b : Int) : (Tr.cells xs).set (k * 2) (.int .i64 b) = Tr.cells (xs.set k (b, Tr.d xs k)) := by
  induction xs generalizing k with
  | nil => simp [Tr.cells]
  | cons x l ih =>
    cases k with
    | zero => simp [Tr.cells, Tr.d]
    | succ k =>
      have := ih k
      simp only [Tr.cells, Tr.d] at this ⊢
      simpa [show (k + 1) * 2 = k * 2 + 1 + 1 by omega] using this
theorem NdIn.none {w : World} {B : Nat} {A : Option Addr} : NdIn w B A 0 [] := ⟨rfl, fun h => absurd h (Nat.lt_irrefl 0), fun ad _ k hk => absurd hk (Nat.not_lt_zero k)⟩
set_option maxHeartbeats 800000 in
set_option maxRecDepth 100000 in
theorem implRelabel_any (ad : Addr) (n c : Nat) (xs : Tr) (i : Nat) (a : Int) (w : World) (h : NdIn w w.heap.size (some ad) n xs) (hn : n ≤ 1048576) (hi : i < n) :
    Calls Try.prog 76 #[.slice (some ad) n c, .int .i64 (i : Int), .int .i64 a] w (OwnNodes 47 (Oc.rel xs i a) w) := by
  have H := Lib.hid h
  clear h
  have HL := Lib.hid H.out.1
  go_enter Try.func76, Try.ntmps76
  go_wp2_with fail
  refine (cloneNode_any _ _ _ xs _ H.out hn).mono ?_
  rintro e w3 ⟨A3, c3, rfl, hown3, hb3⟩
  rw [HL.out] at hown3 ⊢
  obtain ⟨g, rfl, hg1, hg2⟩ := own_form hown3 (by omega)
  have c0 := own_even hown3 (k := i) (by rw [HL.out]; exact hi)
  have f0 := hown3.frozenAt (i * 2)
  have i0 : (0 : Int) ≤ (i : Int) := by omega
  have i1 : (i : Int) < (n : Int) := by omega
  have HO := Lib.hid (hown3.stored (i * 2) (.int .i64 a)).1
  rw [Tr.cells_set_even] at HO
  have HB := Lib.hid (hb3.setCell (p := ⟨g, i * 2, none⟩) (by exact hg1) (.int .i64 a))
  clear hown3 hb3
  go_wp2
  go_ret
  exact ⟨_, _, by rw [Oc.rel_len, HL.out]; rfl, by rw [Oc.rel_len, HL.out]; exact HO.out, HB.out⟩

end Go.Proofs.Ytgkkeejhfofcaaa
