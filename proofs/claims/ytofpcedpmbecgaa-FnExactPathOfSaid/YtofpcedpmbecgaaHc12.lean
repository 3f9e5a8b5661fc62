/- Texts of one claim laid into one file, in build order: KidI, KidRankI, PthI, NdPt, NdTo, NdSm, NdEq, NdM. -/
import Derived.Test.YtofpcedpmbecgaaHc1
import Derived.Test.YtofpcedpmbecgaaHc11
import Derived.Test.YtofpcedpmbecgaaHc2
import Derived.Test.YtofpcedpmbecgaaHc3
import Derived.Test.YtofpcedpmbecgaaHc7
import Derived.Laws.Entries
import Derived.Laws.MakeOwn
import Derived.Outline
import Derived.StillTailTactics
import Derived.Test.YtofpcedpmbecgaaRows
/- Contracts (KidI). -/
namespace Go.Proofs.Ytofpcedpmbecgaa
open Go.RowKit
set_option linter.unusedVariables false

theorem info_intI : (Try.prog.info? 3).map (fun i => (i.zero, i.size, i.bytes)) = some (some (.int .i64 0), 1, 8) := by kernel_rfl

set_option maxHeartbeats 800000 in
set_option maxRecDepth 100000 in
theorem implKidsOf_any (A : Option Addr) (n c : Nat) (xs : Tr) (i : Int) (w : World) (h : NdIn w w.heap.size A n xs) (hn : n ≤ 1048576) (hnc : n ≤ c) :
    Calls Try.prog 13 #[.slice A n c, .int .i64 i] w (OwnInts 3 (Tr.kidsI xs i) w) := by
  have H := Lib.hid h
  clear h
  have HL := Lib.hid H.out.1
  obtain ⟨i0, hi, hz0, hz1, hz2⟩ := info_parts info_intI
  rcases hok : Tr.has xs i with _ | _
  · have Hf := Lib.hid (Tr.kidsI_no hok)
    have Hok := Lib.hid hok
    clear hok
    go_enter Try.func13, Try.ntmps13
    go_wp2_with fail
    refine (hasNode_any _ _ _ xs _ _ H.out hn hnc).mono ?_
    rintro e w1 ⟨rfl, hb1⟩
    have HB := Lib.hid hb1
    clear hb1
    rw [Hok.out]
    go_wp2
    go_ret
    exact ⟨_, _, by rw [Hf.out]; rfl, by rw [Hf.out]; exact own_nil, HB.out⟩
  · have h1 := (Tr.has_iff.1 hok).2
    have h0 := (Tr.has_iff.1 hok).1
    rw [HL.out] at h1
    have hbd := Lib.hid fun k => Tr.ok_at (xs := xs) h0 (k := k)
    obtain ⟨j, rfl⟩ := Int.eq_ofNat_of_zero_le h1.1
    have hj : j < n := by omega
    have Hf := Lib.hid (Tr.kidsI_yes hok)
    have He := Lib.hid (Tr.endOf_yes hok)
    have hE := Tr.endN_spec xs j (by rw [HL.out]; exact hj)
    have hE1 := hE.1
    have hE2 := hE.2.1
    rw [HL.out] at hE2
    have Hok := Lib.hid hok
    clear hok h1 h0 hE
    go_enter Try.func13, Try.ntmps13
    go_wp2_with fail
    refine (hasNode_any _ _ _ xs _ _ H.out hn hnc).mono ?_
    rintro e w1 ⟨rfl, hb1⟩
    have H1 := Lib.hid (H.out.to_below hb1)
    have HB1 := Lib.hid hb1
    clear hb1
    rw [Hok.out]
    go_wp2_with fail
    refine (implEndOf_any _ _ _ xs _ _ H1.out hn hnc).mono ?_
    rintro e w2 ⟨rfl, hb2⟩
    have HB2 := Lib.hid (HB1.out.trans (hb2.mono HB1.out.size))
    clear hb2
    rw [He.out]
    go_wp2
    go_loopw [7, 5] (fun kv ov wr => ∃ k : Nat, j < k ∧ k ≤ Tr.endN xs j ∧ kv = .int .i64 k ∧ wr.ownsRow w.heap.size 3 1 ov (Tr.kidsZ xs j k).length (ints (Tr.kidsZ xs j k)) ∧ Below w.heap.size w wr) (fun k _ _ => n - (intOf k).toNat)
    case atStart => exact ⟨j + 1, by omega, by omega, by go_num, by rw [Tr.kidsZ_start]; exact own_nil, HB2.out⟩
    case round =>
      obtain ⟨k, hjk, hk, rfl, hown, hB⟩ := hrel
      have hz := Lib.hid (H.out.to_below hB)
      have Ho := Lib.hid hown
      have HB := Lib.hid hB
      have hsz2 := hB.size
      clear hown hB
      by_cases hlt : k < Tr.endN xs j
      · obtain ⟨ad, rfl, hb, hl, hd⟩ := hz.out.at_ (k := k) (by omega)
        obtain ⟨hl', hd'⟩ := hz.out.here hj
        clear hl hl'
        have Hs := Lib.hid (Tr.kidsZ_succ xs j k hjk)
        have hlen := Tr.kidsZ_len xs j k
        have hk0 : (0 : Int) ≤ (k : Int) := by omega
        have hj0 : (0 : Int) ≤ (j : Int) := by omega
        have hbj := (hbd.out j (by rw [HL.out]; exact hj)).2.1
        have a5 : IntKind.i64.wrap (Tr.d xs j + 1) = Tr.d xs j + 1 := Kit.w64 (by omega) (by omega)
        by_cases hq : Tr.d xs k = Tr.d xs j + 1
        · have q : (Tr.d xs k == Tr.d xs j + 1) = true := by simpa using hq
          have Hq := Lib.hid hq
          clear hq
          go_wp2
          go_quiet (fail)
          clear a5
          go_wp2_with (at_builtin; go_loud (refine append_int (World.drewN wr nq) rfl _ _ 27 rfl w.heap.size 3 i0 Try.underlying27 hi hz0 hz1 hz2 u5 (Tr.kidsZ xs j k).length (Tr.kidsZ xs j k) rfl (Ho.out : World.ownsRow (World.drewN wr nq) _ _ _ _ _ _) rfl (k : Int) rfl (by omega) hsz2 ?_; intro v1 w3 hown3 hgrow3))
          have hb3 := Kit.below_own (below_drewN HB.out _) (Ho.out : World.ownsRow (World.drewN wr nq) _ _ _ _ _ _) hgrow3
          go_roundw
          case rel => exact ⟨k + 1, by omega, by omega, by go_num, by rw [Hs.out, if_pos Hq.out]; exact hown3, hb3⟩
          case measure => simp [intOf]; omega
        · have q : (Tr.d xs k == Tr.d xs j + 1) = false := by simpa using hq
          have Hq := Lib.hid hq
          clear hq
          go_wp2
          go_quiet (fail)
          clear a5
          go_wp2
          go_roundw
          case rel => exact ⟨k + 1, by omega, by omega, by go_num, by rw [Hs.out, if_neg (by have := Hq.out; omega)]; exact (Ho.out : World.ownsRow (World.drewN wr nq) _ _ _ _ _ _), below_drewN HB.out _⟩
          case measure => simp [intOf]; omega
      · obtain rfl : k = Tr.endN xs j := by omega
        obtain ⟨A', c', rfl⟩ := own_slice Ho.out
        go_wp2
        go_ret
        exact ⟨A', c', by rw [Hf.out]; rfl, by rw [Hf.out]; exact Ho.out, HB.out⟩

end Go.Proofs.Ytofpcedpmbecgaa

/- Contracts (KidRankI). -/
namespace Go.Proofs.Ytofpcedpmbecgaa
open Go.RowKit
set_option linter.unusedVariables false

theorem Tr.kidRank_alt (xs : Tr) (i : Int) : Tr.kidRank xs i = Zs.find (Tr.kidsI xs (Tr.parentOf xs i)) i 0 := by
  unfold Tr.kidRank
  by_cases h : Tr.parentOf xs i < 0
  · rw [if_pos h, Tr.kidsI_no (by rw [Bool.eq_false_iff]; intro e; have := (Tr.has_iff.1 e).2.1; omega)]
    rfl
  · rw [if_neg h]; rfl
set_option maxHeartbeats 1600000 in
set_option maxRecDepth 100000 in
theorem implKidRank_any (A : Option Addr) (n c : Nat) (xs : Tr) (i : Int) (w : World) (h : NdIn w w.heap.size A n xs) (hn : n ≤ 1048576) (hnc : n ≤ c) :
    Calls Try.prog 18 #[.slice A n c, .int .i64 i] w fun e w' => e = .returned (.int .i64 (Tr.kidRank xs i)) ∧ Below w.heap.size w w' := by
  have H := Lib.hid h
  clear h
  have hlen := Tr.kidsI_len xs (Tr.parentOf xs i)
  rw [H.out.1] at hlen
  have HF := Lib.hid (Tr.kidRank_alt xs i)
  go_enter Try.func18, Try.ntmps18
  go_wp2_with fail
  refine (implParentOf_any _ _ _ xs _ _ H.out hn hnc).mono ?_
  rintro e w1 ⟨rfl, hb⟩
  have HB := Lib.hid hb
  have H1 := Lib.hid (H.out.to_below hb)
  clear hb
  go_wp2_with fail
  refine (implKidsOf_any _ _ _ xs _ _ H1.out hn hnc).mono ?_
  rintro e w2 ⟨A2, c2, rfl, ho, hb⟩
  have HB := Lib.hid (HB.out.trans (hb.mono HB.out.size))
  have I2 := Lib.hid (IntIn.of_own ho)
  clear ho hb
  go_wp2_with fail
  refine (slIndex_any _ _ _ (Tr.kidsI xs (Tr.parentOf xs i)) _ _ I2.out (by omega)).mono ?_
  rintro e w3 ⟨rfl, rfl⟩
  go_wp2
  go_ret
  exact ⟨by rw [HF.out]; rfl, HB.out⟩

end Go.Proofs.Ytofpcedpmbecgaa

/- Contracts (PthI). -/
namespace Go.Proofs.Ytofpcedpmbecgaa
open Go.RowKit
set_option linter.unusedVariables false

theorem Tr.path_par (xs : Tr) (z : Int) : if 0 ≤ Tr.parentOf xs z then ∃ p : Nat, 0 ≤ z ∧ Tr.parentOf xs z = p ∧ (p : Int) < z ∧ Tr.path xs z = Tr.path xs (p : Int) ++ [Tr.kidRank xs z] else Tr.path xs z = [] := by
  have h := Tr.path_step xs z
  by_cases c : 0 ≤ Tr.kidRank xs z
  · rw [if_pos c] at h
    obtain ⟨p, h0, h1, h2, h3⟩ := h
    rw [if_pos (by omega)]
    exact ⟨p, h0, h1, h2, h3⟩
  · rw [if_neg c] at h
    by_cases c2 : 0 ≤ Tr.parentOf xs z
    · exfalso
      rcases hh : Tr.has xs z with _ | _
      · unfold Tr.parentOf at c2
        rw [hh] at c2
        simp at c2
      · obtain ⟨hok, h0, hz⟩ := Tr.has_iff.1 hh
        obtain ⟨j, rfl⟩ := Int.eq_ofNat_of_zero_le h0
        have : j = 0 := by
          rcases Nat.eq_zero_or_pos j with e | e
          · exact e
          · exact absurd ((Tr.rank_pos hok (by omega)).2 e) c
        subst this
        unfold Tr.parentOf at c2
        rw [hh] at c2
        simp [Tr.back] at c2
    · rw [if_neg c2]; exact h

set_option maxHeartbeats 800000 in
set_option maxRecDepth 100000 in
theorem implPathOf_any (A : Option Addr) (n c : Nat) (xs : Tr) (i : Int) (w : World) (h : NdIn w w.heap.size A n xs) (hn : n ≤ 1048576) (hnc : n ≤ c) :
    Calls Try.prog 38 #[.slice A n c, .int .i64 i] w (OwnInts 3 (Tr.path xs i) w) := by
  have H := Lib.hid h
  clear h
  have HL := Lib.hid H.out.1
  have HP := Lib.hid (fun z => Tr.path_par xs z)
  have HPL := Lib.hid (Tr.path_len xs i)
  have HI := Lib.hid info_intP
  obtain ⟨i0, hi, hz0, hz1, hz2⟩ := info_parts HI.out
  go_enter Try.func38, Try.ntmps38
  go_wp2_with fail
  refine (implParentOf_any _ _ _ xs i _ H.out hn hnc).mono ?_
  rintro e w1 ⟨rfl, hb1⟩
  have Hb1 := Lib.hid hb1
  clear hb1
  go_wp2
  go_loopw [1, 5, 6] (fun kv ov pv wr => ∃ (z : Int) (q : List Int), kv = .int .i64 z ∧ pv = .int .i64 (Tr.parentOf xs z) ∧ wr.ownsRow w.heap.size 3 1 ov q.length (ints q) ∧ Tr.path xs i = Tr.path xs z ++ q.reverse ∧ Below w.heap.size w wr) (fun k _ _ _ => (intOf k + 1).toNat)
  case atStart => exact ⟨i, [], rfl, rfl, own_nil, by simp, Hb1.out⟩
  case round =>
    obtain ⟨z, q, rfl, rfl, hown, hpath, hB⟩ := hrel
    have Ho := Lib.hid hown
    have HB := Lib.hid hB
    have Hz := Lib.hid (H.out.to_below hB)
    have hp := HP.out z
    have hql : q.length ≤ n := by
      have := HPL.out
      rw [hpath, HL.out] at this
      simp at this; omega
    have Hp := Lib.hid hpath
    clear hown hB hpath
    obtain ⟨r, hr⟩ : ∃ r, r = Tr.parentOf xs z := ⟨_, rfl⟩
    rw [← hr] at hp ⊢
    have Hr := Lib.hid hr
    clear hr
    by_cases hc : 0 ≤ r
    · rw [if_pos hc] at hp
      obtain ⟨p, hz0', hpar, hlt, hup⟩ := hp
      have Hup := Lib.hid hup
      have Hpar := Lib.hid hpar
      have q1 : decide (0 ≤ r) = true := decide_eq_true hc
      clear hup hpar
      go_wp2_with fail
      refine (implKidRank_any _ _ _ xs z _ Hz.out hn hnc).mono ?_
      rintro e w2 ⟨rfl, hb2⟩
      have Ho := Lib.hid (own_below Ho.out hb2)
      have HB := Lib.hid (HB.out.trans (hb2.mono HB.out.size))
      have hs2 := HB.out.size
      clear hb2
      go_wp2_with (at_builtin; go_loud (refine append_int w2 rfl _ _ 27 rfl w.heap.size 3 i0 Try.underlying27 hi hz0 hz1 hz2 u5 q.length q rfl Ho.out rfl (Tr.kidRank xs z) rfl (by omega) hs2 ?_; intro v3 w3 hown3 hgrow3))
      have hb3 := Kit.below_own HB.out Ho.out hgrow3
      have Ho3 := Lib.hid hown3
      have HB3 := Lib.hid hb3
      have Hz := Lib.hid (H.out.to_below hb3)
      clear hown3 hgrow3 hb3
      (try go_wp2_with fail)
      refine (implParentOf_any _ _ _ xs r _ Hz.out hn hnc).mono ?_
      rintro e w4 ⟨rfl, hb4⟩
      have Ho3 := Lib.hid (own_below Ho3.out hb4)
      have HB4 := Lib.hid (HB3.out.trans (hb4.mono HB3.out.size))
      clear hb4
      go_wp2
      go_roundw
      case rel => exact ⟨r, q ++ [Tr.kidRank xs z], rfl, rfl, Ho3.out, by rw [Hp.out, Hup.out, Hpar.out]; simp, HB4.out⟩
      case measure => have := Hpar.out; simp [intOf]; omega
    · rw [if_neg hc] at hp
      have Hp2 := Lib.hid (show Tr.path xs i = q.reverse by rw [Hp.out, hp]; rfl)
      have q1 : decide (0 ≤ r) = false := decide_eq_false hc
      obtain ⟨A', c', rfl⟩ := own_slice Ho.out
      clear hp
      go_wp2_with fail
      refine (reverseInts_any _ _ _ _ _ q _ Ho.out (by omega)).mono ?_
      rintro e w5 ⟨rfl, ho5, hg5⟩
      have HB5 := Lib.hid (HB.out.grown hg5 (by have := HB.out.size; omega) (fun b e => (Ho.out.lt b e).1))
      have Ho5 := Lib.hid ho5
      clear ho5 hg5
      go_wp2
      go_ret
      exact ⟨A', c', by rw [Hp2.out, List.length_reverse]; rfl, by rw [Hp2.out, List.length_reverse]; exact Ho5.out, HB5.out⟩

end Go.Proofs.Ytofpcedpmbecgaa

/- Lists of which the first part is laid (NdPt). -/
namespace Go.Proofs.Ytofpcedpmbecgaa
open Go.RowKit
set_option linter.unusedVariables false

/-- the first k nodes of xs, then zeros -/
def Tr.part (xs : Tr) (k : Nat) : Tr := xs.take k ++ List.replicate (xs.length - k) (0, 0)
theorem Tr.part_length (xs : Tr) (k : Nat) (hk : k ≤ xs.length) : (Tr.part xs k).length = xs.length := by simp [Tr.part]; omega
theorem Tr.part_set (xs : Tr) (k : Nat) (hk : k < xs.length) : (Tr.part xs k).set k (Tr.l xs k, Tr.d xs k) = Tr.part xs (k + 1) := by
  unfold Tr.part
  rw [List.set_append_right _ _ (by simp; omega)]
  rw [List.take_succ_eq_append_getElem hk, List.append_assoc]
  congr 1
  rw [show xs.length - k = (xs.length - (k + 1)) + 1 by omega, List.replicate_succ]
  simp [Tr.l, Tr.d, List.getD_eq_getElem?_getD, hk, show k - min k xs.length = 0 by omega]
theorem Tr.part_full (xs : Tr) : Tr.part xs xs.length = xs := by simp [Tr.part]
theorem Tr.part_none (xs : Tr) : Tr.part xs 0 = List.replicate xs.length (0, 0) := by simp [Tr.part]

theorem made_nodes (n : Nat) : (madeCells (Value.agg #[.int .i64 0, .int .i64 0]).cells (n * 2)).toList = Tr.cells (List.replicate n (0, 0)) := by
  have h1 (m : Nat) : Tr.cells (List.replicate m (0, 0)) = List.replicate (m * 2) (.int .i64 0) := by
    induction m with
    | zero => rfl
    | succ m ih => rw [List.replicate_succ, show (m + 1) * 2 = m * 2 + 1 + 1 by omega, List.replicate_succ, List.replicate_succ, ← ih]; rfl
  rw [h1]
  apply List.ext_getElem?
  intro j
  by_cases hj : j < n * 2
  · have h2 : j % 2 = 0 ∨ j % 2 = 1 := by omega
    rcases h2 with h2 | h2 <;> simp [madeCells, hj, h2, Value.cells]
  · simp [madeCells, hj]

end Go.Proofs.Ytofpcedpmbecgaa

/- Contracts of the harness over []Node: size, copy. -/
namespace Go.Proofs.Ytofpcedpmbecgaa
open Go.RowKit
set_option linter.unusedVariables false

set_option maxHeartbeats 400000 in
theorem szNodeS_any (A : Option Addr) (n c : Nat) (left : Int) (w : World) (hn : n ≤ 9223372036854775807) (h0 : 0 ≤ left) (h1 : left ≤ 1048576) :
    Calls Try.prog 31 #[.slice A n c, .int .i64 left] w fun e w' => e = .returned (.int .i64 (if (n : Int) ≤ left then left - n else -1)) ∧ w = w' := by
  by_cases h : (n : Int) ≤ left
  · rw [if_pos h]
    go_enter Try.func31, Try.ntmps31
    go_wp2
    go_ret
    exact ⟨rfl, rfl⟩
  · rw [if_neg h]
    go_enter Try.func31, Try.ntmps31
    go_wp2
    go_ret
    exact ⟨rfl, rfl⟩

set_option maxHeartbeats 400000 in
theorem toNode_any (a b : Int) (w : World) :
    Calls Try.prog 74 #[.agg #[.int .i64 a, .int .i64 b]] w fun e w' => e = .returned (.agg #[.int .i64 a, .int .i64 b]) ∧ Below w.heap.size w w' := by
  go_enter Try.func74, Try.ntmps74
  go_wp2
  exact bodyPost_ret (v := .agg #[.int .i64 a, .int .i64 b]) (by simp [results, Try.results74, go_sem]) rfl ⟨rfl, by repeat' (first | exact Below.refl _ _ | refine Below.alloc ?_ (by simp [Nat.le_add_right, Nat.add_assoc]) _ | refine Below.setCell ?_ (by simp [Nat.add_assoc]) _)⟩

theorem info_node : (Try.prog.info? 40).map (fun i => (i.zero, i.size, i.bytes)) = some (some (.agg #[.int .i64 0, .int .i64 0]), 2, 16) := by kernel_rfl

set_option maxHeartbeats 800000 in
set_option maxRecDepth 100000 in
theorem toNodeS_any (A : Option Addr) (n c : Nat) (xs : Tr) (w : World) (h : NdIn w w.heap.size A n xs) (hn : n ≤ 1048576) :
    Calls Try.prog 33 #[.slice A n c] w fun e w' => e = .returned (.slice (some ⟨w.heap.size, 0, none⟩) n n) ∧
      w'.ownsRow w.heap.size 40 2 (.slice (some ⟨w.heap.size, 0, none⟩) n n) n (Tr.cells xs) ∧ Below w.heap.size w w' := by
  have H := Lib.hid h
  clear h
  have HL := Lib.hid H.out.1
  obtain ⟨i0, hi, hz0, hz1, hz2⟩ := info_parts info_node
  go_enter Try.func33, Try.ntmps33
  go_wp2_with (at_make; refine wpList_make_full _ rfl _ _ 24 rfl w.heap.size 40 i0 (.agg #[.int .i64 0, .int .i64 0]) 2 Try.underlying24 hi hz0 hz1 _ _ _ _ n rfl rfl rfl rfl (by rw [hz2]; omega) (by unfold maxLen; omega) (Nat.le_refl _) ?_; intro w1 hown1 hgrow1)
  have hb1 : Below w.heap.size w w1 := (Below.refl _ w).grown hgrow1 (Nat.le_refl _) (fun _ h => by cases h)
  rw [made_nodes, ← HL.out, ← Tr.part_none, HL.out] at hown1
  go_loopw [4] (fun iv wr => ∃ k : Nat, k ≤ n ∧ iv = .int .i64 k ∧ wr.ownsRow w.heap.size 40 2 (.slice (some ⟨w.heap.size, 0, none⟩) n n) n (Tr.cells (Tr.part xs k)) ∧ Below w.heap.size w wr) (fun i _ => n - (intOf i).toNat)
  case atStart => exact ⟨0, by omega, rfl, hown1, hb1⟩
  case round =>
    obtain ⟨k, hk, rfl, hown, hB⟩ := hrel
    have hsz := hB.size
    by_cases hlt : k < n
    · obtain ⟨ad, rfl, hb, hl, hd⟩ := (H.out.below hB).at_ hlt
      have Ho := Lib.hid hown
      have HB := Lib.hid hB
      clear hown hB
      go_wp2_with (go_at_call 74; refine (toNode_any _ _ _).mono ?_; rintro e w' ⟨rfl, hb'⟩; have hb2 := Lib.hid hb'; clear hb'; have Ho2 := Lib.hid (own_below Ho.out hb2.out); have c0 := own_even Ho2.out (k := k) (by rw [Tr.part_length _ _ (by rw [HL.out]; omega), HL.out]; omega); have c1 := own_odd Ho2.out (k := k) (by rw [Tr.part_length _ _ (by rw [HL.out]; omega), HL.out]; omega); have f0 := Ho2.out.frozenAt (k * 2); have f1 := Ho2.out.frozenAt (k * 2 + 1))
      go_roundw
      case rel =>
        refine ⟨k + 1, by omega, by go_num, ?_, ?_⟩
        · have := own_set Ho2.out k (Tr.l xs k) (Tr.d xs k)
          rw [Tr.part_set xs k (by rw [HL.out]; exact hlt)] at this
          exact this
        · exact ((HB.out.trans (hb2.out.mono hsz)).setCell (Nat.le_refl _) _).setCell (Nat.le_refl _) _
      case measure => simp [intOf]; omega
    · obtain rfl : k = n := by omega
      rw [← HL.out, Tr.part_full, HL.out] at hown
      go_wp2
      go_ret
      exact ⟨rfl, hown, hB⟩

end Go.Proofs.Ytofpcedpmbecgaa

/- Two lists of nodes that agree so far. -/
namespace Go.Proofs.Ytofpcedpmbecgaa
open Go.RowKit
set_option linter.unusedVariables false

/-- the first k nodes agree -/
def Tr.same (xs ys : Tr) (k : Nat) : Prop := ∀ j, j < k → Tr.l xs j = Tr.l ys j ∧ Tr.d xs j = Tr.d ys j

end Go.Proofs.Ytofpcedpmbecgaa

/- Contracts of the harness over []Node: equality. -/
namespace Go.Proofs.Ytofpcedpmbecgaa
open Go.RowKit
set_option linter.unusedVariables false

set_option maxHeartbeats 400000 in
theorem eqNode_any (a b c d : Int) (w : World) :
    Calls Try.prog 75 #[.agg #[.int .i64 a, .int .i64 b], .agg #[.int .i64 c, .int .i64 d]] w fun e w' => e = .returned (.bool (decide (a = c ∧ b = d))) ∧ Below w.heap.size w w' := by
  have hB : ∀ o1 o2, Below w.heap.size w ((w.alloc o1).alloc o2) := fun o1 o2 => ((Below.refl _ _).alloc (Nat.le_refl _) _).alloc (by simp) _
  by_cases h1 : a = c
  · by_cases h2 : b = d
    · subst h1 h2
      go_enter Try.func75, Try.ntmps75
      go_wp2
      go_ret
      exact ⟨Kit.ret_bool (by simp), hB _ _⟩
    · have h2' : (b != d) = true := by simpa using h2
      subst h1
      go_enter Try.func75, Try.ntmps75
      go_wp2
      go_ret
      exact ⟨Kit.ret_bool (by simp [h2]), hB _ _⟩
  · have h1' : (a != c) = true := by simpa using h1
    go_enter Try.func75, Try.ntmps75
    go_wp2
    go_ret
    exact ⟨Kit.ret_bool (by simp [h1]), hB _ _⟩


set_option maxHeartbeats 800000 in
set_option maxRecDepth 100000 in
theorem eqNodeS_any (A A' : Option Addr) (n c n' c' : Nat) (xs ys : Tr) (w : World) (h : NdIn w w.heap.size A n xs) (h' : NdIn w w.heap.size A' n' ys) (hn : n ≤ 1048576) (hn' : n' ≤ 1048576) :
    Calls Try.prog 34 #[.slice A n c, .slice A' n' c'] w fun e w' => e = .returned (.bool (decide (xs = ys))) ∧ Below w.heap.size w w' := by
  have H := Lib.hid h
  have H' := Lib.hid h'
  clear h h'
  have HL := Lib.hid H.out.1
  have HL' := Lib.hid H'.out.1
  by_cases hnn : n = n'
  · go_enter Try.func34, Try.ntmps34
    have Hnn := Lib.hid hnn
    have hne : ((n : Int) != (n' : Int)) = false := by simp [hnn]
    clear hnn
    go_wp2
    go_loopw [5] (fun iv wr => ∃ k : Nat, k ≤ n ∧ iv = .int .i64 k ∧ Tr.same xs ys k ∧ Below w.heap.size w wr) (fun i _ => n - (intOf i).toNat)
    case atStart => exact ⟨0, by omega, rfl, fun j hj => absurd hj (by omega), Below.refl _ _⟩
    case round =>
      obtain ⟨k, hk, rfl, hsm, hB⟩ := hrel
      have hsz := hB.size
      have Hsm := Lib.hid hsm
      have HB := Lib.hid hB
      clear hsm hB
      by_cases hlt : k < n
      · obtain ⟨ad, rfl, hb, hl, hd⟩ := (H.out.below HB.out).at_ hlt
        obtain ⟨ad', rfl, hb', hl', hd'⟩ := (H'.out.below HB.out).at_ (k := k) (by rw [← Hnn.out]; exact hlt)
        have hlt' : (k : Int) < (n' : Int) := by rw [← Hnn.out]; omega
        have hk0 : (0 : Int) ≤ (k : Int) := by omega
        have HB2 := Lib.hid HB.out.drew
        have hsz2 := HB.out.drew.size
        by_cases hq : Tr.l xs k = Tr.l ys k ∧ Tr.d xs k = Tr.d ys k
        · have hq' : decide (Tr.l xs k = Tr.l ys k ∧ Tr.d xs k = Tr.d ys k) = true := by simpa using hq
          have Hq := Lib.hid hq
          clear hq
          go_wp2
          go_still_tail 8, (by kernel_rfl)
          change wpList _ _ _ _ _ wr.drew
          generalize wr.drew = w2 at HB2 hsz2 ⊢
          go_wp2_with (go_at_call 75; refine (eqNode_any _ _ _ _ _).mono ?_; rintro e w3 ⟨rfl, hb3⟩)
          go_roundw
          case rel => exact ⟨k + 1, by omega, by go_num, fun j hj => by
            rcases Nat.lt_succ_iff_lt_or_eq.1 hj with h' | rfl
            · exact Hsm.out j h'
            · exact Hq.out, HB2.out.trans (hb3.mono hsz2)⟩
          case measure => simp [intOf]; omega
        · have hq' : decide (Tr.l xs k = Tr.l ys k ∧ Tr.d xs k = Tr.d ys k) = false := by simpa using hq
          have Hq := Lib.hid hq
          clear hq
          go_wp2
          go_still_tail 8, (by kernel_rfl)
          change wpList _ _ _ _ _ wr.drew
          generalize wr.drew = w2 at HB2 hsz2 ⊢
          go_wp2_with (go_at_call 75; refine (eqNode_any _ _ _ _ _).mono ?_; rintro e w3 ⟨rfl, hb3⟩)
          go_ret
          refine ⟨Kit.ret_bool ?_, HB2.out.trans (hb3.mono hsz2)⟩
          symm
          rw [decide_eq_false_iff_not]
          rintro rfl
          exact Hq.out ⟨rfl, rfl⟩
      · obtain rfl : k = n := by omega
        go_wp2
        go_ret
        refine ⟨Kit.ret_bool ?_, HB.out⟩
        symm
        rw [decide_eq_true_eq]
        exact Tr.ext (by rw [HL.out, HL'.out]; exact Hnn.out) (fun j hj => Hsm.out j (by rw [← HL.out]; exact hj))
  · have hne : ((n : Int) != (n' : Int)) = true := by simp; omega
    have Hq := Lib.hid (show decide (xs = ys) = false by
      rw [decide_eq_false_iff_not]; rintro rfl; exact hnn (HL.out.symm.trans HL'.out))
    clear hnn
    go_enter Try.func34, Try.ntmps34
    go_wp2
    go_ret
    exact ⟨Kit.ret_bool Hq.out.symm, Below.refl _ _⟩

end Go.Proofs.Ytofpcedpmbecgaa

/- Contracts (NdM). -/
namespace Go.Proofs.Ytofpcedpmbecgaa
open Go.RowKit
set_option linter.unusedVariables false

set_option maxHeartbeats 800000 in
set_option maxRecDepth 100000 in
theorem markNodeS_any (A : Option Addr) (n c base : Nat) (e0 : TypeId) (k0 : Int) (xs : Tr) (w : World) (h : w.ownsRow base e0 2 (.slice A n c) n (Tr.cells xs)) (hn : n ≤ 1048576) (h0 : 0 ≤ k0) (h1 : k0 ≤ 1073741824) :
    Calls Try.prog 35 #[.slice A n c, .int .i64 k0] w fun e w' => e = .returned (.int .i64 (k0 + 2 * n)) ∧ w'.ownsRow base e0 2 (.slice A n c) n (Tr.cells (Tr.marks k0 n)) ∧ w.grownBy w' (Value.ownBlock (.slice A n c)) := by
  have H := Lib.hid h
  have HL := Lib.hid (show xs.length = n by have := h.1; rw [Tr.cells_length] at this; omega)
  clear h
  go_enter Try.func35, Try.ntmps35
  go_wp2
  go_loopw [5, 1] (fun iv kv wr => ∃ j : Nat, j ≤ n ∧ iv = .int .i64 j ∧ kv = .int .i64 (k0 + 2 * j) ∧ wr.ownsRow base e0 2 (.slice A n c) n (Tr.cells (Tr.marked k0 xs j)) ∧ w.grownBy wr (Value.ownBlock (.slice A n c))) (fun i _ _ => n - (intOf i).toNat)
  case atStart => exact ⟨0, by omega, rfl, by simp, by simpa [Tr.marked, Tr.marks] using H.out, World.grownBy.refl _ _⟩
  case round =>
    obtain ⟨j, hj, rfl, rfl, hown, hgr⟩ := hrel
    by_cases hlt : j < n
    · obtain ⟨g, rfl, hg⟩ := own_form hown (by omega)
      have Ho := Lib.hid hown
      have Hg := Lib.hid hgr
      have c0 := own_even hown (k := j) (by rw [Tr.marked_length _ _ _ (by rw [HL.out]; omega), HL.out]; exact hlt)
      have c1 := own_odd hown (k := j) (by rw [Tr.marked_length _ _ _ (by rw [HL.out]; omega), HL.out]; exact hlt)
      have f0 := hown.frozenAt (j * 2)
      have f1 := hown.frozenAt (j * 2 + 1)
      clear hown hgr hg
      go_wp2
      go_roundw
      case rel =>
        refine ⟨j + 1, by omega, by go_num, by go_num, ?_, grown_tr Hg.out (grown_tr (Ho.out.stored _ _).2 ((Ho.out.stored _ _).1.stored _ _).2)⟩
        have := own_set Ho.out j (k0 + 2 * (j : Nat)) (k0 + 2 * (j : Nat) + 1)
        rw [Tr.marked_set _ _ _ (by rw [HL.out]; exact hlt)] at this
        exact this
      case measure => simp [intOf]; omega
    · obtain rfl : j = n := by omega
      have Ho := Lib.hid hown
      have Hg := Lib.hid hgr
      clear hown hgr
      go_wp2
      go_ret
      refine ⟨rfl, ?_, Hg.out⟩
      have := Ho.out
      rw [← HL.out, Tr.marked_all, HL.out] at this
      exact this

end Go.Proofs.Ytofpcedpmbecgaa
