/- Texts of one claim laid into one file, in build order: EndOfI, KidI, SlI, KidRankI, CloneI, ShI, BoxC, Bxc, Cbx. -/
import Derived.Test.YtofpcedpmbecgaaHb2
import Derived.Test.YtofpcedpmbecgaaHb3
import Derived.Test.YtofpcedpmbecgaaHb4
import Derived.Test.YtofpcedpmbecgaaHb5
import Derived.Outline
import Derived.Test.YtofpcedpmbecgaaRows
/- Contracts (EndOfI). -/
namespace Go.Proofs.Ytofpcedpmbecgaa
open Go.RowKit
set_option linter.unusedVariables false

set_option maxHeartbeats 800000 in
set_option maxRecDepth 100000 in
theorem implEndOf_any (A : Option Addr) (n c : Nat) (xs : Tr) (i : Int) (w : World) (h : NdIn w w.heap.size A n xs) (hn : n ≤ 1048576) (hnc : n ≤ c) :
    Calls Try.prog 16 #[.slice A n c, .int .i64 i] w fun e w' => e = .returned (.int .i64 (Tr.endOf xs i)) ∧ Below w.heap.size w w' := by
  have H := Lib.hid h
  clear h
  have HL := Lib.hid H.out.1
  rcases hok : Tr.has xs i with _ | _
  · have Hf := Lib.hid (show Tr.endOf xs i = -1 by simp [Tr.endOf, hok])
    have Hok := Lib.hid hok
    clear hok
    go_enter Try.func16, Try.ntmps16
    go_wp2_with fail
    refine (hasNode_any _ _ _ xs _ _ H.out hn hnc).mono ?_
    rintro e w1 ⟨rfl, hd⟩
    rw [Hok.out]
    go_wp2
    go_ret
    exact ⟨Kit.ret_int Hf.out.symm, hd⟩
  · have h1 := (Tr.has_iff.1 hok).2
    rw [HL.out] at h1
    have Hf := Lib.hid (show Tr.endOf xs i = Tr.endN xs i.toNat by simp [Tr.endOf, hok])
    have Hok := Lib.hid hok
    clear hok
    obtain ⟨j, rfl⟩ := Int.eq_ofNat_of_zero_le h1.1
    have hj : j < n := by omega
    clear h1
    go_enter Try.func16, Try.ntmps16
    go_wp2_with fail
    refine (hasNode_any _ _ _ xs _ _ H.out hn hnc).mono ?_
    rintro e w1 ⟨rfl, hd1⟩
    have Hd1 := Lib.hid hd1
    have H1 := Lib.hid (H.out.below Hd1.out)
    clear hd1
    rw [Hok.out]
    go_wp2
    go_loopw [5] (fun kv wr => ∃ k : Nat, j < k ∧ k ≤ n ∧ kv = .int .i64 k ∧ (∀ m, j < m → m < k → Tr.d xs j < Tr.d xs m) ∧ Drawn w1 wr) (fun k _ => n - (intOf k).toNat)
    case atStart => exact ⟨j + 1, by omega, by omega, by go_num, fun m h1 h2 => absurd h1 (by omega), Drawn.refl _⟩
    case round =>
      obtain ⟨k, hjk, hk, rfl, hall, hD⟩ := hrel
      have Hall := Lib.hid hall
      clear hall
      have hk0 : (0 : Int) ≤ (k : Int) := by omega
      have hj0 : (0 : Int) ≤ (j : Int) := by omega
      by_cases hlt : k < n
      · have hltd : decide (k < n) = true := by simpa using hlt
        obtain ⟨ad, rfl, hb, hl, hd⟩ := (H1.out.drawn hD).at_ hlt
        obtain ⟨hl', hd'⟩ := (H1.out.drawn hD).here hj
        clear hl hl'
        by_cases hgt : Tr.d xs j < Tr.d xs k
        · have hg : decide (Tr.d xs j < Tr.d xs k) = true := by simpa using hgt
          have Hg := Lib.hid hgt
          clear hgt
          go_wp2
          go_quiet (fail)
          go_wp2
          go_roundw
          case rel => exact ⟨k + 1, by omega, by omega, by go_num, fun m h1 h2 => by
            rcases Nat.lt_succ_iff_lt_or_eq.1 h2 with h' | rfl
            · exact Hall.out m h1 h'
            · exact Hg.out, hD.drewN _⟩
          case measure => simp [intOf]; omega
        · have hg : decide (Tr.d xs j < Tr.d xs k) = false := by simpa using hgt
          have He := Lib.hid (Tr.endN_is (xs := xs) hjk (by rw [HL.out]; exact hk) Hall.out (.inr (by omega)))
          clear hgt
          go_wp2
          go_quiet (fail)
          go_wp2
          go_ret
          exact ⟨Kit.ret_int (by rw [Hf.out, Int.toNat_natCast, He.out]), Drawn.below Hd1.out (hD.drewN _)⟩
      · have hltd : decide (k < n) = false := by simpa using hlt
        obtain rfl : k = n := by omega
        have He := Lib.hid (Tr.endN_is (xs := xs) hjk (by rw [HL.out]; exact hk) Hall.out (.inl HL.out.symm))
        go_wp2
        go_quiet (fail)
        go_wp2
        go_ret
        exact ⟨Kit.ret_int (by rw [Hf.out, Int.toNat_natCast, He.out]), Drawn.below Hd1.out (hD.drewN _)⟩

end Go.Proofs.Ytofpcedpmbecgaa

/- Contracts (KidI). -/
namespace Go.Proofs.Ytofpcedpmbecgaa
open Go.RowKit
set_option linter.unusedVariables false

theorem info_intI : (Try.prog.info? 3).map (fun i => (i.zero, i.size, i.bytes)) = some (some (.int .i64 0), 1, 8) := by kernel_rfl

set_option maxHeartbeats 800000 in
set_option maxRecDepth 100000 in
theorem implKidsOf_any (A : Option Addr) (n c : Nat) (xs : Tr) (i : Int) (w : World) (h : NdIn w w.heap.size A n xs) (hn : n ≤ 1048576) (hnc : n ≤ c) :
    Calls Try.prog 13 #[.slice A n c, .int .i64 i] w (OwnInts 3 (Tr.kidsI xs i) w) := by
  have H := Lib.hid h
  clear h
  have HL := Lib.hid H.out.1
  obtain ⟨i0, hi, hz0, hz1, hz2⟩ := info_parts info_intI
  rcases hok : Tr.has xs i with _ | _
  · have Hf := Lib.hid (Tr.kidsI_no hok)
    have Hok := Lib.hid hok
    clear hok
    go_enter Try.func13, Try.ntmps13
    go_wp2_with fail
    refine (hasNode_any _ _ _ xs _ _ H.out hn hnc).mono ?_
    rintro e w1 ⟨rfl, hb1⟩
    have HB := Lib.hid hb1
    clear hb1
    rw [Hok.out]
    go_wp2
    go_ret
    exact ⟨_, _, by rw [Hf.out]; rfl, by rw [Hf.out]; exact own_nil, HB.out⟩
  · have h1 := (Tr.has_iff.1 hok).2
    have h0 := (Tr.has_iff.1 hok).1
    rw [HL.out] at h1
    have hbd := Lib.hid fun k => Tr.ok_at (xs := xs) h0 (k := k)
    obtain ⟨j, rfl⟩ := Int.eq_ofNat_of_zero_le h1.1
    have hj : j < n := by omega
    have Hf := Lib.hid (Tr.kidsI_yes hok)
    have He := Lib.hid (Tr.endOf_yes hok)
    have hE := Tr.endN_spec xs j (by rw [HL.out]; exact hj)
    have hE1 := hE.1
    have hE2 := hE.2.1
    rw [HL.out] at hE2
    have Hok := Lib.hid hok
    clear hok h1 h0 hE
    go_enter Try.func13, Try.ntmps13
    go_wp2_with fail
    refine (hasNode_any _ _ _ xs _ _ H.out hn hnc).mono ?_
    rintro e w1 ⟨rfl, hb1⟩
    have H1 := Lib.hid (H.out.to_below hb1)
    have HB1 := Lib.hid hb1
    clear hb1
    rw [Hok.out]
    go_wp2_with fail
    refine (implEndOf_any _ _ _ xs _ _ H1.out hn hnc).mono ?_
    rintro e w2 ⟨rfl, hb2⟩
    have HB2 := Lib.hid (HB1.out.trans (hb2.mono HB1.out.size))
    clear hb2
    rw [He.out]
    go_wp2
    go_loopw [7, 5] (fun kv ov wr => ∃ k : Nat, j < k ∧ k ≤ Tr.endN xs j ∧ kv = .int .i64 k ∧ wr.ownsRow w.heap.size 3 1 ov (Tr.kidsZ xs j k).length (ints (Tr.kidsZ xs j k)) ∧ Below w.heap.size w wr) (fun k _ _ => n - (intOf k).toNat)
    case atStart => exact ⟨j + 1, by omega, by omega, by go_num, by rw [Tr.kidsZ_start]; exact own_nil, HB2.out⟩
    case round =>
      obtain ⟨k, hjk, hk, rfl, hown, hB⟩ := hrel
      have hz := Lib.hid (H.out.to_below hB)
      have Ho := Lib.hid hown
      have HB := Lib.hid hB
      have hsz2 := hB.size
      clear hown hB
      by_cases hlt : k < Tr.endN xs j
      · obtain ⟨ad, rfl, hb, hl, hd⟩ := hz.out.at_ (k := k) (by omega)
        obtain ⟨hl', hd'⟩ := hz.out.here hj
        clear hl hl'
        have Hs := Lib.hid (Tr.kidsZ_succ xs j k hjk)
        have hlen := Tr.kidsZ_len xs j k
        have hk0 : (0 : Int) ≤ (k : Int) := by omega
        have hj0 : (0 : Int) ≤ (j : Int) := by omega
        have hbj := (hbd.out j (by rw [HL.out]; exact hj)).2.1
        have a5 : IntKind.i64.wrap (Tr.d xs j + 1) = Tr.d xs j + 1 := Kit.w64 (by omega) (by omega)
        by_cases hq : Tr.d xs k = Tr.d xs j + 1
        · have q : (Tr.d xs k == Tr.d xs j + 1) = true := by simpa using hq
          have Hq := Lib.hid hq
          clear hq
          go_wp2
          go_quiet (fail)
          clear a5
          go_wp2_with (at_builtin; go_loud (refine append_int (World.drewN wr nq) rfl _ _ 27 rfl w.heap.size 3 i0 Try.underlying27 hi hz0 hz1 hz2 u5 (Tr.kidsZ xs j k).length (Tr.kidsZ xs j k) rfl (Ho.out : World.ownsRow (World.drewN wr nq) _ _ _ _ _ _) rfl (k : Int) rfl (by omega) hsz2 ?_; intro v1 w3 hown3 hgrow3))
          have hb3 := Kit.below_own (below_drewN HB.out _) (Ho.out : World.ownsRow (World.drewN wr nq) _ _ _ _ _ _) hgrow3
          go_roundw
          case rel => exact ⟨k + 1, by omega, by omega, by go_num, by rw [Hs.out, if_pos Hq.out]; exact hown3, hb3⟩
          case measure => simp [intOf]; omega
        · have q : (Tr.d xs k == Tr.d xs j + 1) = false := by simpa using hq
          have Hq := Lib.hid hq
          clear hq
          go_wp2
          go_quiet (fail)
          clear a5
          go_wp2
          go_roundw
          case rel => exact ⟨k + 1, by omega, by omega, by go_num, by rw [Hs.out, if_neg (by have := Hq.out; omega)]; exact (Ho.out : World.ownsRow (World.drewN wr nq) _ _ _ _ _ _), below_drewN HB.out _⟩
          case measure => simp [intOf]; omega
      · obtain rfl : k = Tr.endN xs j := by omega
        obtain ⟨A', c', rfl⟩ := own_slice Ho.out
        go_wp2
        go_ret
        exact ⟨A', c', by rw [Hf.out]; rfl, by rw [Hf.out]; exact Ho.out, HB.out⟩

end Go.Proofs.Ytofpcedpmbecgaa

/- Contracts (SlI). -/
namespace Go.Proofs.Ytofpcedpmbecgaa
open Go.RowKit
set_option linter.unusedVariables false

set_option maxHeartbeats 1600000 in
set_option maxRecDepth 100000 in
theorem slIndex_any (A : Option Addr) (n c : Nat) (zs : List Int) (i : Int) (w : World) (h : IntIn w w.heap.size A n zs) (hn : n ≤ 1048576) :
    Calls Try.prog 58 #[.slice A n c, .int .i64 i] w fun e w' => e = .returned (.int .i64 (Zs.find zs i 0)) ∧ w = w' := by
  have H := Lib.hid h
  have HL := Lib.hid h.1
  clear h
  have HFS := Lib.hid (fun k => Zs.find_step zs i k)
  go_enter Try.func58, Try.ntmps58
  go_wp2
  go_loop [8] (fun kv => ∃ k : Nat, k ≤ n ∧ kv = .int .i64 k ∧ Zs.find zs i 0 = Zs.find (zs.drop k) i k) (fun k => n - (intOf k).toNat)
  case atStart => exact ⟨0, Nat.zero_le _, rfl, rfl⟩
  case round =>
    obtain ⟨k, hk, rfl, hfi⟩ := hrel
    have HI := Lib.hid hfi
    clear hfi
    by_cases hlt : k < n
    · have hfs := HFS.out k (by rw [HL.out]; exact hlt)
      obtain ⟨ad, rfl, _, c1⟩ := H.out.at_ hlt
      have hz : Zs.at zs k = zs.getD k 0 := rfl
      rw [hz] at c1
      obtain ⟨x, hx⟩ : ∃ x, x = zs.getD k 0 := ⟨_, rfl⟩
      rw [← hx] at c1 hfs
      clear hx hz
      have k0 : (0 : Int) ≤ (k : Int) := by omega
      have k1 : (k : Int) < (n : Int) := by omega
      by_cases hq : x = i
      · have q : (i == x) = true := by simpa using hq.symm
        rw [if_pos hq] at hfs
        have Hs := Lib.hid (HI.out.trans hfs)
        clear hq hfs
        go_wp2
        go_ret
        exact ⟨by rw [Hs.out]; rfl, rfl⟩
      · have q : (i == x) = false := by simpa using fun e => hq e.symm
        rw [if_neg hq] at hfs
        have Hs := Lib.hid (HI.out.trans hfs)
        clear hq hfs
        go_wp2
        go_round
        case rel => exact ⟨k + 1, by omega, by go_num, Hs.out⟩
        case measure => simp [intOf]; omega
    · obtain rfl : k = n := by omega
      have Hs := Lib.hid (show Zs.find zs i 0 = -1 by rw [HI.out, List.drop_eq_nil_of_le (by rw [HL.out]; exact Nat.le_refl _)]; rfl)
      go_wp2
      go_ret
      exact ⟨by rw [Hs.out]; rfl, rfl⟩

end Go.Proofs.Ytofpcedpmbecgaa

/- Contracts (KidRankI). -/
namespace Go.Proofs.Ytofpcedpmbecgaa
open Go.RowKit
set_option linter.unusedVariables false

theorem Tr.kidRank_alt (xs : Tr) (i : Int) : Tr.kidRank xs i = Zs.find (Tr.kidsI xs (Tr.parentOf xs i)) i 0 := by
  unfold Tr.kidRank
  by_cases h : Tr.parentOf xs i < 0
  · rw [if_pos h, Tr.kidsI_no (by rw [Bool.eq_false_iff]; intro e; have := (Tr.has_iff.1 e).2.1; omega)]
    rfl
  · rw [if_neg h]; rfl
set_option maxHeartbeats 1600000 in
set_option maxRecDepth 100000 in
theorem implKidRank_any (A : Option Addr) (n c : Nat) (xs : Tr) (i : Int) (w : World) (h : NdIn w w.heap.size A n xs) (hn : n ≤ 1048576) (hnc : n ≤ c) :
    Calls Try.prog 18 #[.slice A n c, .int .i64 i] w fun e w' => e = .returned (.int .i64 (Tr.kidRank xs i)) ∧ Below w.heap.size w w' := by
  have H := Lib.hid h
  clear h
  have hlen := Tr.kidsI_len xs (Tr.parentOf xs i)
  rw [H.out.1] at hlen
  have HF := Lib.hid (Tr.kidRank_alt xs i)
  go_enter Try.func18, Try.ntmps18
  go_wp2_with fail
  refine (implParentOf_any _ _ _ xs _ _ H.out hn hnc).mono ?_
  rintro e w1 ⟨rfl, hb⟩
  have HB := Lib.hid hb
  have H1 := Lib.hid (H.out.to_below hb)
  clear hb
  go_wp2_with fail
  refine (implKidsOf_any _ _ _ xs _ _ H1.out hn hnc).mono ?_
  rintro e w2 ⟨A2, c2, rfl, ho, hb⟩
  have HB := Lib.hid (HB.out.trans (hb.mono HB.out.size))
  have I2 := Lib.hid (IntIn.of_own ho)
  clear ho hb
  go_wp2_with fail
  refine (slIndex_any _ _ _ (Tr.kidsI xs (Tr.parentOf xs i)) _ _ I2.out (by omega)).mono ?_
  rintro e w3 ⟨rfl, rfl⟩
  go_wp2
  go_ret
  exact ⟨by rw [HF.out]; rfl, HB.out⟩

end Go.Proofs.Ytofpcedpmbecgaa

/- Contracts (CloneI). -/
namespace Go.Proofs.Ytofpcedpmbecgaa
open Go.RowKit
set_option linter.unusedVariables false

theorem info_ndC : (Try.prog.info? 40).map (fun i => (i.zero, i.size, i.bytes)) = some (some (.agg #[.int .i64 0, .int .i64 0]), 2, 16) := by kernel_rfl

set_option maxHeartbeats 800000 in
set_option maxRecDepth 100000 in
theorem cloneNode_any (ad : Addr) (n c : Nat) (xs : Tr) (w : World) (h : NdIn w w.heap.size (some ad) n xs) (hn : n ≤ 1048576) :
    Calls Try.prog 64 #[.slice (some ad) n c] w (OwnNodes 40 xs w) := by
  have H := Lib.hid h
  clear h
  have HL := Lib.hid H.out.1
  obtain ⟨i0, hi, hz0, hz1, hz2⟩ := info_parts info_ndC
  have hnil := fun W : World => Lib.run_eql_slice_nil (P := Try.prog) W
  go_enter Try.func64, Try.ntmps64
  go_wp2_with (at_builtin; refine wpList_append_own (World.alloc w (.cells #[] 40)) rfl _ _ 24 rfl w.heap.size 40 i0 (.agg #[.int .i64 0, .int .i64 0]) 2 16 Try.underlying24 hi hz0 hz1 hz2 rfl (by omega) (.slice (some ⟨w.heap.size, 0, none⟩) 0 0) 0 [] rfl (World.ownsRow_lit w #[] 0 (Nat.le_refl _) (Nat.zero_le _) rfl) ad n c (Tr.cells xs) rfl (by rw [Tr.cells_length, HL.out]) (NdIn.cells_at (H.out.to_below ((Below.refl _ _).alloc (Nat.le_refl _) _))) (Tr.cells_cell xs) (by unfold maxLen; omega) (by omega) (by simp) ?_; intro v' w1 hown1 hgrow1 hnil1)
  clear hnil1 hnil
  have hown2 : w1.ownsRow w.heap.size 40 2 v' n (Tr.cells xs) := by simpa using hown1
  obtain ⟨A', c', rfl⟩ := own_slice hown2
  have hb : Below w.heap.size w w1 := ((Below.refl w.heap.size w).alloc (Nat.le_refl _) _).grown hgrow1 (by simp) (fun k hk => by simp [Value.ownBlock] at hk; omega)
  go_ret
  exact ⟨A', c', by rw [HL.out]; rfl, by rw [HL.out]; exact hown2, hb⟩

end Go.Proofs.Ytofpcedpmbecgaa

/- Contracts (ShI). -/
namespace Go.Proofs.Ytofpcedpmbecgaa
open Go.RowKit
set_option linter.unusedVariables false

/-- a cut of a slice of nodes -/
theorem NdIn.cut {w : World} {B n : Nat} {ad : Addr} {xs : Tr} (h : NdIn w B (some ad) n xs) {j m : Nat} (hjm : j + m ≤ n) : NdIn w B (some (ad.add (j * 2))) m ((xs.drop j).take m) := by
  refine ⟨by have := h.1; simp; omega, fun hm => ⟨_, rfl, ?_⟩, fun ad' e k hk => ?_⟩
  · rw [block_of_add]
    obtain ⟨ad', e, hb⟩ := h.2.1 (by omega)
    obtain rfl : ad = ad' := by injection e
    exact hb
  · obtain rfl : ad.add (j * 2) = ad' := by injection e
    have hc := h.2.2 ad rfl (j + k) (by omega)
    have hg : ((xs.drop j).take m).getD k (0, 0) = xs.getD (j + k) (0, 0) := by
      simp [List.getD_eq_getElem?_getD, hk]
    rw [add_of_add, add_of_add, show j * 2 + k * 2 = (j + k) * 2 by omega, show j * 2 + (k * 2 + 1) = (j + k) * 2 + 1 by omega]
    simp only [Tr.l, Tr.d] at hc ⊢
    rw [hg]
    exact hc
theorem Tr.cells_set_odd (xs : Tr) (k : Nat) (b : Int) : (Tr.cells xs).set (k * 2 + 1) (.int .i64 b) = Tr.cells (xs.set k (Tr.l xs k, b)) := by
  induction xs generalizing k with
  | nil => simp [Tr.cells]
  | cons x l ih =>
    cases k with
    | zero => simp [Tr.cells, Tr.l]
    | succ k =>
      have := ih k
      simp only [Tr.cells, Tr.l] at this ⊢
      simpa [show (k + 1) * 2 = k * 2 + 1 + 1 by omega] using this
/-- the first k nodes that many levels deeper -/
def Tr.up (xs : Tr) (dd : Int) (k : Nat) : Tr := (List.range xs.length).map fun t => (Tr.l xs t, if t < k then Tr.d xs t + dd else Tr.d xs t)
theorem Tr.up_length (xs : Tr) (dd : Int) (k : Nat) : (Tr.up xs dd k).length = xs.length := by simp [Tr.up]
theorem Tr.up_l {xs : Tr} {dd : Int} {k t : Nat} (h : t < xs.length) : Tr.l (Tr.up xs dd k) t = Tr.l xs t := by simp [Tr.up, Tr.l, List.getD_eq_getElem?_getD, h]
theorem Tr.up_d {xs : Tr} {dd : Int} {k t : Nat} (h : t < xs.length) : Tr.d (Tr.up xs dd k) t = if t < k then Tr.d xs t + dd else Tr.d xs t := by
  simp only [Tr.up, Tr.d, List.getD_eq_getElem?_getD]
  rw [List.getElem?_map, List.getElem?_range h]
  rfl
theorem Tr.up_none (xs : Tr) (dd : Int) : Tr.up xs dd 0 = xs := by
  refine Tr.ext (Tr.up_length _ _ _) fun k hk => ?_
  rw [Tr.up_length] at hk
  rw [Tr.up_l hk, Tr.up_d hk, if_neg (by omega)]
  exact ⟨rfl, rfl⟩
theorem Tr.up_set (xs : Tr) (dd : Int) (k : Nat) (h : k < xs.length) : (Tr.up xs dd k).set k (Tr.l xs k, Tr.d xs k + dd) = Tr.up xs dd (k + 1) := by
  refine List.ext_getElem (by simp [Tr.up]) fun t h1 h2 => ?_
  rw [Tr.up_length] at h2
  by_cases e : t = k
  · subst e
    simp [Tr.up]
  · rw [List.getElem_set_ne (by omega)]
    simp only [Tr.up, List.getElem_map, List.getElem_range]
    by_cases q : t < k
    · rw [if_pos q, if_pos (by omega)]
    · rw [if_neg q, if_neg (by omega)]
/-- nodes cut out and shifted -/
theorem Tr.up_cut (xs : Tr) (dd : Int) {j m : Nat} (h : j + m ≤ xs.length) : Tr.up ((xs.drop j).take m) dd m = (List.range m).map fun t => (Tr.l xs (j + t), Tr.d xs (j + t) + dd) := by
  have hl : ((xs.drop j).take m).length = m := by simp; omega
  unfold Tr.up
  rw [hl]
  refine List.map_congr_left fun t ht => ?_
  have ht := List.mem_range.1 ht
  have hg : ((xs.drop j).take m).getD t (0, 0) = xs.getD (j + t) (0, 0) := by simp [List.getD_eq_getElem?_getD, ht]
  rw [if_pos ht]
  simp only [Tr.l, Tr.d, hg]
theorem Tr.up_sub (xs : Tr) {j k : Nat} (h : k ≤ xs.length) (hjk : j ≤ k) : Tr.up ((xs.drop j).take (k - j)) (-(Tr.d xs j)) (k - j) = Tr.subTo xs j k := by
  rw [Tr.up_cut xs _ (by omega)]
  rfl

set_option maxHeartbeats 800000 in
set_option maxRecDepth 100000 in
theorem shifted_any (ad : Addr) (n c : Nat) (xs : Tr) (dd : Int) (w : World) (h : NdIn w w.heap.size (some ad) n xs) (hn : n ≤ 1048576) (hd : -4000 ≤ dd ∧ dd ≤ 4000) (hx : ∀ k, k < n → -4000 ≤ Tr.d xs k ∧ Tr.d xs k ≤ 4000) :
    Calls Try.prog 55 #[.slice (some ad) n c, .int .i64 dd] w (OwnNodes 40 (Tr.up xs dd n) w) := by
  have H := Lib.hid h
  clear h
  have HL := Lib.hid H.out.1
  have HX := Lib.hid hx
  clear hx
  go_enter Try.func55, Try.ntmps55
  go_wp2_with fail
  refine (cloneNode_any _ _ _ xs _ H.out hn).mono ?_
  rintro e w3 ⟨A3, c3, rfl, hown3, hb3⟩
  rw [HL.out] at hown3 ⊢
  have Ho3 := Lib.hid hown3
  have Hb3 := Lib.hid hb3
  have H3 := Lib.hid (H.out.to_below hb3)
  clear hown3 hb3
  go_wp2
  go_loopw [11] (fun kv wr => ∃ k : Nat, k ≤ n ∧ kv = .int .i64 k ∧ wr.ownsRow w.heap.size 40 2 (.slice A3 n c3) n (Tr.cells (Tr.up xs dd k)) ∧ Below w.heap.size w wr) (fun k _ => n - (intOf k).toNat)
  case atStart => exact ⟨0, by omega, rfl, by rw [Tr.up_none]; exact Ho3.out, Hb3.out⟩
  case round =>
    obtain ⟨k, hk, rfl, hown, hB⟩ := hrel
    have Ho := Lib.hid hown
    have HB := Lib.hid hB
    by_cases hlt : k < n
    · obtain ⟨g, rfl, hg1, hg2⟩ := own_form hown (by omega)
      have hlx : k < xs.length := by rw [HL.out]; exact hlt
      have c1 := own_odd hown (k := k) (by rw [Tr.up_length]; exact hlx)
      rw [Tr.up_d hlx, if_neg (by omega)] at c1
      have f1 := hown.frozenAt (k * 2 + 1)
      have hbk := HX.out k hlt
      have a5 : IntKind.i64.wrap (Tr.d xs k + dd) = Tr.d xs k + dd := Kit.w64 (by omega) (by omega)
      clear hown hB hbk hg2
      go_wp2
      go_roundw
      case rel =>
        refine ⟨k + 1, by omega, by go_num, ?_, HB.out.setCell (by exact hg1) _⟩
        have := (Ho.out.stored (k * 2 + 1) (.int .i64 (Tr.d xs k + dd))).1
        rw [Tr.cells_set_odd, Tr.up_l hlx, Tr.up_set _ _ _ hlx] at this
        exact this
      case measure => simp [intOf]; omega
    · obtain rfl : k = n := by omega
      clear hown hB
      go_wp2
      go_ret
      exact ⟨A3, c3, by rw [Tr.up_length, HL.out]; rfl, by rw [Tr.up_length, HL.out]; exact Ho.out, HB.out⟩

end Go.Proofs.Ytofpcedpmbecgaa

/- Contracts (BoxC). -/
namespace Go.Proofs.Ytofpcedpmbecgaa
open Go.RowKit
set_option linter.unusedVariables false

/-- a block of three cells -/
def Box3 (w : World) (g : Nat) (v0 v1 v2 : Value) : Prop := w.cell? ⟨g, 0, none⟩ = some v0 ∧ w.cell? ⟨g, 1, none⟩ = some v1 ∧ w.cell? ⟨g, 2, none⟩ = some v2
theorem Box3.drawn {w w' : World} {g : Nat} {v0 v1 v2 : Value} (h : Box3 w g v0 v1 v2) (hd : Drawn w w') : Box3 w' g v0 v1 v2 := ⟨(hd.cell _).trans h.1, (hd.cell _).trans h.2.1, (hd.cell _).trans h.2.2⟩
theorem Box3.below {w w' : World} {g B : Nat} {v0 v1 v2 : Value} (h : Box3 w g v0 v1 v2) (hb : Below B w w') (hg : g < B) : Box3 w' g v0 v1 v2 := ⟨(hb.cell (p := ⟨g, 0, none⟩) hg).trans h.1, (hb.cell (p := ⟨g, 1, none⟩) hg).trans h.2.1, (hb.cell (p := ⟨g, 2, none⟩) hg).trans h.2.2⟩
theorem Box3.free (w : World) (v0 v1 v2 : Value) (e : TypeId) (off : Nat) : (w.alloc (.cells #[v0, v1, v2] e)).frozen? ⟨w.heap.size, off, none⟩ = false := by simp
theorem Box3.alloc {w : World} {g : Nat} {v0 v1 v2 : Value} (h : Box3 w g v0 v1 v2) (hg : g < w.heap.size) (o : Obj) : Box3 (w.alloc o) g v0 v1 v2 :=
  ⟨(World.cell?_alloc_lt w o ⟨g, 0, none⟩ hg).trans h.1, (World.cell?_alloc_lt w o ⟨g, 1, none⟩ hg).trans h.2.1, (World.cell?_alloc_lt w o ⟨g, 2, none⟩ hg).trans h.2.2⟩

end Go.Proofs.Ytofpcedpmbecgaa

/- Contracts (Bxc). -/
namespace Go.Proofs.Ytofpcedpmbecgaa
open Go.RowKit
set_option linter.unusedVariables false

/-- below a world's blocks nothing has turned -/
def BelA (w wq : World) : Prop := Below w.heap.size w wq
section
variable {wa wx wy : World} {b : Nat} {v0 v1 v2 : Value}
end

end Go.Proofs.Ytofpcedpmbecgaa

/- Contracts (Cbx). -/
namespace Go.Proofs.Ytofpcedpmbecgaa
open Go.RowKit
set_option linter.unusedVariables false

section
variable {wa wx wy : World} {p0 : Addr} {v0 : Value}
theorem c1_below (h : wx.cell? p0 = some v0 ∧ BelA wa wx) : Below wa.heap.size wa wx := h.2
theorem c1_keep (h : wx.cell? p0 = some v0 ∧ BelA wa wx) (hb : Below wx.heap.size wx wy) : wy.cell? p0 = some v0 ∧ BelA wa wy := by
  have c : ∀ {p : Addr} {v : Value}, wx.cell? p = some v → wy.cell? p = some v := fun hc => (hb.cell (World.block_lt_of_cell? _ _ hc)).trans hc
  exact ⟨c h.1, h.2.trans (hb.mono h.2.size)⟩
end
section
variable {wa wx wy : World} {p0 p1 : Addr} {v0 v1 : Value}
end
section
variable {wa wx wy : World} {p0 p1 p2 : Addr} {v0 v1 v2 : Value}
end
section
variable {wa wx wy : World} {p0 p1 p2 p3 : Addr} {v0 v1 v2 v3 : Value}
end
section
variable {wa wx wy : World} {p0 p1 p2 p3 p4 : Addr} {v0 v1 v2 v3 v4 : Value}
end

end Go.Proofs.Ytofpcedpmbecgaa
