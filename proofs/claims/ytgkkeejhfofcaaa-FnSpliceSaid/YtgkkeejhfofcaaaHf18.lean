/- Texts of one claim laid into one file, in build order: ParS, KidRankS, PthS, Nat, NatS, StepI13, Rgn, Bxc, Cbx. -/
import Derived.Test.YtgkkeejhfofcaaaHf1
import Derived.Test.YtgkkeejhfofcaaaHf17
import Derived.Test.YtgkkeejhfofcaaaHf2
import Derived.Test.YtgkkeejhfofcaaaHf6
import Derived.Test.YtgkkeejhfofcaaaHf7
import Derived.Test.YtgkkeejhfofcaaaHf8
import Derived.Deep.RegionHeld3
import Derived.Maps.AppendAt
import Derived.Outline
/- Contracts (ParS). -/
namespace Go.Proofs.Ytgkkeejhfofcaaa
open Go.RowKit
set_option linter.unusedVariables false

set_option maxHeartbeats 800000 in
set_option maxRecDepth 100000 in
theorem specParentOf_any (A : Option Addr) (n c : Nat) (xs : Tr) (i : Int) (w : World) (h : NdIn w w.heap.size A n xs) (hn : n ≤ 1048576) :
    Calls Try.prog 138 #[.slice A n c, .int .i64 i] w fun e w' => e = .returned (.int .i64 (Tr.parentOf xs i)) ∧ Drawn w w' := by
  have H := Lib.hid h
  clear h
  have HL := Lib.hid H.out.1
  rcases hok : Tr.has xs i with _ | _
  · have Hf := Lib.hid (show Tr.parentOf xs i = -1 by simp [Tr.parentOf, hok])
    have Hok := Lib.hid hok
    clear hok
    go_enter Try.func138, Try.ntmps138
    go_wp2_with fail
    refine (l3At_any _ _ _ xs _ _ H.out hn).mono ?_
    rintro e w1 ⟨rfl, hd⟩
    rw [Hok.out]
    go_wp2
    go_ret
    exact ⟨Kit.ret_int Hf.out.symm, hd⟩
  · have h1 := (Tr.has_iff.1 hok).2
    rw [HL.out] at h1
    have Hf := Lib.hid (show Tr.parentOf xs i = Tr.back xs (Tr.d xs i.toNat) i.toNat by simp [Tr.parentOf, hok])
    have Hok := Lib.hid hok
    clear hok
    obtain ⟨j, rfl⟩ := Int.eq_ofNat_of_zero_le h1.1
    have hj : j < n := by omega
    clear h1
    rw [Int.toNat_natCast] at Hf
    go_enter Try.func138, Try.ntmps138
    go_wp2_with fail
    refine (l3At_any _ _ _ xs _ _ H.out hn).mono ?_
    rintro e w1 ⟨rfl, hd1⟩
    have Hd1 := Lib.hid hd1
    have H1 := Lib.hid (H.out.drawn Hd1.out)
    clear hd1
    rw [Hok.out]
    go_wp2
    go_loopw [5] (fun kv wr => ∃ z : Int, -1 ≤ z ∧ z < j ∧ kv = .int .i64 z ∧ Tr.back xs (Tr.d xs j) j = Tr.back xs (Tr.d xs j) (z + 1).toNat ∧ Drawn w1 wr) (fun k _ => (intOf k + 1).toNat)
    case atStart => exact ⟨(j : Int) - 1, by omega, by omega, by go_num, by rw [show ((j : Int) - 1 + 1).toNat = j by omega], Drawn.refl _⟩
    case round =>
      obtain ⟨z, hz, hzj, rfl, hback, hD⟩ := hrel
      have Hb := Lib.hid hback
      clear hback
      have hj0 : (0 : Int) ≤ (j : Int) := by omega
      by_cases h0 : 0 ≤ z
      · obtain ⟨k, rfl⟩ := Int.eq_ofNat_of_zero_le h0
        clear h0
        have hlt : k < n := by omega
        have hk0 : (0 : Int) ≤ (k : Int) := by omega
        obtain ⟨ad, rfl, hb, hl, hd⟩ := (H1.out.drawn hD).at_ hlt
        obtain ⟨hl', hd'⟩ := (H1.out.drawn hD).here hj
        clear hl hl'
        have Hk := Lib.hid (show Tr.back xs (Tr.d xs j) ((k : Int) + 1).toNat = if Tr.d xs k < Tr.d xs j then (k : Int) else Tr.back xs (Tr.d xs j) k by
          rw [show ((k : Int) + 1).toNat = k + 1 by omega]; rfl)
        by_cases hgt : Tr.d xs k < Tr.d xs j
        · have hg : decide (Tr.d xs j ≤ Tr.d xs k) = false := by simpa using hgt
          have Hg := Lib.hid hgt
          clear hgt
          go_wp2
          go_quiet (fail)
          go_wp2
          go_ret
          exact ⟨Kit.ret_int (by rw [Hf.out, Hb.out, Hk.out, if_pos Hg.out]), Hd1.out.trans (hD.drewN _)⟩
        · have hg : decide (Tr.d xs j ≤ Tr.d xs k) = true := by simp; omega
          have Hg := Lib.hid hgt
          clear hgt
          go_wp2
          go_quiet (fail)
          go_wp2
          go_roundw
          case rel => exact ⟨(k : Int) - 1, by omega, by omega, by go_num, by rw [Hb.out, Hk.out, if_neg (by have := Hg.out; omega), show ((k : Int) - 1 + 1).toNat = k by omega], hD.drewN _⟩
          case measure => simp [intOf] <;> omega
      · obtain rfl : z = -1 := by omega
        clear h0
        go_wp2
        go_quiet (fail)
        go_wp2
        go_ret
        exact ⟨Kit.ret_int (by rw [Hf.out, Hb.out]; rfl), Hd1.out.trans (hD.drewN _)⟩

end Go.Proofs.Ytgkkeejhfofcaaa

/- Contracts (KidRankS). -/
namespace Go.Proofs.Ytgkkeejhfofcaaa
open Go.RowKit
set_option linter.unusedVariables false

set_option maxHeartbeats 1600000 in
set_option maxRecDepth 100000 in
theorem specKidRank_any (A : Option Addr) (n c : Nat) (xs : Tr) (i : Int) (w : World) (h : NdIn w w.heap.size A n xs) (hn : n ≤ 1048576) :
    Calls Try.prog 137 #[.slice A n c, .int .i64 i] w fun e w' => e = .returned (.int .i64 (Tr.kidRank xs i)) ∧ Below w.heap.size w w' := by
  have H := Lib.hid h
  clear h
  obtain ⟨p, hp⟩ : ∃ p, p = Tr.parentOf xs i := ⟨_, rfl⟩
  have HP := Lib.hid hp
  by_cases h0 : p < 0
  · have Hf := Lib.hid (show Tr.kidRank xs i = -1 by unfold Tr.kidRank; rw [if_pos (by rw [← hp]; exact h0)])
    have e0 : decide (p < 0) = true := by simpa using h0
    clear hp
    go_enter Try.func137, Try.ntmps137
    go_wp2_with fail
    refine (specParentOf_any _ _ _ xs _ _ H.out hn).mono ?_
    rintro e w1 ⟨rfl, hd⟩
    have HB := Lib.hid (hd.toBelow (B := w.heap.size))
    clear hd
    rw [← HP.out]
    go_wp2
    go_ret
    exact ⟨by rw [Hf.out]; rfl, HB.out⟩
  · have Hf := Lib.hid (show Tr.kidRank xs i = Zs.find (Tr.kidsI xs p) i 0 by unfold Tr.kidRank; rw [if_neg (by rw [← hp]; exact h0), ← hp]; rfl)
    have e0 : decide (p < 0) = false := by simpa using h0
    have hlen := Tr.kidsI_len xs p
    rw [H.out.1] at hlen
    obtain ⟨Z, hZ⟩ : ∃ Z, Z = Tr.kidsI xs p := ⟨_, rfl⟩
    have HZ := Lib.hid hZ
    rw [← hZ] at Hf hlen
    have HFS := Lib.hid (fun k => Zs.find_step Z i k)
    clear hp hZ
    go_enter Try.func137, Try.ntmps137
    go_wp2_with fail
    refine (specParentOf_any _ _ _ xs _ _ H.out hn).mono ?_
    rintro e w1 ⟨rfl, hd⟩
    have HB := Lib.hid (hd.toBelow (B := w.heap.size))
    have H1 := Lib.hid (H.out.to_drawn hd)
    clear hd
    rw [← HP.out]
    go_wp2_with fail
    refine (specKidsOf_any _ _ _ xs _ _ H1.out hn).mono ?_
    rintro e w2 ⟨A2, c2, rfl, ho, hb⟩
    have hsx := HB.out.size
    have HB := Lib.hid (HB.out.trans (hb.mono hsx))
    have I2 := Lib.hid (IntIn.of_own ho)
    clear ho hsx
    clear hb
    rw [← HZ.out] at I2 ⊢
    go_wp2
    go_loop [7] (fun kv => ∃ k : Nat, k ≤ Z.length ∧ kv = .int .i64 k ∧ Zs.find Z i 0 = Zs.find (Z.drop k) i k) (fun k => Z.length - (intOf k).toNat)
    case atStart => exact ⟨0, Nat.zero_le _, rfl, rfl⟩
    case round =>
      obtain ⟨k, hk, rfl, hfi⟩ := hrel
      have HI := Lib.hid hfi
      clear hfi
      by_cases hlt : k < Z.length
      · have hfs := HFS.out k hlt
        obtain ⟨ad, rfl, _, c1⟩ := I2.out.at_ hlt
        have hz : Zs.at Z k = Z.getD k 0 := rfl
        rw [hz] at c1
        obtain ⟨x, hx⟩ : ∃ x, x = Z.getD k 0 := ⟨_, rfl⟩
        rw [← hx] at c1 hfs
        clear hx hz
        have k0 : (0 : Int) ≤ (k : Int) := by omega
        have k1 : (k : Int) < (Z.length : Int) := by omega
        by_cases hq : x = i
        · have q : (x == i) = true := by simpa using hq
          rw [if_pos hq] at hfs
          have Hs := Lib.hid (HI.out.trans hfs)
          clear hq hfs
          go_wp2
          go_ret
          exact ⟨by rw [Hf.out, Hs.out]; rfl, HB.out⟩
        · have q : (x == i) = false := by simpa using hq
          rw [if_neg hq] at hfs
          have Hs := Lib.hid (HI.out.trans hfs)
          clear hq hfs
          go_wp2
          go_round
          case rel => exact ⟨k + 1, by omega, by go_num, Hs.out⟩
          case measure => simp [intOf]; omega
      · obtain rfl : k = Z.length := by omega
        have Hs := Lib.hid (show Zs.find Z i 0 = -1 by rw [HI.out, List.drop_length]; rfl)
        go_wp2
        go_ret
        exact ⟨by rw [Hf.out, Hs.out]; rfl, HB.out⟩

end Go.Proofs.Ytgkkeejhfofcaaa

/- Contracts (PthS). -/
namespace Go.Proofs.Ytgkkeejhfofcaaa
open Go.RowKit
set_option linter.unusedVariables false

set_option maxHeartbeats 800000 in
set_option maxRecDepth 100000 in
theorem specPathOf_any (A : Option Addr) (n c : Nat) (xs : Tr) (i : Int) (w : World) (h : NdIn w w.heap.size A n xs) (hn : n ≤ 1048576) :
    Calls Try.prog 87 #[.slice A n c, .int .i64 i] w (OwnInts 3 (Tr.path xs i) w) := by
  have H := Lib.hid h
  clear h
  have HL := Lib.hid H.out.1
  have HP := Lib.hid (fun z => Tr.path_step xs z)
  have HPL := Lib.hid (Tr.path_len xs i)
  have HI := Lib.hid info_intP
  obtain ⟨i0, hi, hz0, hz1, hz2⟩ := info_parts HI.out
  go_enter Try.func87, Try.ntmps87
  go_wp2
  go_loopw [6, 5] (fun kv ov wr => ∃ (z : Int) (q : List Int), kv = .int .i64 z ∧ wr.ownsRow w.heap.size 3 1 ov q.length (ints q) ∧ Tr.path xs i = Tr.path xs z ++ q ∧ Below w.heap.size w wr) (fun k _ _ => (intOf k + 1).toNat)
  case atStart => exact ⟨i, [], rfl, World.ownsRow_lit w #[] 0 (Nat.le_refl _) (Nat.zero_le _) rfl, by simp, (Below.refl _ _).alloc (Nat.le_refl _) _⟩
  case round =>
    obtain ⟨z, q, rfl, hown, hpath, hB⟩ := hrel
    have Ho := Lib.hid hown
    have HB := Lib.hid hB
    have Hz := Lib.hid (H.out.to_below hB)
    have hp := HP.out z
    have hql : q.length ≤ n := by
      have := HPL.out
      rw [hpath, HL.out] at this
      simp at this; omega
    have Hp := Lib.hid hpath
    clear hown hB hpath
    go_wp2_with fail
    refine (specKidRank_any _ _ _ xs z _ Hz.out hn).mono ?_
    rintro e w1 ⟨rfl, hb1⟩
    have Hb1 := Lib.hid (show Below wr.heap.size wr w1 from hb1)
    have Ho := Lib.hid (own_below Ho.out Hb1.out)
    have HB := Lib.hid (HB.out.trans (Hb1.out.mono HB.out.size))
    have Hz := Lib.hid (Hz.out.to_below Hb1.out)
    clear hb1
    obtain ⟨r, hr⟩ : ∃ r, r = Tr.kidRank xs z := ⟨_, rfl⟩
    rw [← hr] at hp ⊢
    by_cases hc : 0 ≤ r
    · rw [if_pos hc] at hp
      obtain ⟨p, hz0', hpar, hlt, hup⟩ := hp
      have Hup := Lib.hid hup
      have Hpar := Lib.hid hpar
      have Hr := Lib.hid hr
      have q1 : decide (0 ≤ r) = true := decide_eq_true hc
      clear hup hpar hr
      go_wp2_with fail
      refine (specKidRank_any _ _ _ xs z _ Hz.out hn).mono ?_
      rintro e w2 ⟨rfl, hb2⟩
      have Hb2 := Lib.hid (show Below w1.heap.size w1 w2 from hb2)
      have Ho := Lib.hid (own_below Ho.out Hb2.out)
      have HB := Lib.hid (HB.out.trans (Hb2.out.mono HB.out.size))
      have Hz := Lib.hid (Hz.out.to_below Hb2.out)
      have hs2 := HB.out.size
      rw [← Hr.out]
      clear hb2
      go_wp2_with (at_builtin; go_loud (refine append_own_own (w2.alloc (.cells #[.int .i64 r] 3)) rfl _ _ 29 rfl w.heap.size 3 i0 (.int .i64 0) 1 8 Try.underlying29 hi hz0 hz1 hz2 rfl (by decide) (.slice (some ⟨w2.heap.size, 0, none⟩) 1 1) 1 (ints [r]) rfl (World.ownsRow_lit w2 #[.int .i64 r] 1 hs2 (by decide) rfl) w.heap.size 3 u5 q.length (ints q) rfl (Ho.out.alloc _) (ints_one _) (by unfold maxLen; omega) (by omega) (by simp; omega) ?_; intro v3 w3 hown3 hgr3))
      have Hb3 := Lib.hid (show Below w.heap.size w w3 from (HB.out.alloc hs2 _).grown hgr3 (by simp; omega) (fun k hk => by simp [Value.ownBlock] at hk; omega))
      have Ho3 := Lib.hid (show w3.ownsRow w.heap.size 3 1 v3 (r :: q).length (ints (r :: q)) by rw [show (r :: q).length = 1 + q.length by simp; omega]; exact hown3)
      have Hz := Lib.hid (H.out.to_below Hb3.out)
      clear hown3 hgr3
      go_wp2_with fail
      refine (specParentOf_any _ _ _ xs z _ Hz.out hn).mono ?_
      rintro e w4 ⟨rfl, hd4⟩
      rw [Hpar.out]
      have Ho3 := Lib.hid (own_below Ho3.out hd4.toBelow)
      have Hb3 := Lib.hid (Drawn.below Hb3.out hd4)
      clear hd4
      go_wp2
      go_roundw
      case rel => exact ⟨p, r :: q, by go_num, Ho3.out, by rw [Hp.out, Hup.out]; simp, Hb3.out⟩
      case measure => simp [intOf]; omega
    · rw [if_neg hc] at hp
      have Hp2 := Lib.hid (show Tr.path xs i = q by rw [Hp.out, hp]; rfl)
      have q1 : decide (0 ≤ r) = false := decide_eq_false hc
      obtain ⟨A', c', rfl⟩ := own_slice Ho.out
      clear hp hr
      go_wp2
      go_ret
      exact ⟨A', c', by rw [Hp2.out]; rfl, by rw [Hp2.out]; exact Ho.out, HB.out⟩

end Go.Proofs.Ytgkkeejhfofcaaa

/- Contracts (Nat). -/
namespace Go.Proofs.Ytgkkeejhfofcaaa
open Go.RowKit
set_option linter.unusedVariables false

theorem Tr.kids_at {xs : Tr} {i m : Nat} (hh : Tr.has xs i = true) (hm : m < (Tr.kidsI xs i).length) : Zs.at (Tr.kidsI xs i) m = (((Tr.kidsTo xs i (Tr.endN xs i)).getD m 0 : Nat) : Int) := by
  rw [Tr.kidsI_yes hh] at hm ⊢
  unfold Tr.kidsZ at hm ⊢
  rw [List.length_map] at hm
  simp [Zs.at, List.getD_eq_getElem?_getD, hm]
theorem Tr.kidsI_length {xs : Tr} {i : Nat} (hh : Tr.has xs i = true) : (Tr.kidsI xs i).length = (Tr.kidsTo xs i (Tr.endN xs i)).length := by rw [Tr.kidsI_yes hh]; simp [Tr.kidsZ]
/-- one step of a path -/
theorem Tr.walk_step {xs : Tr} {p : List Int} {i k : Nat} (hok : Tr.ok xs = true) (hi : i < xs.length) (hk : k < p.length) :
    if 0 ≤ Zs.at p k ∧ Zs.at p k < (Tr.kidsI xs i).length then ∃ j : Nat, j < xs.length ∧ Zs.at (Tr.kidsI xs i) (Zs.at p k).toNat = j ∧ Tr.walk xs i (p.drop k) = Tr.walk xs j (p.drop (k + 1)) else Tr.walk xs i (p.drop k) = -1 := by
  have hh : Tr.has xs i = true := Tr.has_iff.2 ⟨hok, by omega, by omega⟩
  have hl := Tr.kidsI_length hh
  have e : p.drop k = Zs.at p k :: p.drop (k + 1) := by
    rw [List.drop_eq_getElem_cons hk]
    simp [Zs.at, List.getD_eq_getElem?_getD, hk]
  rw [e, Tr.walk]
  by_cases c : 0 ≤ Zs.at p k ∧ Zs.at p k < (Tr.kidsI xs i).length
  · rw [if_pos c, if_pos (by omega)]
    obtain ⟨h1, h2, h3⟩ := Tr.cut_bound hok hi (Zs.at p k).toNat (by omega)
    obtain ⟨h4, h5⟩ := h3 (by omega)
    have e2 := (Tr.endN_spec xs i hi).2.1
    exact ⟨_, by rw [h5]; omega, Tr.kids_at hh (by omega), rfl⟩
  · rw [if_neg c, if_neg (by omega)]

end Go.Proofs.Ytgkkeejhfofcaaa

/- Contracts (NatS). -/
namespace Go.Proofs.Ytgkkeejhfofcaaa
open Go.RowKit
set_option linter.unusedVariables false

set_option maxHeartbeats 800000 in
set_option maxRecDepth 100000 in
theorem specNodeAt_any (A A' : Option Addr) (n c n' c' : Nat) (xs : Tr) (p : List Int) (w : World) (h : NdIn w w.heap.size A n xs) (h' : IntIn w w.heap.size A' n' p) (hn : n ≤ 1048576) (hn' : n' ≤ 1048576) :
    Calls Try.prog 23 #[.slice A n c, .slice A' n' c'] w fun e w' => e = .returned (.int .i64 (Tr.nodeAt xs p)) ∧ Below w.heap.size w w' := by
  have H := Lib.hid h
  have I := Lib.hid h'
  clear h h'
  have HL := Lib.hid H.out.1
  have IL := Lib.hid I.out.1
  rcases hok : Tr.ok xs with _ | _
  · have Hf := Lib.hid (show Tr.nodeAt xs p = -1 by unfold Tr.nodeAt; rw [hok]; rfl)
    have Hok := Lib.hid hok
    clear hok
    go_enter Try.func23, Try.ntmps23
    go_wp2_with fail
    refine (specTreeOk_any _ _ _ xs _ H.out hn).mono ?_
    rintro e w1 ⟨rfl, hd1⟩
    have HB := Lib.hid (show Below w.heap.size w w1 from hd1.toBelow)
    clear hd1
    rw [Hok.out]
    go_wp2
    go_ret
    exact ⟨Kit.ret_int Hf.out.symm, HB.out⟩
  · have Hf := Lib.hid (show Tr.nodeAt xs p = Tr.walk xs 0 p by unfold Tr.nodeAt; rw [if_pos hok])
    have HS := Lib.hid (fun (i k : Nat) (hi : i < xs.length) (hk : k < p.length) => Tr.walk_step (p := p) hok hi hk)
    have n1 := Tr.len24 hok
    have HK := Lib.hid (fun i : Int => Tr.kidsI_len xs i)
    have Hok := Lib.hid hok
    clear hok
    go_enter Try.func23, Try.ntmps23
    go_wp2_with fail
    refine (specTreeOk_any _ _ _ xs _ H.out hn).mono ?_
    rintro e w1 ⟨rfl, hd1⟩
    have HB := Lib.hid (show Below w.heap.size w w1 from hd1.toBelow)
    clear hd1
    rw [Hok.out]
    go_wp2
    go_loopw [5, 6] (fun iv kv wr => ∃ i k : Nat, i < xs.length ∧ k ≤ n' ∧ iv = .int .i64 i ∧ kv = .int .i64 k ∧ Tr.walk xs 0 p = Tr.walk xs i (p.drop k) ∧ Below w.heap.size w wr) (fun _ k _ => n' - (intOf k).toNat)
    case atStart => exact ⟨0, 0, by omega, by omega, by go_num, by go_num, rfl, HB.out⟩
    case round =>
      obtain ⟨i, k, hi, hk, rfl, rfl, hwalk, hB⟩ := hrel
      have HW := Lib.hid hwalk
      have HB := Lib.hid hB
      have Hz := Lib.hid (H.out.to_below hB)
      have Iz := Lib.hid (I.out.to_below hB)
      clear hwalk hB
      by_cases hlt : k < n'
      · have hs := HS.out i k hi (by rw [IL.out]; exact hlt)
        obtain ⟨ad, rfl, _, c1⟩ := Iz.out.at_ hlt
        have k0 : (0 : Int) ≤ (k : Int) := by omega
        have k1 : (k : Int) < (n' : Int) := by omega
        have hkl := HK.out (i : Int)
        obtain ⟨x, hx⟩ : ∃ x, x = Zs.at p k := ⟨_, rfl⟩
        rw [← hx] at c1 hs
        have Hs := Lib.hid hs
        clear hs hx
        go_wp2_with fail
        refine (specKidsOf_any _ _ _ xs _ _ Hz.out hn).mono ?_
        rintro e w2 ⟨A2, c2, rfl, ho2, hb2⟩
        have HB2 := Lib.hid (HB.out.trans (hb2.mono HB.out.size))
        have c1 := (hb2.cell (World.block_lt_of_cell? _ _ c1)).trans c1
        obtain ⟨m, hm⟩ : ∃ m, m = (Tr.kidsI xs (i : Int)).length := ⟨_, rfl⟩
        rw [← hm] at ho2 hkl ⊢
        have I2 := Lib.hid (IntIn.of_own ho2)
        have Hm := Lib.hid hm
        clear ho2 hb2 hm
        have a5 : IntKind.i64.wrap ((m : Int) - 1) = (m : Int) - 1 := Kit.w64 (by omega) (by omega)
        by_cases hc : 0 ≤ x ∧ x < m
        · have hs := Hs.out
          rw [← Hm.out, if_pos hc] at hs
          obtain ⟨j, hj, hat, hw2⟩ := hs
          have q : decide (0 ≤ x ∧ x ≤ (m : Int) - 1) = true := decide_eq_true (by omega)
          obtain ⟨y, rfl⟩ := Int.eq_ofNat_of_zero_le hc.1
          have hy : y < m := by omega
          obtain ⟨ad2, rfl, _, c2⟩ := I2.out.at_ hy
          rw [show ((y : Int)).toNat = y by omega] at hat
          rw [hat] at c2
          have y0 : (0 : Int) ≤ (y : Int) := by omega
          have y1 : (y : Int) < (m : Int) := by omega
          have HW2 := Lib.hid (HW.out.trans hw2)
          clear hat hw2 hc
          go_wp2_with (go_at_call 56; refine (l1In_any _ _ _ _).mono ?_; rintro e w' ⟨rfl, rfl⟩; rw [q])
          go_roundw
          case rel => exact ⟨j, k + 1, hj, by omega, by go_num, by go_num, HW2.out, HB2.out⟩
          case measure => simp [intOf]; omega
        · have hs := Hs.out
          rw [← Hm.out, if_neg hc] at hs
          have q : decide (0 ≤ x ∧ x ≤ (m : Int) - 1) = false := decide_eq_false (by omega)
          have HW2 := Lib.hid (HW.out.trans hs)
          clear hs hc
          go_wp2_with (go_at_call 56; refine (l1In_any _ _ _ _).mono ?_; rintro e w' ⟨rfl, rfl⟩; rw [q])
          go_ret
          exact ⟨Kit.ret_int (by rw [Hf.out, HW2.out]), HB2.out⟩
      · obtain rfl : k = n' := by omega
        have HW2 := Lib.hid (show Tr.walk xs 0 p = (i : Int) by rw [HW.out, List.drop_eq_nil_of_le (by rw [IL.out]; exact Nat.le_refl _)]; rfl)
        go_wp2
        go_ret
        exact ⟨Kit.ret_int (by rw [Hf.out, HW2.out]), HB.out⟩

end Go.Proofs.Ytgkkeejhfofcaaa

/- Contracts (StepI13). -/
namespace Go.Proofs.Ytgkkeejhfofcaaa
open Go.RowKit
set_option linter.unusedVariables false

/-- out = append(out, b) in a region that draws its order; where the new row lies -/
theorem step_append_int_at {P : Program} {ops : Array Oper} {o : Oper} {a : Act} (w : World) {K : Act → World → Prop} {Q : Exit → Act → World → Prop} {E : Prop} (hgd : o.guard = none) (s x : Operand) (t : TypeId)
    (ho : o.op = .call { callee := .builtin .append, args := #[s, x], argTypes := #[t, t] })
    (base : Nat) (e : TypeId) (i : TypeInfo) (ht : P.underlying t = some (.slice e)) (hi : P.info? e = some i) (hz : i.zero = some (.int .i64 0))
    (hsize : i.size = 1) (hby : i.bytes = 8) (v : Value) (n : Nat) (l : List Int) (hs : a.eval s = v) (hown : w.ownsRow base e 1 v n (ints l))
    (b : Int) (hx : a.eval x = .slice (some ⟨w.heap.size, 0, none⟩) 1 1) (h63 : n + 1 ≤ 1073741824) (hbase : base ≤ w.heap.size)
    (h : ∀ v' w', w'.ownsRow base e 1 v' (n + 1) (ints (l ++ [b])) → (w.alloc (.cells #[.int .i64 b] e)).grownBy w' v.ownBlock → (v'.ownBlock = v.ownBlock ∨ v'.ownBlock = some (w.heap.size + 1)) → K (a.put o.dst v') w') :
    if Region.wanted o (yielded ops a.tmps) = true then Oper.wp P o a (w.alloc (.cells #[.int .i64 b] e)) K Q else E := by
  have hw : Region.wanted o (yielded ops a.tmps) = true := by simp [Region.wanted, hgd]
  rw [if_pos hw]
  obtain ⟨v', w', hr, h2, h3, h4, h5⟩ := run_append_own_at (P := P) (w := w.alloc (.cells #[.int .i64 b] e)) base t o.type e i (.int .i64 0) 1 8 ht hi hz hsize hby rfl (by decide) v n (ints l) (hown.alloc _) ⟨w.heap.size, 0, none⟩ 1 1 [.int .i64 b] rfl
    (cell_one_new w _ _) (fun u hu => by simp at hu; subst hu; rfl) (by unfold maxLen; omega) (by omega) (by simp; omega)
  have e1 : (w.alloc (.cells #[.int .i64 b] e)).heap.size = w.heap.size + 1 := by simp
  rw [e1] at h5
  unfold Oper.wp
  simp [execOp, ho, resolve, invoke, builtin, hs, hx, hr, Result.andThen]
  exact h _ _ (by rw [ints_append]; exact h2) h3 h5

end Go.Proofs.Ytgkkeejhfofcaaa

/- Contracts (Rgn). -/
namespace Go.Proofs.Ytgkkeejhfofcaaa
open Go.RowKit
set_option linter.unusedVariables false

section
variable {P : Program} {md : Region.Mode} {ops : Array Oper} {Q : Exit → Act → World → Prop} {S : World → Prop} {i fuel : Nat} {oi : Oper} {rest : List Oper} {listed : Array Bool} {a : Act} {w : World}
theorem rg_at (hd : ops.toList.drop i = oi :: rest) : ops[i]? = some oi := by
  have h : (ops.toList.drop i)[0]? = some oi := by rw [hd]; rfl
  rw [List.getElem?_drop] at h
  simpa using h
/-- .. wanted: taken first -/
theorem rg_take {v : Value} (hd : ops.toList.drop i = oi :: rest) (hs : Region.noSelect ops = true) (hf : Region.free md ops listed i = true) (hr : (Region.ready md ops listed).contains i = true)
    (hQ : ∀ c a w, Q (.panic c) (a.put oi.dst v) w → Q (.panic c) a w) (hw : Region.wanted oi (yielded ops a.tmps) = true) (hy : ∀ w, S w → (execOp a.eval oi).run P w = .ok (.value v) w) (hS : S w)
    (h : wpAnyH P md ops Q S fuel (listed.setIfInBounds i true) (a.put oi.dst v) w) : wpAnyH P md ops Q S (fuel + 1) listed a w :=
  wpAnyH_take (rg_at hd) hs hf hr hQ (.inl ⟨hw, hy⟩) hS h
end

end Go.Proofs.Ytgkkeejhfofcaaa

/- Contracts (Bxc). -/
namespace Go.Proofs.Ytgkkeejhfofcaaa
open Go.RowKit
set_option linter.unusedVariables false

/-- below a world's blocks nothing has turned -/
def BelA (w wq : World) : Prop := Below w.heap.size w wq
section
variable {wa wx wy : World} {b : Nat} {v0 v1 v2 : Value}
end

end Go.Proofs.Ytgkkeejhfofcaaa

/- Contracts (Cbx). -/
namespace Go.Proofs.Ytgkkeejhfofcaaa
open Go.RowKit
set_option linter.unusedVariables false

section
variable {wa wx wy : World} {p0 : Addr} {v0 : Value}
end
section
variable {wa wx wy : World} {p0 p1 : Addr} {v0 v1 : Value}
theorem c2_below (h : wx.cell? p0 = some v0 ∧ wx.cell? p1 = some v1 ∧ BelA wa wx) : Below wa.heap.size wa wx := h.2.2
theorem c2_keep (h : wx.cell? p0 = some v0 ∧ wx.cell? p1 = some v1 ∧ BelA wa wx) (hb : Below wx.heap.size wx wy) : wy.cell? p0 = some v0 ∧ wy.cell? p1 = some v1 ∧ BelA wa wy := by
  have c : ∀ {p : Addr} {v : Value}, wx.cell? p = some v → wy.cell? p = some v := fun hc => (hb.cell (World.block_lt_of_cell? _ _ hc)).trans hc
  exact ⟨c h.1, c h.2.1, h.2.2.trans (hb.mono h.2.2.size)⟩
end
section
variable {wa wx wy : World} {p0 p1 p2 : Addr} {v0 v1 v2 : Value}
theorem c3_keep (h : wx.cell? p0 = some v0 ∧ wx.cell? p1 = some v1 ∧ wx.cell? p2 = some v2 ∧ BelA wa wx) (hb : Below wx.heap.size wx wy) : wy.cell? p0 = some v0 ∧ wy.cell? p1 = some v1 ∧ wy.cell? p2 = some v2 ∧ BelA wa wy := by
  have c : ∀ {p : Addr} {v : Value}, wx.cell? p = some v → wy.cell? p = some v := fun hc => (hb.cell (World.block_lt_of_cell? _ _ hc)).trans hc
  exact ⟨c h.1, c h.2.1, c h.2.2.1, h.2.2.2.trans (hb.mono h.2.2.2.size)⟩
end
section
variable {wa wx wy : World} {p0 p1 p2 p3 : Addr} {v0 v1 v2 v3 : Value}
end
section
variable {wa wx wy : World} {p0 p1 p2 p3 p4 : Addr} {v0 v1 v2 v3 v4 : Value}
theorem c5_keep (h : wx.cell? p0 = some v0 ∧ wx.cell? p1 = some v1 ∧ wx.cell? p2 = some v2 ∧ wx.cell? p3 = some v3 ∧ wx.cell? p4 = some v4 ∧ BelA wa wx) (hb : Below wx.heap.size wx wy) : wy.cell? p0 = some v0 ∧ wy.cell? p1 = some v1 ∧ wy.cell? p2 = some v2 ∧ wy.cell? p3 = some v3 ∧ wy.cell? p4 = some v4 ∧ BelA wa wy := by
  have c : ∀ {p : Addr} {v : Value}, wx.cell? p = some v → wy.cell? p = some v := fun hc => (hb.cell (World.block_lt_of_cell? _ _ hc)).trans hc
  exact ⟨c h.1, c h.2.1, c h.2.2.1, c h.2.2.2.1, c h.2.2.2.2.1, h.2.2.2.2.2.trans (hb.mono h.2.2.2.2.2.size)⟩
end

end Go.Proofs.Ytgkkeejhfofcaaa
