/- Texts of one claim laid into one file, in build order: ParS, KidRankS, PthS, RevI, ParI. -/
import Derived.Test.YtofpcedpmbecgaaHc10
import Derived.Test.YtofpcedpmbecgaaHc2
import Derived.Test.YtofpcedpmbecgaaHc3
import Derived.Test.YtofpcedpmbecgaaHc4
import Derived.Test.YtofpcedpmbecgaaHc5
import Derived.Test.YtofpcedpmbecgaaHc6
import Derived.Outline
import Derived.Test.YtofpcedpmbecgaaRows
/- Contracts (ParS). -/
namespace Go.Proofs.Ytofpcedpmbecgaa
open Go.RowKit
set_option linter.unusedVariables false

set_option maxHeartbeats 800000 in
set_option maxRecDepth 100000 in
theorem specParentOf_any (A : Option Addr) (n c : Nat) (xs : Tr) (i : Int) (w : World) (h : NdIn w w.heap.size A n xs) (hn : n ≤ 1048576) :
    Calls Try.prog 77 #[.slice A n c, .int .i64 i] w fun e w' => e = .returned (.int .i64 (Tr.parentOf xs i)) ∧ Drawn w w' := by
  have H := Lib.hid h
  clear h
  have HL := Lib.hid H.out.1
  rcases hok : Tr.has xs i with _ | _
  · have Hf := Lib.hid (show Tr.parentOf xs i = -1 by simp [Tr.parentOf, hok])
    have Hok := Lib.hid hok
    clear hok
    go_enter Try.func77, Try.ntmps77
    go_wp2_with fail
    refine (l3At_any _ _ _ xs _ _ H.out hn).mono ?_
    rintro e w1 ⟨rfl, hd⟩
    rw [Hok.out]
    go_wp2
    go_ret
    exact ⟨Kit.ret_int Hf.out.symm, hd⟩
  · have h1 := (Tr.has_iff.1 hok).2
    rw [HL.out] at h1
    have Hf := Lib.hid (show Tr.parentOf xs i = Tr.back xs (Tr.d xs i.toNat) i.toNat by simp [Tr.parentOf, hok])
    have Hok := Lib.hid hok
    clear hok
    obtain ⟨j, rfl⟩ := Int.eq_ofNat_of_zero_le h1.1
    have hj : j < n := by omega
    clear h1
    rw [Int.toNat_natCast] at Hf
    go_enter Try.func77, Try.ntmps77
    go_wp2_with fail
    refine (l3At_any _ _ _ xs _ _ H.out hn).mono ?_
    rintro e w1 ⟨rfl, hd1⟩
    have Hd1 := Lib.hid hd1
    have H1 := Lib.hid (H.out.drawn Hd1.out)
    clear hd1
    rw [Hok.out]
    go_wp2
    go_loopw [5] (fun kv wr => ∃ z : Int, -1 ≤ z ∧ z < j ∧ kv = .int .i64 z ∧ Tr.back xs (Tr.d xs j) j = Tr.back xs (Tr.d xs j) (z + 1).toNat ∧ Drawn w1 wr) (fun k _ => (intOf k + 1).toNat)
    case atStart => exact ⟨(j : Int) - 1, by omega, by omega, by go_num, by rw [show ((j : Int) - 1 + 1).toNat = j by omega], Drawn.refl _⟩
    case round =>
      obtain ⟨z, hz, hzj, rfl, hback, hD⟩ := hrel
      have Hb := Lib.hid hback
      clear hback
      have hj0 : (0 : Int) ≤ (j : Int) := by omega
      by_cases h0 : 0 ≤ z
      · obtain ⟨k, rfl⟩ := Int.eq_ofNat_of_zero_le h0
        clear h0
        have hlt : k < n := by omega
        have hk0 : (0 : Int) ≤ (k : Int) := by omega
        obtain ⟨ad, rfl, hb, hl, hd⟩ := (H1.out.drawn hD).at_ hlt
        obtain ⟨hl', hd'⟩ := (H1.out.drawn hD).here hj
        clear hl hl'
        have Hk := Lib.hid (show Tr.back xs (Tr.d xs j) ((k : Int) + 1).toNat = if Tr.d xs k < Tr.d xs j then (k : Int) else Tr.back xs (Tr.d xs j) k by
          rw [show ((k : Int) + 1).toNat = k + 1 by omega]; rfl)
        by_cases hgt : Tr.d xs k < Tr.d xs j
        · have hg : decide (Tr.d xs j ≤ Tr.d xs k) = false := by simpa using hgt
          have Hg := Lib.hid hgt
          clear hgt
          go_wp2
          go_quiet (fail)
          go_wp2
          go_ret
          exact ⟨Kit.ret_int (by rw [Hf.out, Hb.out, Hk.out, if_pos Hg.out]), Hd1.out.trans (hD.drewN _)⟩
        · have hg : decide (Tr.d xs j ≤ Tr.d xs k) = true := by simp; omega
          have Hg := Lib.hid hgt
          clear hgt
          go_wp2
          go_quiet (fail)
          go_wp2
          go_roundw
          case rel => exact ⟨(k : Int) - 1, by omega, by omega, by go_num, by rw [Hb.out, Hk.out, if_neg (by have := Hg.out; omega), show ((k : Int) - 1 + 1).toNat = k by omega], hD.drewN _⟩
          case measure => simp [intOf] <;> omega
      · obtain rfl : z = -1 := by omega
        clear h0
        go_wp2
        go_quiet (fail)
        go_wp2
        go_ret
        exact ⟨Kit.ret_int (by rw [Hf.out, Hb.out]; rfl), Hd1.out.trans (hD.drewN _)⟩

end Go.Proofs.Ytofpcedpmbecgaa

/- Contracts (KidRankS). -/
namespace Go.Proofs.Ytofpcedpmbecgaa
open Go.RowKit
set_option linter.unusedVariables false

set_option maxHeartbeats 1600000 in
set_option maxRecDepth 100000 in
theorem specKidRank_any (A : Option Addr) (n c : Nat) (xs : Tr) (i : Int) (w : World) (h : NdIn w w.heap.size A n xs) (hn : n ≤ 1048576) :
    Calls Try.prog 76 #[.slice A n c, .int .i64 i] w fun e w' => e = .returned (.int .i64 (Tr.kidRank xs i)) ∧ Below w.heap.size w w' := by
  have H := Lib.hid h
  clear h
  obtain ⟨p, hp⟩ : ∃ p, p = Tr.parentOf xs i := ⟨_, rfl⟩
  have HP := Lib.hid hp
  by_cases h0 : p < 0
  · have Hf := Lib.hid (show Tr.kidRank xs i = -1 by unfold Tr.kidRank; rw [if_pos (by rw [← hp]; exact h0)])
    have e0 : decide (p < 0) = true := by simpa using h0
    clear hp
    go_enter Try.func76, Try.ntmps76
    go_wp2_with fail
    refine (specParentOf_any _ _ _ xs _ _ H.out hn).mono ?_
    rintro e w1 ⟨rfl, hd⟩
    have HB := Lib.hid (hd.toBelow (B := w.heap.size))
    clear hd
    rw [← HP.out]
    go_wp2
    go_ret
    exact ⟨by rw [Hf.out]; rfl, HB.out⟩
  · have Hf := Lib.hid (show Tr.kidRank xs i = Zs.find (Tr.kidsI xs p) i 0 by unfold Tr.kidRank; rw [if_neg (by rw [← hp]; exact h0), ← hp]; rfl)
    have e0 : decide (p < 0) = false := by simpa using h0
    have hlen := Tr.kidsI_len xs p
    rw [H.out.1] at hlen
    obtain ⟨Z, hZ⟩ : ∃ Z, Z = Tr.kidsI xs p := ⟨_, rfl⟩
    have HZ := Lib.hid hZ
    rw [← hZ] at Hf hlen
    have HFS := Lib.hid (fun k => Zs.find_step Z i k)
    clear hp hZ
    go_enter Try.func76, Try.ntmps76
    go_wp2_with fail
    refine (specParentOf_any _ _ _ xs _ _ H.out hn).mono ?_
    rintro e w1 ⟨rfl, hd⟩
    have HB := Lib.hid (hd.toBelow (B := w.heap.size))
    have H1 := Lib.hid (H.out.to_drawn hd)
    clear hd
    rw [← HP.out]
    go_wp2_with fail
    refine (specKidsOf_any _ _ _ xs _ _ H1.out hn).mono ?_
    rintro e w2 ⟨A2, c2, rfl, ho, hb⟩
    have hsx := HB.out.size
    have HB := Lib.hid (HB.out.trans (hb.mono hsx))
    have I2 := Lib.hid (IntIn.of_own ho)
    clear ho hsx
    clear hb
    rw [← HZ.out] at I2 ⊢
    go_wp2
    go_loop [7] (fun kv => ∃ k : Nat, k ≤ Z.length ∧ kv = .int .i64 k ∧ Zs.find Z i 0 = Zs.find (Z.drop k) i k) (fun k => Z.length - (intOf k).toNat)
    case atStart => exact ⟨0, Nat.zero_le _, rfl, rfl⟩
    case round =>
      obtain ⟨k, hk, rfl, hfi⟩ := hrel
      have HI := Lib.hid hfi
      clear hfi
      by_cases hlt : k < Z.length
      · have hfs := HFS.out k hlt
        obtain ⟨ad, rfl, _, c1⟩ := I2.out.at_ hlt
        have hz : Zs.at Z k = Z.getD k 0 := rfl
        rw [hz] at c1
        obtain ⟨x, hx⟩ : ∃ x, x = Z.getD k 0 := ⟨_, rfl⟩
        rw [← hx] at c1 hfs
        clear hx hz
        have k0 : (0 : Int) ≤ (k : Int) := by omega
        have k1 : (k : Int) < (Z.length : Int) := by omega
        by_cases hq : x = i
        · have q : (x == i) = true := by simpa using hq
          rw [if_pos hq] at hfs
          have Hs := Lib.hid (HI.out.trans hfs)
          clear hq hfs
          go_wp2
          go_ret
          exact ⟨by rw [Hf.out, Hs.out]; rfl, HB.out⟩
        · have q : (x == i) = false := by simpa using hq
          rw [if_neg hq] at hfs
          have Hs := Lib.hid (HI.out.trans hfs)
          clear hq hfs
          go_wp2
          go_round
          case rel => exact ⟨k + 1, by omega, by go_num, Hs.out⟩
          case measure => simp [intOf]; omega
      · obtain rfl : k = Z.length := by omega
        have Hs := Lib.hid (show Zs.find Z i 0 = -1 by rw [HI.out, List.drop_length]; rfl)
        go_wp2
        go_ret
        exact ⟨by rw [Hf.out, Hs.out]; rfl, HB.out⟩

end Go.Proofs.Ytofpcedpmbecgaa

/- Contracts (PthS). -/
namespace Go.Proofs.Ytofpcedpmbecgaa
open Go.RowKit
set_option linter.unusedVariables false

set_option maxHeartbeats 800000 in
set_option maxRecDepth 100000 in
theorem specPathOf_any (A : Option Addr) (n c : Nat) (xs : Tr) (i : Int) (w : World) (h : NdIn w w.heap.size A n xs) (hn : n ≤ 1048576) :
    Calls Try.prog 37 #[.slice A n c, .int .i64 i] w (OwnInts 3 (Tr.path xs i) w) := by
  have H := Lib.hid h
  clear h
  have HL := Lib.hid H.out.1
  have HP := Lib.hid (fun z => Tr.path_step xs z)
  have HPL := Lib.hid (Tr.path_len xs i)
  have HI := Lib.hid info_intP
  obtain ⟨i0, hi, hz0, hz1, hz2⟩ := info_parts HI.out
  go_enter Try.func37, Try.ntmps37
  go_wp2
  go_loopw [6, 5] (fun kv ov wr => ∃ (z : Int) (q : List Int), kv = .int .i64 z ∧ wr.ownsRow w.heap.size 3 1 ov q.length (ints q) ∧ Tr.path xs i = Tr.path xs z ++ q ∧ Below w.heap.size w wr) (fun k _ _ => (intOf k + 1).toNat)
  case atStart => exact ⟨i, [], rfl, World.ownsRow_lit w #[] 0 (Nat.le_refl _) (Nat.zero_le _) rfl, by simp, (Below.refl _ _).alloc (Nat.le_refl _) _⟩
  case round =>
    obtain ⟨z, q, rfl, hown, hpath, hB⟩ := hrel
    have Ho := Lib.hid hown
    have HB := Lib.hid hB
    have Hz := Lib.hid (H.out.to_below hB)
    have hp := HP.out z
    have hql : q.length ≤ n := by
      have := HPL.out
      rw [hpath, HL.out] at this
      simp at this; omega
    have Hp := Lib.hid hpath
    clear hown hB hpath
    go_wp2_with fail
    refine (specKidRank_any _ _ _ xs z _ Hz.out hn).mono ?_
    rintro e w1 ⟨rfl, hb1⟩
    have Hb1 := Lib.hid (show Below wr.heap.size wr w1 from hb1)
    have Ho := Lib.hid (own_below Ho.out Hb1.out)
    have HB := Lib.hid (HB.out.trans (Hb1.out.mono HB.out.size))
    have Hz := Lib.hid (Hz.out.to_below Hb1.out)
    clear hb1
    obtain ⟨r, hr⟩ : ∃ r, r = Tr.kidRank xs z := ⟨_, rfl⟩
    rw [← hr] at hp ⊢
    by_cases hc : 0 ≤ r
    · rw [if_pos hc] at hp
      obtain ⟨p, hz0', hpar, hlt, hup⟩ := hp
      have Hup := Lib.hid hup
      have Hpar := Lib.hid hpar
      have Hr := Lib.hid hr
      have q1 : decide (0 ≤ r) = true := decide_eq_true hc
      clear hup hpar hr
      go_wp2_with fail
      refine (specKidRank_any _ _ _ xs z _ Hz.out hn).mono ?_
      rintro e w2 ⟨rfl, hb2⟩
      have Hb2 := Lib.hid (show Below w1.heap.size w1 w2 from hb2)
      have Ho := Lib.hid (own_below Ho.out Hb2.out)
      have HB := Lib.hid (HB.out.trans (Hb2.out.mono HB.out.size))
      have Hz := Lib.hid (Hz.out.to_below Hb2.out)
      have hs2 := HB.out.size
      rw [← Hr.out]
      clear hb2
      go_wp2_with (at_builtin; go_loud (refine append_own_own (w2.alloc (.cells #[.int .i64 r] 3)) rfl _ _ 27 rfl w.heap.size 3 i0 (.int .i64 0) 1 8 Try.underlying27 hi hz0 hz1 hz2 rfl (by decide) (.slice (some ⟨w2.heap.size, 0, none⟩) 1 1) 1 (ints [r]) rfl (World.ownsRow_lit w2 #[.int .i64 r] 1 hs2 (by decide) rfl) w.heap.size 3 u5 q.length (ints q) rfl (Ho.out.alloc _) (ints_one _) (by unfold maxLen; omega) (by omega) (by simp; omega) ?_; intro v3 w3 hown3 hgr3))
      have Hb3 := Lib.hid (show Below w.heap.size w w3 from (HB.out.alloc hs2 _).grown hgr3 (by simp; omega) (fun k hk => by simp [Value.ownBlock] at hk; omega))
      have Ho3 := Lib.hid (show w3.ownsRow w.heap.size 3 1 v3 (r :: q).length (ints (r :: q)) by rw [show (r :: q).length = 1 + q.length by simp; omega]; exact hown3)
      have Hz := Lib.hid (H.out.to_below Hb3.out)
      clear hown3 hgr3
      go_wp2_with fail
      refine (specParentOf_any _ _ _ xs z _ Hz.out hn).mono ?_
      rintro e w4 ⟨rfl, hd4⟩
      rw [Hpar.out]
      have Ho3 := Lib.hid (own_below Ho3.out hd4.toBelow)
      have Hb3 := Lib.hid (Drawn.below Hb3.out hd4)
      clear hd4
      go_wp2
      go_roundw
      case rel => exact ⟨p, r :: q, by go_num, Ho3.out, by rw [Hp.out, Hup.out]; simp, Hb3.out⟩
      case measure => simp [intOf]; omega
    · rw [if_neg hc] at hp
      have Hp2 := Lib.hid (show Tr.path xs i = q by rw [Hp.out, hp]; rfl)
      have q1 : decide (0 ≤ r) = false := decide_eq_false hc
      obtain ⟨A', c', rfl⟩ := own_slice Ho.out
      clear hp hr
      go_wp2
      go_ret
      exact ⟨A', c', by rw [Hp2.out]; rfl, by rw [Hp2.out]; exact Ho.out, HB.out⟩

end Go.Proofs.Ytofpcedpmbecgaa

/- Contracts (RevI). -/
namespace Go.Proofs.Ytofpcedpmbecgaa
open Go.RowKit
set_option linter.unusedVariables false

/-- the first and the last k values exchanged -/
def Zs.rv (zs : List Int) (k : Nat) : List Int := (List.range zs.length).map fun t => if t < k ∨ zs.length - k ≤ t then Zs.at zs (zs.length - 1 - t) else Zs.at zs t
theorem Zs.rv_length (zs : List Int) (k : Nat) : (Zs.rv zs k).length = zs.length := by simp [Zs.rv]
theorem Zs.rv_at {zs : List Int} {k t : Nat} (h : t < zs.length) : Zs.at (Zs.rv zs k) t = if t < k ∨ zs.length - k ≤ t then Zs.at zs (zs.length - 1 - t) else Zs.at zs t := by
  show (Zs.rv zs k).getD t 0 = _
  unfold Zs.rv
  rw [List.getD_eq_getElem?_getD, List.getElem?_map, List.getElem?_range h]
  rfl
theorem Zs.rv_zero (zs : List Int) : Zs.rv zs 0 = zs := Zs.ext (Zs.rv_length _ _) fun k hk => by
  rw [Zs.rv_length] at hk
  rw [Zs.rv_at hk, if_neg (by omega)]
theorem Zs.rev_at {zs : List Int} {t : Nat} (h : t < zs.length) : Zs.at zs.reverse t = Zs.at zs (zs.length - 1 - t) := by
  simp [Zs.at, List.getD_eq_getElem?_getD, List.getElem?_reverse h]
theorem Zs.rv_all {zs : List Int} {k : Nat} (h : zs.length ≤ 2 * k + 1) : Zs.rv zs k = zs.reverse := Zs.ext (by rw [Zs.rv_length, List.length_reverse]) fun t ht => by
  rw [Zs.rv_length] at ht
  rw [Zs.rv_at ht, Zs.rev_at ht]
  split
  · rfl
  · congr 1; omega
theorem Zs.set_at {zs : List Int} {k t : Nat} {z : Int} (h : t < zs.length) : Zs.at (zs.set k z) t = if t = k then z else Zs.at zs t := by
  by_cases e : t = k
  · subst e
    simp [Zs.at, List.getD_eq_getElem?_getD, h]
  · rw [if_neg e]
    simp [Zs.at, List.getD_eq_getElem?_getD, Ne.symm e]
theorem Zs.rv_set {zs : List Int} {k j : Nat} (hj : j + k + 1 = zs.length) (hk : k < j) : ((Zs.rv zs k).set k (Zs.at zs j)).set j (Zs.at zs k) = Zs.rv zs (k + 1) := Zs.ext (by simp [Zs.rv]) fun t ht => by
  rw [List.length_set, List.length_set, Zs.rv_length] at ht
  rw [Zs.set_at (by rw [List.length_set, Zs.rv_length]; exact ht), Zs.set_at (by rw [Zs.rv_length]; exact ht), Zs.rv_at ht, Zs.rv_at ht]
  by_cases e1 : t = j
  · subst e1
    rw [if_pos rfl, if_pos (by omega)]
    congr 1; omega
  · rw [if_neg e1]
    by_cases e2 : t = k
    · subst e2
      rw [if_pos rfl, if_pos (by omega)]
      congr 1; omega
    · rw [if_neg e2]
      by_cases c : t < k ∨ zs.length - k ≤ t
      · rw [if_pos c, if_pos (by omega)]
      · rw [if_neg c, if_neg (by omega)]

set_option maxHeartbeats 800000 in
set_option maxRecDepth 100000 in
theorem reverseInts_any (A : Option Addr) (n c base : Nat) (e0 : TypeId) (zs : List Int) (w : World) (h : w.ownsRow base e0 1 (.slice A n c) n (ints zs)) (hn : n ≤ 1048576) :
    Calls Try.prog 78 #[.slice A n c] w fun e w' => e = .returned (.tuple #[]) ∧ w'.ownsRow base e0 1 (.slice A n c) n (ints zs.reverse) ∧ w.grownBy w' (Value.ownBlock (.slice A n c)) := by
  have H := Lib.hid h
  have HL := Lib.hid (show zs.length = n by have := h.1; rw [ints_length] at this; omega)
  clear h
  have a0 : IntKind.i64.wrap ((n : Int) - 1) = (n : Int) - 1 := Kit.w64 (by omega) (by omega)
  go_enter Try.func78, Try.ntmps78
  go_wp2
  go_loopw [2, 3] (fun iv jv wr => ∃ k : Nat, 2 * k ≤ n + 1 ∧ iv = .int .i64 k ∧ jv = .int .i64 ((n : Int) - 1 - k) ∧ wr.ownsRow base e0 1 (.slice A n c) n (ints (Zs.rv zs k)) ∧ w.grownBy wr (Value.ownBlock (.slice A n c))) (fun i _ _ => n - (intOf i).toNat)
  case atStart => exact ⟨0, by omega, by go_num, by go_num, by rw [Zs.rv_zero]; exact H.out, World.grownBy.refl _ _⟩
  case round =>
    obtain ⟨k, hk, rfl, rfl, hown, hgr⟩ := hrel
    by_cases hlt : 2 * k + 1 < n
    · obtain ⟨j, hj⟩ : ∃ j : Nat, j + k + 1 = n := ⟨n - 1 - k, by omega⟩
      have hjz : (n : Int) - 1 - k = (j : Int) := by omega
      rw [hjz]
      obtain ⟨g, rfl, hg⟩ := own_form hown (by omega)
      have Ho := Lib.hid hown
      have Hg := Lib.hid hgr
      have hkj : k < j := by omega
      have c0 := own_int hown (k := k) (by rw [Zs.rv_length, HL.out]; omega)
      have c1 := own_int hown (k := j) (by rw [Zs.rv_length, HL.out]; omega)
      rw [Zs.rv_at (by rw [HL.out]; omega), if_neg (by rw [HL.out]; omega)] at c0 c1
      have f0 := hown.frozenAt k
      have f1 := hown.frozenAt j
      have q : decide ((k : Int) < (j : Int)) = true := decide_eq_true (by omega)
      have q' : decide (k < j) = true := decide_eq_true (by omega)
      have k0 : (0 : Int) ≤ (k : Int) := by omega
      have k1 : (k : Int) < (n : Int) := by omega
      have j0 : (0 : Int) ≤ (j : Int) := by omega
      have j1 : (j : Int) < (n : Int) := by omega
      have b0 : IntKind.i64.wrap ((k : Int) + 1) = (k : Int) + 1 := Kit.w64 (by omega) (by omega)
      have b1 : IntKind.i64.wrap ((j : Int) - 1) = (j : Int) - 1 := Kit.w64 (by omega) (by omega)
      have HJ := Lib.hid hj
      have HJZ := Lib.hid hjz
      obtain ⟨x, hx⟩ : ∃ x, x = Zs.at zs k := ⟨_, rfl⟩
      obtain ⟨y, hy⟩ : ∃ y, y = Zs.at zs j := ⟨_, rfl⟩
      rw [← hx] at c0
      rw [← hy] at c1
      have Hx := Lib.hid hx
      have Hy := Lib.hid hy
      clear hown hgr hg hj hjz hx hy
      go_wp2
      go_region
      go_wp2
      go_roundw
      case rel =>
        have s1 := Ho.out.stored k (.int .i64 y)
        have s2 := s1.1.stored j (.int .i64 x)
        have g2 := Kit.grown_trans (Kit.grown_trans Hg.out s1.2) s2.2
        refine ⟨k + 1, by omega, by go_num, by congr 1; have := HJ.out; omega, ?_, Kit.grown_trans g2 (Kit.grown_drewN _ 1 _)⟩
        have t := s2.1
        have e := Zs.rv_set (zs := zs) (k := k) (j := j) (by rw [HL.out]; exact HJ.out) hkj
        rw [← Hy.out, ← Hx.out] at e
        rw [ints_set, ints_set, e] at t
        exact t
      case measure => simp [intOf]; omega
    · have Ho := Lib.hid hown
      have Hg := Lib.hid hgr
      have q : decide ((k : Int) < (n : Int) - 1 - k) = false := decide_eq_false (by omega)
      clear hown hgr
      go_wp2
      refine bodyPost_end (results_none rfl _ _ _) rfl ?_
      refine ⟨rfl, ?_, Hg.out⟩
      have := Ho.out
      rw [Zs.rv_all (by rw [HL.out]; omega)] at this
      exact this

end Go.Proofs.Ytofpcedpmbecgaa

/- Contracts (ParI). -/
namespace Go.Proofs.Ytofpcedpmbecgaa
open Go.RowKit
set_option linter.unusedVariables false

set_option maxHeartbeats 800000 in
set_option maxRecDepth 100000 in
theorem implParentOf_any (A : Option Addr) (n c : Nat) (xs : Tr) (i : Int) (w : World) (h : NdIn w w.heap.size A n xs) (hn : n ≤ 1048576) (hnc : n ≤ c) :
    Calls Try.prog 17 #[.slice A n c, .int .i64 i] w fun e w' => e = .returned (.int .i64 (Tr.parentOf xs i)) ∧ Below w.heap.size w w' := by
  have H := Lib.hid h
  clear h
  have HL := Lib.hid H.out.1
  rcases hok : Tr.has xs i with _ | _
  · have Hf := Lib.hid (show Tr.parentOf xs i = -1 by simp [Tr.parentOf, hok])
    have Hok := Lib.hid hok
    clear hok
    go_enter Try.func17, Try.ntmps17
    go_wp2_with fail
    refine (hasNode_any _ _ _ xs _ _ H.out hn hnc).mono ?_
    rintro e w1 ⟨rfl, hd⟩
    rw [Hok.out]
    go_wp2
    go_ret
    exact ⟨Kit.ret_int Hf.out.symm, hd⟩
  · have h1 := (Tr.has_iff.1 hok).2
    rw [HL.out] at h1
    have Hf := Lib.hid (show Tr.parentOf xs i = Tr.back xs (Tr.d xs i.toNat) i.toNat by simp [Tr.parentOf, hok])
    have Hok := Lib.hid hok
    clear hok
    obtain ⟨j, rfl⟩ := Int.eq_ofNat_of_zero_le h1.1
    have hj : j < n := by omega
    clear h1
    rw [Int.toNat_natCast] at Hf
    go_enter Try.func17, Try.ntmps17
    go_wp2_with fail
    refine (hasNode_any _ _ _ xs _ _ H.out hn hnc).mono ?_
    rintro e w1 ⟨rfl, hd1⟩
    have Hd1 := Lib.hid hd1
    have H1 := Lib.hid (H.out.below Hd1.out)
    clear hd1
    rw [Hok.out]
    go_wp2
    go_loopw [5] (fun kv wr => ∃ z : Int, -1 ≤ z ∧ z < j ∧ kv = .int .i64 z ∧ Tr.back xs (Tr.d xs j) j = Tr.back xs (Tr.d xs j) (z + 1).toNat ∧ Drawn w1 wr) (fun k _ => (intOf k + 1).toNat)
    case atStart => exact ⟨(j : Int) - 1, by omega, by omega, by go_num, by rw [show ((j : Int) - 1 + 1).toNat = j by omega], Drawn.refl _⟩
    case round =>
      obtain ⟨z, hz, hzj, rfl, hback, hD⟩ := hrel
      have Hb := Lib.hid hback
      clear hback
      have hj0 : (0 : Int) ≤ (j : Int) := by omega
      by_cases h0 : 0 ≤ z
      · obtain ⟨k, rfl⟩ := Int.eq_ofNat_of_zero_le h0
        clear h0
        have hlt : k < n := by omega
        have hk0 : (0 : Int) ≤ (k : Int) := by omega
        obtain ⟨ad, rfl, hb, hl, hd⟩ := (H1.out.drawn hD).at_ hlt
        obtain ⟨hl', hd'⟩ := (H1.out.drawn hD).here hj
        clear hl hl'
        have Hk := Lib.hid (show Tr.back xs (Tr.d xs j) ((k : Int) + 1).toNat = if Tr.d xs k < Tr.d xs j then (k : Int) else Tr.back xs (Tr.d xs j) k by
          rw [show ((k : Int) + 1).toNat = k + 1 by omega]; rfl)
        by_cases hgt : Tr.d xs k < Tr.d xs j
        · have hg : decide (Tr.d xs j ≤ Tr.d xs k) = false := by simpa using hgt
          have Hg := Lib.hid hgt
          clear hgt
          go_wp2
          go_quiet (fail)
          go_wp2
          go_ret
          exact ⟨Kit.ret_int (by rw [Hf.out, Hb.out, Hk.out, if_pos Hg.out]), Drawn.below Hd1.out (hD.drewN _)⟩
        · have hg : decide (Tr.d xs j ≤ Tr.d xs k) = true := by simp; omega
          have Hg := Lib.hid hgt
          clear hgt
          go_wp2
          go_quiet (fail)
          go_wp2
          go_roundw
          case rel => exact ⟨(k : Int) - 1, by omega, by omega, by go_num, by rw [Hb.out, Hk.out, if_neg (by have := Hg.out; omega), show ((k : Int) - 1 + 1).toNat = k by omega], hD.drewN _⟩
          case measure => simp [intOf] <;> omega
      · obtain rfl : z = -1 := by omega
        clear h0
        go_wp2
        go_quiet (fail)
        go_wp2
        go_ret
        exact ⟨Kit.ret_int (by rw [Hf.out, Hb.out]; rfl), Drawn.below Hd1.out (hD.drewN _)⟩

end Go.Proofs.Ytofpcedpmbecgaa
