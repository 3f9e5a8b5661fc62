/- Texts of one claim laid into one file, in build order: LeafI, SlI, SlC, KeyI, Three, UnitS. -/
import Derived.Test.YtofpcedpmbecgaaDoorHg2
import Derived.Test.YtofpcedpmbecgaaDoorHg3
import Derived.Test.YtofpcedpmbecgaaDoorHg4
import Derived.Test.YtofpcedpmbecgaaDoorHg7
import Derived.Test.YtofpcedpmbecgaaDoorHg9
import Derived.Outline
import Derived.Test.YtofpcedpmbecgaaDoorRows
/- Contracts (LeafI). -/
namespace Go.Proofs.YtofpcedpmbecgaaDoor
open Go.RowKit
set_option linter.unusedVariables false

theorem Tr.lfs_get {xs : Tr} {k : Nat} (hk : k < (Tr.post xs).length) : ∃ i, i < xs.length ∧ Zs.at (Zs.up (Tr.post xs)) k = (i : Int) ∧ Zs.at (Zs.up (Tr.lfs xs)) k = (i : Int) - Tr.d xs i ∧ 0 ≤ Tr.d xs i ∧ Tr.d xs i ≤ 12 := by
  obtain ⟨i, h1, h2, h3, hok, hl⟩ := Tr.post_at hk
  have hi : i < xs.length := by omega
  rw [List.getElem?_eq_getElem hk] at h2
  injection h2 with h2
  have hd := Tr.dn_eq hok hi
  have hd2 := Tr.dn_le hok hi
  refine ⟨i, hi, by rw [Zs.up_at _ _ hk, h2], ?_, (Tr.ok_at hok hi).2.1⟩
  rw [Zs.up_at _ _ (by rw [Tr.lfs_length]; exact hk)]
  simp only [Tr.lfs, List.getElem_map, h2]
  omega
set_option maxHeartbeats 1600000 in
set_option maxRecDepth 100000 in
theorem implLeftLeaf_any (A : Option Addr) (n c : Nat) (xs : Tr) (w : World) (h : NdIn w w.heap.size A n xs) (hn : n ≤ 1048576) (hnc : n ≤ c) :
    Calls Tryd.prog 68 #[.slice A n c] w (OwnInts 3 (Zs.up (Tr.lfs xs)) w) := by
  have H := Lib.hid h
  clear h
  have HL := Lib.hid H.out.1
  have hml := Tr.post_len_le xs
  rw [H.out.1] at hml
  obtain ⟨m, hm⟩ : ∃ m, m = (Tr.post xs).length := ⟨_, rfl⟩
  have HM := Lib.hid hm
  have HRL := Lib.hid (show (Zs.up (Tr.post xs)).length = m by rw [Zs.up_length, hm])
  have HR := Lib.hid (fun k (hk : k < m) => Tr.lfs_get (xs := xs) (k := k) (by rw [← hm]; exact hk))
  obtain ⟨F, hF⟩ : ∃ F, F = Zs.up (Tr.lfs xs) := ⟨_, rfl⟩
  have HFl := Lib.hid (show F.length = m by rw [hF, Zs.up_length, Tr.lfs_length, hm])
  have HF := Lib.hid hF
  rw [← hm] at hml
  clear hm hF
  obtain ⟨i0, hi, hz0, hz1, hz2⟩ := info_parts info_intZ
  have Hi := Lib.hid hi
  clear hi
  go_enter Tryd.func68, Tryd.ntmps68
  go_wp2_with fail
  refine (implPostOrder_any _ _ _ xs _ H.out hn hnc).mono ?_
  rintro e w1 ⟨A1, c1, rfl, ho, hb⟩
  have HB := Lib.hid hb
  have I1 := Lib.hid (IntIn.of_own ho)
  have H1 := Lib.hid (H.out.to_below hb)
  clear ho hb
  rw [HRL.out] at I1 ⊢
  have HZ0 := Lib.hid (show List.replicate m (0 : Int) = Zs.part F 0 by rw [Zs.part_zero, HFl.out])
  go_wp2_with (at_make; go_loud (refine wpList_make_full _ rfl _ _ 25 rfl w1.heap.size 3 i0 (.int .i64 0) 1 Tryd.underlying25 Hi.out hz0 hz1 _ _ _ _ m rfl rfl rfl rfl (by rw [hz2]; omega) (by unfold maxLen; omega) (Nat.le_refl _) ?_); intro w2 hown2 hgrow2)
  have hb2 : Below w1.heap.size w1 w2 := (Below.refl _ w1).grown hgrow2 (Nat.le_refl _) (fun _ h => by cases h)
  rw [made_zeros 0 m, HZ0.out] at hown2
  have HO2 := Lib.hid hown2
  have HB2 := Lib.hid hb2
  clear hown2 hgrow2 hb2
  go_wp2
  go_loopw [14] (fun kv wr => ∃ k : Nat, k ≤ m ∧ kv = .int .i64 k ∧ wr.ownsRow w1.heap.size 3 1 (.slice (some ⟨w1.heap.size, 0, none⟩) m m) m (ints (Zs.part F k)) ∧ Below w1.heap.size w1 wr) (fun k _ => m - (intOf k).toNat)
  case atStart => exact ⟨0, Nat.zero_le _, rfl, HO2.out, HB2.out⟩
  case round =>
    clear HO2 HB2
    obtain ⟨k, hk, rfl, hown, hB⟩ := hrel
    have Ho := Lib.hid hown
    have HB2 := Lib.hid hB
    clear hown hB
    by_cases hlt : k < m
    · obtain ⟨i, r1, r2, r3, r4, r5⟩ := HR.out k hlt
      rw [← HF.out] at r3
      rw [HL.out] at r1
      obtain ⟨ad, rfl, _, c1⟩ := (I1.out.below HB2.out).at_ hlt
      rw [r2] at c1
      obtain ⟨ad2, rfl, _, l1, d1⟩ := (H1.out.below HB2.out).at_ r1
      have c0 := own_int Ho.out (k := k) (by rw [Zs.part_length F k (by rw [HFl.out]; exact hk), HFl.out]; exact hlt)
      have f0 := Ho.out.frozenAt k
      have b0 : (0 : Int) ≤ (i : Int) := by omega
      have b1 : (i : Int) < (n : Int) := by omega
      have b2 : (0 : Int) ≤ (k : Int) := by omega
      have b3 : (k : Int) < (m : Int) := by omega
      have a1 : IntKind.i64.wrap ((i : Int) - Tr.d xs i) = (i : Int) - Tr.d xs i := Kit.w64 (by omega) (by omega)
      have R3 := Lib.hid r3
      clear r2 r3 r4 r5 l1
      go_wp2
      go_roundw
      case rel =>
        refine ⟨k + 1, by omega, by go_num, ?_, HB2.out.setCell (Nat.le_refl _) _⟩
        have := (Ho.out.stored k (.int .i64 ((i : Int) - Tr.d xs i))).1
        rw [ints_set, ← R3.out, Zs.part_set F k (by rw [HFl.out]; exact hlt), R3.out] at this
        exact this
      case measure => simp [intOf]; omega
    · obtain rfl : k = m := by omega
      have Hf := Lib.hid (show Zs.part F k = F by rw [← HFl.out]; exact Zs.part_all F)
      rw [Hf.out] at Ho
      go_wp2
      go_ret
      exact ⟨_, _, by rw [← HF.out, HFl.out]; rfl, by rw [← HF.out, HFl.out]; exact own_base Ho.out HB.out.size, HB.out.trans (HB2.out.mono HB.out.size)⟩

end Go.Proofs.YtofpcedpmbecgaaDoor

/- Contracts (SlI). -/
namespace Go.Proofs.YtofpcedpmbecgaaDoor
open Go.RowKit
set_option linter.unusedVariables false

set_option maxHeartbeats 1600000 in
set_option maxRecDepth 100000 in
theorem slIndex_any (A : Option Addr) (n c : Nat) (zs : List Int) (i : Int) (w : World) (h : IntIn w w.heap.size A n zs) (hn : n ≤ 1048576) :
    Calls Tryd.prog 73 #[.slice A n c, .int .i64 i] w fun e w' => e = .returned (.int .i64 (Zs.find zs i 0)) ∧ w = w' := by
  have H := Lib.hid h
  have HL := Lib.hid h.1
  clear h
  have HFS := Lib.hid (fun k => Zs.find_step zs i k)
  go_enter Tryd.func73, Tryd.ntmps73
  go_wp2
  go_loop [8] (fun kv => ∃ k : Nat, k ≤ n ∧ kv = .int .i64 k ∧ Zs.find zs i 0 = Zs.find (zs.drop k) i k) (fun k => n - (intOf k).toNat)
  case atStart => exact ⟨0, Nat.zero_le _, rfl, rfl⟩
  case round =>
    obtain ⟨k, hk, rfl, hfi⟩ := hrel
    have HI := Lib.hid hfi
    clear hfi
    by_cases hlt : k < n
    · have hfs := HFS.out k (by rw [HL.out]; exact hlt)
      obtain ⟨ad, rfl, _, c1⟩ := H.out.at_ hlt
      have hz : Zs.at zs k = zs.getD k 0 := rfl
      rw [hz] at c1
      obtain ⟨x, hx⟩ : ∃ x, x = zs.getD k 0 := ⟨_, rfl⟩
      rw [← hx] at c1 hfs
      clear hx hz
      have k0 : (0 : Int) ≤ (k : Int) := by omega
      have k1 : (k : Int) < (n : Int) := by omega
      by_cases hq : x = i
      · have q : (i == x) = true := by simpa using hq.symm
        rw [if_pos hq] at hfs
        have Hs := Lib.hid (HI.out.trans hfs)
        clear hq hfs
        go_wp2
        go_ret
        exact ⟨by rw [Hs.out]; rfl, rfl⟩
      · have q : (i == x) = false := by simpa using fun e => hq e.symm
        rw [if_neg hq] at hfs
        have Hs := Lib.hid (HI.out.trans hfs)
        clear hq hfs
        go_wp2
        go_round
        case rel => exact ⟨k + 1, by omega, by go_num, Hs.out⟩
        case measure => simp [intOf]; omega
    · obtain rfl : k = n := by omega
      have Hs := Lib.hid (show Zs.find zs i 0 = -1 by rw [HI.out, List.drop_eq_nil_of_le (by rw [HL.out]; exact Nat.le_refl _)]; rfl)
      go_wp2
      go_ret
      exact ⟨by rw [Hs.out]; rfl, rfl⟩

end Go.Proofs.YtofpcedpmbecgaaDoor

/- Contracts (SlC). -/
namespace Go.Proofs.YtofpcedpmbecgaaDoor
open Go.RowKit
set_option linter.unusedVariables false

theorem Zs.find_mem (zs : List Int) (i : Int) (k : Nat) : 0 ≤ Zs.find zs i k ↔ i ∈ zs := by
  induction zs generalizing k with
  | nil => simp [Zs.find]
  | cons z zs ih =>
    unfold Zs.find
    by_cases h : z = i
    · rw [if_pos h]; subst h; simp
    · rw [if_neg h, ih (k + 1)]
      simp [show ¬ i = z from fun e => h e.symm]
set_option maxHeartbeats 1600000 in
set_option maxRecDepth 100000 in
theorem slContains_any (A : Option Addr) (n c : Nat) (zs : List Int) (i : Int) (w : World) (h : IntIn w w.heap.size A n zs) (hn : n ≤ 1048576) :
    Calls Tryd.prog 71 #[.slice A n c, .int .i64 i] w fun e w' => e = .returned (.bool (decide (i ∈ zs))) ∧ w = w' := by
  have H := Lib.hid h
  clear h
  have hm := Zs.find_mem zs i 0
  obtain ⟨z, hz⟩ : ∃ z, z = Zs.find zs i 0 := ⟨_, rfl⟩
  have HZ := Lib.hid hz
  rw [← hz] at hm
  have HM := Lib.hid (show decide (0 ≤ z) = decide (i ∈ zs) by rw [Bool.eq_iff_iff]; simp [hm])
  clear hm hz
  go_enter Tryd.func71, Tryd.ntmps71
  go_wp2_with fail
  refine (slIndex_any _ _ _ zs _ _ H.out hn).mono ?_
  rintro e w1 ⟨rfl, rfl⟩
  rw [← HZ.out]
  go_wp2
  go_ret
  exact ⟨by rw [← HM.out]; rfl, rfl⟩

end Go.Proofs.YtofpcedpmbecgaaDoor

/- Contracts (KeyI). -/
namespace Go.Proofs.YtofpcedpmbecgaaDoor
open Go.RowKit
set_option linter.unusedVariables false

theorem IntIn.cut {w : World} {B n : Nat} {ad : Addr} {zs : List Int} (h : IntIn w B (some ad) n zs) {j m : Nat} (hjm : j + m = n) : IntIn w B (some (ad.add j)) m (zs.drop j) := by
  refine ⟨by have := h.1; simp; omega, fun hm => ⟨_, rfl, ?_⟩, fun ad' e k hk => ?_⟩
  · rw [block_of_add]
    obtain ⟨ad', e, hb⟩ := h.2.1 (by omega)
    obtain rfl : ad = ad' := by injection e
    exact hb
  · obtain rfl : ad.add j = ad' := by injection e
    have hc := h.2.2 ad rfl (j + k) (by omega)
    rw [add_of_add]
    simpa [Zs.at, List.getD_eq_getElem?_getD] using hc
theorem IntIn.none {w : World} {B : Nat} {A : Option Addr} : IntIn w B A 0 [] := ⟨rfl, fun h => absurd h (Nat.lt_irrefl 0), fun ad _ k hk => absurd hk (Nat.not_lt_zero k)⟩
theorem Zs.last_in (F : List Nat) (k : Nat) (hk : k < F.length) : Zs.lastTo F k F.length = !decide (Zs.at (Zs.up F) k ∈ (Zs.up F).drop (k + 1)) := by
  rw [Bool.eq_iff_iff]
  simp only [Zs.lastTo, List.all_eq_true, List.mem_range, Bool.or_eq_true, decide_eq_true_eq, Bool.not_eq_true', decide_eq_false_iff_not]
  rw [Zs.up_at F k hk]
  have hgk : F.getD k 0 = F[k] := by simp [List.getD_eq_getElem?_getD, hk]
  constructor
  · intro h hm
    obtain ⟨j, hj, e⟩ := List.getElem_of_mem hm
    simp [Zs.up] at hj e
    have := h (k + 1 + j) (by omega)
    rw [hgk] at this
    simp [List.getD_eq_getElem?_getD, show k + 1 + j < F.length by omega] at this
    omega
  · intro h j hj
    by_cases q : j ≤ k
    · exact .inl q
    · refine .inr fun e => h ?_
      rw [hgk] at e
      have e2 : F.getD j 0 = F[j] := by simp [List.getD_eq_getElem?_getD, hj]
      rw [List.mem_iff_getElem]
      exact ⟨j - (k + 1), by simp [Zs.up]; omega, by simp [Zs.up, show k + 1 + (j - (k + 1)) = j by omega]; omega⟩
set_option maxHeartbeats 1600000 in
set_option maxRecDepth 100000 in
theorem implKeyRoots_any (A : Option Addr) (n c : Nat) (xs : Tr) (w : World) (h : NdIn w w.heap.size A n xs) (hn : n ≤ 1048576) (hnc : n ≤ c) :
    Calls Tryd.prog 69 #[.slice A n c] w (OwnInts 3 (Zs.up (Tr.krs xs)) w) := by
  have H := Lib.hid h
  clear h
  have hml := Tr.post_len_le xs
  rw [H.out.1, ← Tr.lfs_length] at hml
  obtain ⟨G, hG⟩ : ∃ G, G = Tr.lfs xs := ⟨_, rfl⟩
  have HS := Lib.hid (fun k => Tr.krTo_succ xs k)
  have HLe := Lib.hid (fun k => Tr.krTo_le xs k)
  have HK := Lib.hid (show Tr.krs xs = Tr.krTo xs G.length by rw [hG]; rfl)
  rw [← hG] at hml HS
  have HIN := Lib.hid (fun k hk => Zs.last_in G k hk)
  obtain ⟨m, hm⟩ : ∃ m, m = G.length := ⟨_, rfl⟩
  obtain ⟨F, hF⟩ : ∃ F, F = Zs.up G := ⟨_, rfl⟩
  have HFl := Lib.hid (show F.length = m by rw [hF, Zs.up_length, hm])
  have HF := Lib.hid (show Zs.up (Tr.lfs xs) = F by rw [hF, hG])
  rw [← hm] at hml HS HK HIN
  rw [← hF] at HIN
  clear hm hF hG
  obtain ⟨i0, hi, hz0, hz1, hz2⟩ := info_parts info_intZ
  have Hi := Lib.hid hi
  clear hi
  go_enter Tryd.func69, Tryd.ntmps69
  go_wp2_with fail
  refine (implLeftLeaf_any _ _ _ xs _ H.out hn hnc).mono ?_
  rintro e w1 ⟨A1, c1, rfl, ho, hb⟩
  have HB := Lib.hid hb
  rw [HF.out, HFl.out] at ho ⊢
  have I1 := Lib.hid (IntIn.of_own ho)
  have hmc := own_cap ho
  clear ho hb
  go_wp2
  go_loopw [11, 4] (fun kv ov wr => ∃ k : Nat, k ≤ m ∧ kv = .int .i64 k ∧ wr.ownsRow w1.heap.size 3 1 ov (Zs.up (Tr.krTo xs k)).length (ints (Zs.up (Tr.krTo xs k))) ∧ Below w1.heap.size w1 wr) (fun k _ _ => m - (intOf k).toNat)
  case atStart => exact ⟨0, Nat.zero_le _, rfl, own_nil, Below.refl _ _⟩
  case round =>
    obtain ⟨k, hk, rfl, hown, hB⟩ := hrel
    have Ho := Lib.hid hown
    have HB2 := Lib.hid hB
    clear hown hB
    have hsx := HB2.out.size
    by_cases hlt : k < m
    · have hin := HIN.out k hlt
      have hs := HS.out k
      rw [hin] at hs
      have hle := HLe.out k
      obtain ⟨ad, rfl, _, c0⟩ := (I1.out.below HB2.out).at_ hlt
      obtain ⟨x, hx⟩ : ∃ x, x = Zs.at F k := ⟨_, rfl⟩
      rw [← hx] at hs c0
      have b2 : (0 : Int) ≤ (k : Int) := by omega
      have b3 : (k : Int) < (m : Int) := by omega
      have b4 : (k : Int) + 1 ≤ (m : Int) := by omega
      have b5 : (m : Int) ≤ (c1 : Int) := by omega
      have b6 : (0 : Int) ≤ (k : Int) + 1 := by omega
      have b7 : ((k : Int) + 1).toNat = k + 1 := by omega
      have a1 : IntKind.i64.wrap ((k : Int) + 1) = (k : Int) + 1 := Kit.w64 (by omega) (by omega)
      have IC := Lib.hid (((I1.out.to_below HB2.out)).cut (j := k + 1) (m := m - (k + 1)) (by omega))
      have hmk : m - (k + 1) ≤ 1048576 := by omega
      clear hin hx
      cases hd : decide (x ∈ F.drop (k + 1)) with
      | true =>
        rw [hd] at hs
        have Hs := Lib.hid (hs.trans (if_neg (by decide)))
        have Hd := Lib.hid hd
        clear hs hd
        by_cases hc : c1 = k + 1
        · have I0 := Lib.hid (show IntIn wr wr.heap.size (some ad) 0 (F.drop (k + 1)) by
            rw [List.drop_eq_nil_of_le (by rw [HFl.out]; omega)]; exact IntIn.none)
          have hc2 : k + 1 = c1 := hc.symm
          clear hc hmk
          go_wp2_with fail
          refine (slContains_any _ _ _ (F.drop (k + 1)) x _ I0.out (Nat.zero_le _)).mono ?_
          rintro e w3 ⟨rfl, rfl⟩
          rw [Hd.out]
          go_wp2
          go_roundw
          case rel => exact ⟨k + 1, by omega, by go_num, by rw [Hs.out]; exact Ho.out, HB2.out⟩
          case measure => simp [intOf]; omega
        · go_wp2_with fail
          refine (slContains_any _ _ _ (F.drop (k + 1)) x _ IC.out hmk).mono ?_
          rintro e w3 ⟨rfl, rfl⟩
          rw [Hd.out]
          go_wp2
          go_roundw
          case rel => exact ⟨k + 1, by omega, by go_num, by rw [Hs.out]; exact Ho.out, HB2.out⟩
          case measure => simp [intOf]; omega
      | false =>
        rw [hd] at hs
        have Hs := Lib.hid (hs.trans (if_pos rfl))
        have Hd := Lib.hid hd
        clear hs hd
        by_cases hc : c1 = k + 1
        · have I0 := Lib.hid (show IntIn wr wr.heap.size (some ad) 0 (F.drop (k + 1)) by
            rw [List.drop_eq_nil_of_le (by rw [HFl.out]; omega)]; exact IntIn.none)
          have hc2 : k + 1 = c1 := hc.symm
          clear hc hmk
          go_wp2_with fail
          refine (slContains_any _ _ _ (F.drop (k + 1)) x _ I0.out (Nat.zero_le _)).mono ?_
          rintro e w3 ⟨rfl, rfl⟩
          rw [Hd.out]
          go_wp2_with (at_builtin; go_loud (refine append_int wr rfl _ _ 25 rfl w1.heap.size 3 i0 Tryd.underlying25 Hi.out hz0 hz1 hz2 u4 (Zs.up (Tr.krTo xs k)).length (Zs.up (Tr.krTo xs k)) rfl Ho.out rfl (k : Int) rfl (by rw [Zs.up_length]; omega) hsx ?_); intro v' w3 hown hgrow)
          have hb3 := Kit.below_own HB2.out Ho.out hgrow
          rw [show Zs.up (Tr.krTo xs k) ++ [(k : Int)] = Zs.up (Tr.krTo xs (k + 1)) by rw [Hs.out, Zs.up_append]; rfl] at hown
          go_roundw
          case rel => exact ⟨k + 1, by omega, by go_num, hown, hb3⟩
          case measure => simp [intOf]; omega
        · go_wp2_with fail
          refine (slContains_any _ _ _ (F.drop (k + 1)) x _ IC.out hmk).mono ?_
          rintro e w3 ⟨rfl, rfl⟩
          rw [Hd.out]
          go_wp2_with (at_builtin; go_loud (refine append_int wr rfl _ _ 25 rfl w1.heap.size 3 i0 Tryd.underlying25 Hi.out hz0 hz1 hz2 u4 (Zs.up (Tr.krTo xs k)).length (Zs.up (Tr.krTo xs k)) rfl Ho.out rfl (k : Int) rfl (by rw [Zs.up_length]; omega) hsx ?_); intro v' w3 hown hgrow)
          have hb3 := Kit.below_own HB2.out Ho.out hgrow
          rw [show Zs.up (Tr.krTo xs k) ++ [(k : Int)] = Zs.up (Tr.krTo xs (k + 1)) by rw [Hs.out, Zs.up_append]; rfl] at hown
          go_roundw
          case rel => exact ⟨k + 1, by omega, by go_num, hown, hb3⟩
          case measure => simp [intOf]; omega
    · obtain rfl : k = m := by omega
      go_wp2
      obtain ⟨A2, c2, rfl⟩ := own_slice Ho.out
      go_ret
      exact ⟨A2, c2, by rw [HK.out]; rfl, by rw [HK.out]; exact own_base Ho.out HB.out.size, HB.out.trans (HB2.out.mono HB.out.size)⟩

end Go.Proofs.YtofpcedpmbecgaaDoor

/- Contracts (Three). -/
namespace Go.Proofs.YtofpcedpmbecgaaDoor
open Go.RowKit
set_option linter.unusedVariables false

theorem Apart.symm {a b : Value} (h : Apart a b) : Apart b a := by
  rcases hb : b.ownBlock with _ | g
  · exact .inl hb
  · refine .inr fun e => ?_
    rcases h with h | h
    · rw [hb, h] at e; cases e
    · exact h e.symm
/-- a struct of three rows of ints that a call builds: in block g; the rows behind it, apart from one another -/
def ThreeAt (w0 : World) (g n0 n1 n2 : Nat) (L0 L1 L2 : List Int) (v0 v1 v2 : Value) (w : World) : Prop :=
  Box3 w g v0 v1 v2 ∧ (∀ off, w.frozen? ⟨g, off, none⟩ = false) ∧ w.ownsRow (g + 1) 3 1 v0 n0 (ints L0) ∧ w.ownsRow (g + 1) 3 1 v1 n1 (ints L1) ∧ w.ownsRow (g + 1) 3 1 v2 n2 (ints L2) ∧
  Apart v0 v1 ∧ Apart v0 v2 ∧ Apart v1 v2 ∧ Below w0.heap.size w0 w ∧ g < w.heap.size
/-- the struct as it is made: three empty rows -/
theorem Three.new (w0 : World) (e : TypeId) : ThreeAt w0 w0.heap.size 0 0 0 [] [] [] (.slice none 0 0) (.slice none 0 0) (.slice none 0 0) (w0.alloc (.cells #[.slice none 0 0, .slice none 0 0, .slice none 0 0] e)) :=
  ⟨Box3.made _ _ _ _ _, Box3.free _ _ _ _ _, own_nil, own_nil, own_nil, .inl rfl, .inl rfl, .inl rfl, (Below.refl _ _).alloc (Nat.le_refl _) _, by simp⟩
/-- its three rows, as they lie behind a store of it into another struct -/
theorem Three.out {w0 w : World} {g n0 n1 n2 s : Nat} {L0 L1 L2 : List Int} {v0 v1 v2 u0 u1 u2 : Value} (h : ThreeAt w0 g n0 n1 n2 L0 L1 L2 v0 v1 v2 w) (hs : s ≤ g) {base : Nat} (hb : base ≤ g) :
    let W := ((w.setCell ⟨s, 0, none⟩ u0).setCell ⟨s, 1, none⟩ u1).setCell ⟨s, 2, none⟩ u2
    W.ownsRow base 3 1 v0 n0 (ints L0) ∧ W.ownsRow base 3 1 v1 n1 (ints L1) ∧ W.ownsRow base 3 1 v2 n2 (ints L2) ∧ Apart v0 v1 ∧ Apart v0 v2 ∧ Apart v1 v2 := by
  obtain ⟨hx, hf, o0, o1, o2, a01, a02, a12, hB, hgl⟩ := h
  have keep : ∀ (v : Value) (n : Nat) (ys : List Value), w.ownsRow (g + 1) 3 1 v n ys → (((w.setCell ⟨s, 0, none⟩ u0).setCell ⟨s, 1, none⟩ u1).setCell ⟨s, 2, none⟩ u2).ownsRow base 3 1 v n ys := fun _ _ _ k =>
    own_base (own_grown (own_grown (own_grown k (Kit.grown_set _ _ _ _) (fun b hb => by injection hb with hb; omega)) (Kit.grown_set _ _ _ _) (fun b hb => by injection hb with hb; omega)) (Kit.grown_set _ _ _ _) (fun b hb => by injection hb with hb; omega)) (by omega)
  exact ⟨keep _ _ _ o0, keep _ _ _ o1, keep _ _ _ o2, a01, a02, a12⟩

end Go.Proofs.YtofpcedpmbecgaaDoor

/- Contracts (UnitS). -/
namespace Go.Proofs.YtofpcedpmbecgaaDoor
open Go.RowKit
set_option linter.unusedVariables false

def Co.urel (j : Nat) : List Int := (List.range j).map fun p => if p / 6 = p % 6 then 0 else 1
def Co.unit : Co := ⟨List.replicate 6 1, List.replicate 6 1, Co.urel 36⟩
theorem Co.urel_length (j : Nat) : (Co.urel j).length = j := by simp [Co.urel]
/-- the answer is a cost of the call's own: three rows apart -/
def OwnCo (k : Co) (w : World) (e : Ending) (w' : World) : Prop :=
  ∃ A0 A1 A2 c0 c1 c2, e = .returned (.agg #[.slice A0 k.d.length c0, .slice A1 k.i.length c1, .slice A2 k.r.length c2]) ∧
    w'.ownsRow w.heap.size 3 1 (.slice A0 k.d.length c0) k.d.length (ints k.d) ∧ w'.ownsRow w.heap.size 3 1 (.slice A1 k.i.length c1) k.i.length (ints k.i) ∧ w'.ownsRow w.heap.size 3 1 (.slice A2 k.r.length c2) k.r.length (ints k.r) ∧
    Apart (.slice A0 k.d.length c0) (.slice A1 k.i.length c1) ∧ Apart (.slice A0 k.d.length c0) (.slice A2 k.r.length c2) ∧ Apart (.slice A1 k.i.length c1) (.slice A2 k.r.length c2) ∧ Below w.heap.size w w'
theorem results_cell1 {fn : Func} {p : Tmp} {ty : TypeId} (h : fn.results = #[.cell p ty]) (tmps : Array Value) (P : Program) (w : World) :
    (results fn tmps).run P w = ((asAddr (tmps.getD p undef)).run P w).andThen fun a w₁ => (loadVar ty a).run P w₁ := by
  simp only [results, h]
  simp [Sem.run_bind]
end Go.Proofs.YtofpcedpmbecgaaDoor
