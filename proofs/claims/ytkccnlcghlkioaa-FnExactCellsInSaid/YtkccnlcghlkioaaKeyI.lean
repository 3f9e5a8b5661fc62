/- Contracts (KeyI). -/
import Derived.Test.YtkccnlcghlkioaaLeafI
import Derived.Test.YtkccnlcghlkioaaSlC
namespace Go.Proofs.Ytkccnlcghlkioaa
open Go.RowKit
set_option linter.unusedVariables false

theorem IntIn.cut {w : World} {B n : Nat} {ad : Addr} {zs : List Int} (h : IntIn w B (some ad) n zs) {j m : Nat} (hjm : j + m = n) : IntIn w B (some (ad.add j)) m (zs.drop j) := by
  refine ⟨by have := h.1; simp; omega, fun hm => ⟨_, rfl, ?_⟩, fun ad' e k hk => ?_⟩
  · rw [block_of_add]
    obtain ⟨ad', e, hb⟩ := h.2.1 (by omega)
    obtain rfl : ad = ad' := by injection e
    exact hb
  · obtain rfl : ad.add j = ad' := by injection e
    have hc := h.2.2 ad rfl (j + k) (by omega)
    rw [add_of_add]
    simpa [Zs.at, List.getD_eq_getElem?_getD] using hc
theorem IntIn.none {w : World} {B : Nat} {A : Option Addr} : IntIn w B A 0 [] := ⟨rfl, fun h => absurd h (Nat.lt_irrefl 0), fun ad _ k hk => absurd hk (Nat.not_lt_zero k)⟩
theorem Zs.last_in (F : List Nat) (k : Nat) (hk : k < F.length) : Zs.lastTo F k F.length = !decide (Zs.at (Zs.up F) k ∈ (Zs.up F).drop (k + 1)) := by
  rw [Bool.eq_iff_iff]
  simp only [Zs.lastTo, List.all_eq_true, List.mem_range, Bool.or_eq_true, decide_eq_true_eq, Bool.not_eq_true', decide_eq_false_iff_not]
  rw [Zs.up_at F k hk]
  have hgk : F.getD k 0 = F[k] := by simp [List.getD_eq_getElem?_getD, hk]
  constructor
  · intro h hm
    obtain ⟨j, hj, e⟩ := List.getElem_of_mem hm
    simp [Zs.up] at hj e
    have := h (k + 1 + j) (by omega)
    rw [hgk] at this
    simp [List.getD_eq_getElem?_getD, show k + 1 + j < F.length by omega] at this
    omega
  · intro h j hj
    by_cases q : j ≤ k
    · exact .inl q
    · refine .inr fun e => h ?_
      rw [hgk] at e
      have e2 : F.getD j 0 = F[j] := by simp [List.getD_eq_getElem?_getD, hj]
      rw [List.mem_iff_getElem]
      exact ⟨j - (k + 1), by simp [Zs.up]; omega, by simp [Zs.up, show k + 1 + (j - (k + 1)) = j by omega]; omega⟩
set_option maxHeartbeats 1600000 in
set_option maxRecDepth 100000 in
theorem implKeyRoots_any (A : Option Addr) (n c : Nat) (xs : Tr) (w : World) (h : NdIn w w.heap.size A n xs) (hn : n ≤ 1048576) (hnc : n ≤ c) :
    Calls Try.prog 79 #[.slice A n c] w (OwnInts 3 (Zs.up (Tr.krs xs)) w) := by
  have H := Lib.hid h
  clear h
  have hml := Tr.post_len_le xs
  rw [H.out.1, ← Tr.lfs_length] at hml
  obtain ⟨G, hG⟩ : ∃ G, G = Tr.lfs xs := ⟨_, rfl⟩
  have HS := Lib.hid (fun k => Tr.krTo_succ xs k)
  have HLe := Lib.hid (fun k => Tr.krTo_le xs k)
  have HK := Lib.hid (show Tr.krs xs = Tr.krTo xs G.length by rw [hG]; rfl)
  rw [← hG] at hml HS
  have HIN := Lib.hid (fun k hk => Zs.last_in G k hk)
  obtain ⟨m, hm⟩ : ∃ m, m = G.length := ⟨_, rfl⟩
  obtain ⟨F, hF⟩ : ∃ F, F = Zs.up G := ⟨_, rfl⟩
  have HFl := Lib.hid (show F.length = m by rw [hF, Zs.up_length, hm])
  have HF := Lib.hid (show Zs.up (Tr.lfs xs) = F by rw [hF, hG])
  rw [← hm] at hml HS HK HIN
  rw [← hF] at HIN
  clear hm hF hG
  obtain ⟨i0, hi, hz0, hz1, hz2⟩ := info_parts info_intZ
  have Hi := Lib.hid hi
  clear hi
  go_enter Try.func79, Try.ntmps79
  go_wp2_with fail
  refine (implLeftLeaf_any _ _ _ xs _ H.out hn hnc).mono ?_
  rintro e w1 ⟨A1, c1, rfl, ho, hb⟩
  have HB := Lib.hid hb
  rw [HF.out, HFl.out] at ho ⊢
  have I1 := Lib.hid (IntIn.of_own ho)
  have hmc := own_cap ho
  clear ho hb
  go_wp2
  go_loopw [11, 4] (fun kv ov wr => ∃ k : Nat, k ≤ m ∧ kv = .int .i64 k ∧ wr.ownsRow w1.heap.size 3 1 ov (Zs.up (Tr.krTo xs k)).length (ints (Zs.up (Tr.krTo xs k))) ∧ Below w1.heap.size w1 wr) (fun k _ _ => m - (intOf k).toNat)
  case atStart => exact ⟨0, Nat.zero_le _, rfl, own_nil, Below.refl _ _⟩
  case round =>
    obtain ⟨k, hk, rfl, hown, hB⟩ := hrel
    have Ho := Lib.hid hown
    have HB2 := Lib.hid hB
    clear hown hB
    have hsx := HB2.out.size
    by_cases hlt : k < m
    · have hin := HIN.out k hlt
      have hs := HS.out k
      rw [hin] at hs
      have hle := HLe.out k
      obtain ⟨ad, rfl, _, c0⟩ := (I1.out.below HB2.out).at_ hlt
      obtain ⟨x, hx⟩ : ∃ x, x = Zs.at F k := ⟨_, rfl⟩
      rw [← hx] at hs c0
      have b2 : (0 : Int) ≤ (k : Int) := by omega
      have b3 : (k : Int) < (m : Int) := by omega
      have b4 : (k : Int) + 1 ≤ (m : Int) := by omega
      have b5 : (m : Int) ≤ (c1 : Int) := by omega
      have b6 : (0 : Int) ≤ (k : Int) + 1 := by omega
      have b7 : ((k : Int) + 1).toNat = k + 1 := by omega
      have a1 : IntKind.i64.wrap ((k : Int) + 1) = (k : Int) + 1 := Kit.w64 (by omega) (by omega)
      have IC := Lib.hid (((I1.out.to_below HB2.out)).cut (j := k + 1) (m := m - (k + 1)) (by omega))
      have hmk : m - (k + 1) ≤ 1048576 := by omega
      clear hin hx
      cases hd : decide (x ∈ F.drop (k + 1)) with
      | true =>
        rw [hd] at hs
        have Hs := Lib.hid (hs.trans (if_neg (by decide)))
        have Hd := Lib.hid hd
        clear hs hd
        by_cases hc : c1 = k + 1
        · have I0 := Lib.hid (show IntIn wr wr.heap.size (some ad) 0 (F.drop (k + 1)) by
            rw [List.drop_eq_nil_of_le (by rw [HFl.out]; omega)]; exact IntIn.none)
          have hc2 : k + 1 = c1 := hc.symm
          clear hc hmk
          go_wp2_with fail
          refine (slContains_any _ _ _ (F.drop (k + 1)) x _ I0.out (Nat.zero_le _)).mono ?_
          rintro e w3 ⟨rfl, rfl⟩
          rw [Hd.out]
          go_wp2
          go_roundw
          case rel => exact ⟨k + 1, by omega, by go_num, by rw [Hs.out]; exact Ho.out, HB2.out⟩
          case measure => simp [intOf]; omega
        · go_wp2_with fail
          refine (slContains_any _ _ _ (F.drop (k + 1)) x _ IC.out hmk).mono ?_
          rintro e w3 ⟨rfl, rfl⟩
          rw [Hd.out]
          go_wp2
          go_roundw
          case rel => exact ⟨k + 1, by omega, by go_num, by rw [Hs.out]; exact Ho.out, HB2.out⟩
          case measure => simp [intOf]; omega
      | false =>
        rw [hd] at hs
        have Hs := Lib.hid (hs.trans (if_pos rfl))
        have Hd := Lib.hid hd
        clear hs hd
        by_cases hc : c1 = k + 1
        · have I0 := Lib.hid (show IntIn wr wr.heap.size (some ad) 0 (F.drop (k + 1)) by
            rw [List.drop_eq_nil_of_le (by rw [HFl.out]; omega)]; exact IntIn.none)
          have hc2 : k + 1 = c1 := hc.symm
          clear hc hmk
          go_wp2_with fail
          refine (slContains_any _ _ _ (F.drop (k + 1)) x _ I0.out (Nat.zero_le _)).mono ?_
          rintro e w3 ⟨rfl, rfl⟩
          rw [Hd.out]
          go_wp2_with (at_builtin; go_loud (refine append_int wr rfl _ _ 25 rfl w1.heap.size 3 i0 Try.underlying25 Hi.out hz0 hz1 hz2 u4 (Zs.up (Tr.krTo xs k)).length (Zs.up (Tr.krTo xs k)) rfl Ho.out rfl (k : Int) rfl (by rw [Zs.up_length]; omega) hsx ?_); intro v' w3 hown hgrow)
          have hb3 := Kit.below_own HB2.out Ho.out hgrow
          rw [show Zs.up (Tr.krTo xs k) ++ [(k : Int)] = Zs.up (Tr.krTo xs (k + 1)) by rw [Hs.out, Zs.up_append]; rfl] at hown
          go_roundw
          case rel => exact ⟨k + 1, by omega, by go_num, hown, hb3⟩
          case measure => simp [intOf]; omega
        · go_wp2_with fail
          refine (slContains_any _ _ _ (F.drop (k + 1)) x _ IC.out hmk).mono ?_
          rintro e w3 ⟨rfl, rfl⟩
          rw [Hd.out]
          go_wp2_with (at_builtin; go_loud (refine append_int wr rfl _ _ 25 rfl w1.heap.size 3 i0 Try.underlying25 Hi.out hz0 hz1 hz2 u4 (Zs.up (Tr.krTo xs k)).length (Zs.up (Tr.krTo xs k)) rfl Ho.out rfl (k : Int) rfl (by rw [Zs.up_length]; omega) hsx ?_); intro v' w3 hown hgrow)
          have hb3 := Kit.below_own HB2.out Ho.out hgrow
          rw [show Zs.up (Tr.krTo xs k) ++ [(k : Int)] = Zs.up (Tr.krTo xs (k + 1)) by rw [Hs.out, Zs.up_append]; rfl] at hown
          go_roundw
          case rel => exact ⟨k + 1, by omega, by go_num, hown, hb3⟩
          case measure => simp [intOf]; omega
    · obtain rfl : k = m := by omega
      go_wp2
      obtain ⟨A2, c2, rfl⟩ := own_slice Ho.out
      go_ret
      exact ⟨A2, c2, by rw [HK.out]; rfl, by rw [HK.out]; exact own_base Ho.out HB.out.size, HB.out.trans (HB2.out.mono HB.out.size)⟩

end Go.Proofs.Ytkccnlcghlkioaa
