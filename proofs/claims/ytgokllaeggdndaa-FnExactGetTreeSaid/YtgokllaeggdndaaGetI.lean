/- Contracts (GetI). -/
import Derived.Test.YtgokllaeggdndaaNodeI
import Derived.Test.YtgokllaeggdndaaMem2
import Derived.Outline
namespace Go.Proofs.Ytgokllaeggdndaa
open Go.RowKit
set_option linter.unusedVariables false

theorem info_ndI : (Try.prog.info? 43).map (fun i => (i.zero, i.size, i.bytes)) = some (some (.agg #[.int .i64 0, .int .i64 0]), 2, 16) := by kernel_rfl

set_option maxHeartbeats 1600000 in
set_option maxRecDepth 100000 in
theorem implGetTree_any (s : ByteArray) (hs : s.size ≤ maxLen) (w : World) :
    Calls Try.prog 37 #[.string s] w (OwnNodes2 43 (Tr.get s) w) := by
  have hs' : s.size ≤ 9223372036854775807 := hs
  have Hs := Lib.hid hs
  clear hs
  obtain ⟨i0, hi, hz0, hz1, hz2⟩ := info_parts info_ndI
  have Hi := Lib.hid hi
  clear hi
  have hk0 := Num.rvK_le s
  obtain ⟨K, hK⟩ : ∃ K, K = Num.rvK s := ⟨_, rfl⟩
  obtain ⟨N, hN⟩ : ∃ N, N = Num.rvN s := ⟨_, rfl⟩
  have HK := Lib.hid hK
  have HN := Lib.hid hN
  have g1 := Tr.get_n1 (s := s)
  have g2 := Tr.get_n2 (s := s)
  have g3 := Tr.get_y (s := s)
  rw [← hK] at hk0 g1 g2 g3
  rw [← hN] at g2 g3
  clear hK hN
  by_cases h1 : K = 0
  · have Hres := Lib.hid (g1 h1)
    have e1 : ((K : Int) == 0) = true := by rw [h1]; rfl
    clear h1 g1 g2 g3
    go_enter Try.func37, Try.ntmps37
    go_wp2_with fail
    refine (implReadVar_any s Hs.out _).mono ?_
    rintro e w1 ⟨rfl, hb⟩
    have HB := Lib.hid hb
    clear hb
    rw [← HN.out, ← HK.out]
    go_wp2
    go_ret2
    exact ⟨none, 0, by rw [Hres.out]; rfl, by rw [Hres.out]; exact own_nil, HB.out⟩
  · have e1 : ((K : Int) == 0) = false := beq_eq_false_iff_ne.2 (by omega)
    by_cases h2 : 1 ≤ N
    · have e2 : decide ((N : Int) < 1) = false := by simp; omega
      by_cases h3 : N ≤ 24
      · have e3 : decide ((24 : Int) < (N : Int)) = false := by simp; omega
        have HG := Lib.hid (g3 h1 ⟨h2, h3⟩)
        have hks : (K : Int) ≤ (s.size : Int) := by omega
        have hks' : K ≤ s.size := by omega
        clear h1 g1 g2 g3
        go_enter Try.func37, Try.ntmps37
        go_wp2_with fail
        refine (implReadVar_any s Hs.out _).mono ?_
        rintro e w1 ⟨rfl, hb⟩
        have HB := Lib.hid hb
        clear hb
        rw [← HN.out, ← HK.out]
        go_wp2
        go_loopw [27, 6, 0] (fun iv lv sv wr => ∃ (k : Nat) (t : ByteArray) (xs : Tr), k ≤ N ∧ iv = .int .i64 k ∧ sv = .string t ∧ t.size ≤ 9223372036854775807 ∧ xs.length = k ∧ wr.ownsRow w.heap.size 43 2 lv k (Tr.cells xs) ∧ (0 < k → 0 ≤ Tr.d xs (k - 1) ∧ Tr.d xs (k - 1) ≤ 12) ∧ Tr.get s = Tr.getB (N - k) t xs ∧ Below w.heap.size w wr) (fun i _ _ _ => N - (intOf i).toNat)
        case atStart => exact ⟨0, Num.rest s K, [], Nat.zero_le _, rfl, rfl, by rw [Num.rest_size]; omega, rfl, own_nil, fun h => absurd h (by omega), HG.out, HB.out⟩
        case round =>
          clear HB
          obtain ⟨k, t, xs, hk, rfl, rfl, ht, hlen, hown, hbd, hI, hB⟩ := hrel
          have HL := Lib.hid hlen
          have Ho := Lib.hid hown
          have HB := Lib.hid hB
          have HI := Lib.hid hI
          have Hbd := Lib.hid hbd
          clear hlen hown hB hI hbd
          obtain ⟨A', c', rfl⟩ := own_slice Ho.out
          by_cases hlt : k < N
          · have HI' := HI.out
            rw [show N - k = (N - k - 1) + 1 by omega] at HI'
            rcases Tr.node_cases t xs with ⟨code, hnode, hc1, hc5⟩ | ⟨l, d, u, hnode, hu, hl, hd⟩
            · have Hres := Lib.hid (HI'.trans (Tr.getB_no hnode hc1))
              have Hnode := Lib.hid hnode
              have f1 : (code == 0) = false := beq_eq_false_iff_ne.2 (by omega)
              have f2 : (code != 0) = true := by simp; omega
              clear HI' hnode
              go_wp2_with fail
              refine (getNode_any t A' k c' xs wr (by unfold maxLen; omega) (NdIn.of_own Ho.out) (by omega) Hbd.out).mono ?_
              rintro e w4 ⟨rfl, hb⟩
              have Ho := Lib.hid (own_below Ho.out hb)
              have HB := Lib.hid (HB.out.trans (hb.mono HB.out.size))
              clear hb
              rw [Hnode.out]
              have HB := Lib.hid (HB.out.alloc HB.out.size (.cells #[.int .i64 0, .int .i64 0] 43))
              go_wp2
              go_ret2
              exact ⟨none, 0, by rw [Hres.out]; rfl, by rw [Hres.out]; exact own_nil, HB.out⟩
            · have Hres := Lib.hid (HI'.trans (Tr.getB_yes (r := N - k - 1) hnode))
              have Hnode := Lib.hid hnode
              have hus : (u : Int) ≤ (t.size : Int) := by omega
              clear HI' hnode
              go_wp2_with fail
              refine (getNode_any t A' k c' xs wr (by unfold maxLen; omega) (NdIn.of_own Ho.out) (by omega) Hbd.out).mono ?_
              rintro e w4 ⟨rfl, hb⟩
              have Ho := Lib.hid (own_below Ho.out hb)
              have HB := Lib.hid (HB.out.trans (hb.mono HB.out.size))
              clear hb
              rw [Hnode.out]
              have hsx := HB.out.size
              have Ho := Lib.hid (World.ownsRow.alloc Ho.out (.cells #[.int .i64 l, .int .i64 d] 43))
              have HB := Lib.hid (HB.out.alloc hsx (.cells #[.int .i64 l, .int .i64 d] 43))
              have hsz := HB.out.size
              have hs1 : (w4.alloc (.cells #[.int .i64 l, .int .i64 d] 43)).heap.size = w4.heap.size + 1 := by simp
              go_wp2_with (at_builtin; go_loud (refine append_node (w4.alloc (.cells #[.int .i64 l, .int .i64 d] 43)) rfl _ _ 25 rfl w.heap.size 43 i0 Try.underlying25 Hi.out hz0 hz1 hz2 (.slice A' k c') k xs rfl Ho.out HL.out.symm l d (by rw [hs1]; rfl) (by rw [HL.out]; omega) hsz ?_); intro v' w6 hown hgrow)
              have hb6 := Kit.below_own HB.out Ho.out hgrow
              rw [List.length_append, HL.out] at hown
              go_roundw
              case rel => exact ⟨k + 1, Num.rest t u, xs ++ [(l, d)], by omega, by go_num, rfl, by rw [Num.rest_size]; omega, by simp [HL.out], hown, fun _ => by rw [Tr.d_last _ _ _ HL.out]; exact hd, by rw [Hres.out, show N - k - 1 = N - (k + 1) by omega], hb6⟩
              case measure => simp [intOf]; omega
          · obtain rfl : k = N := by omega
            by_cases h1 : t.size = 0
            · obtain rfl : t = ⟨#[]⟩ := by
                have := ByteArray.size_eq_zero_iff.1 h1
                rw [this]; rfl
              have Hres := Lib.hid (show Tr.get s = (xs, 0) by
                rw [HI.out, Nat.sub_self]; exact Tr.getB_end h1)
              clear h1
              go_wp2
              go_ret2
              exact ⟨A', c', by rw [Hres.out]; show _ = Ending.returned (.tuple #[.slice A' xs.length c', _]); rw [HL.out]; rfl, by rw [Hres.out]; show World.ownsRow _ _ _ _ (.slice A' xs.length c') xs.length _; rw [HL.out]; exact Ho.out, HB.out⟩
            · have f1 : t.toList.isEmpty = false := by
                rw [ByteArray.toList_eq, List.isEmpty_eq_false_iff]
                intro e
                exact h1 (by show t.data.size = 0; rw [← Array.length_toList, e]; rfl)
              have Hres := Lib.hid (show Tr.get s = ([], 6) by
                rw [HI.out, Nat.sub_self]; exact Tr.getB_left h1)
              clear h1
              go_wp2
              go_ret2
              exact ⟨none, 0, by rw [Hres.out]; rfl, by rw [Hres.out]; exact own_nil, HB.out⟩
      · have e3 : decide ((24 : Int) < (N : Int)) = true := by simp; omega
        have Hres := Lib.hid (g2 h1 (by omega))
        clear h1 g1 g2 g3
        go_enter Try.func37, Try.ntmps37
        go_wp2_with fail
        refine (implReadVar_any s Hs.out _).mono ?_
        rintro e w1 ⟨rfl, hb⟩
        have HB := Lib.hid hb
        clear hb
        rw [← HN.out, ← HK.out]
        go_wp2
        go_ret2
        exact ⟨none, 0, by rw [Hres.out]; rfl, by rw [Hres.out]; exact own_nil, HB.out⟩
    · have e2 : decide ((N : Int) < 1) = true := by simp; omega
      have Hres := Lib.hid (g2 h1 (by omega))
      clear h1 g1 g2 g3
      go_enter Try.func37, Try.ntmps37
      go_wp2_with fail
      refine (implReadVar_any s Hs.out _).mono ?_
      rintro e w1 ⟨rfl, hb⟩
      have HB := Lib.hid hb
      clear hb
      rw [← HN.out, ← HK.out]
      go_wp2
      go_ret2
      exact ⟨none, 0, by rw [Hres.out]; rfl, by rw [Hres.out]; exact own_nil, HB.out⟩

end Go.Proofs.Ytgokllaeggdndaa
