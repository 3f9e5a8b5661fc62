/- Contracts (RankS). -/
import Derived.Test.YtkccnlcghlkioaaPst2
import Derived.Test.YtkccnlcghlkioaaPostS
namespace Go.Proofs.Ytkccnlcghlkioaa
open Go.RowKit
set_option linter.unusedVariables false

theorem made_ints (z n : Nat) : (madeCells (Value.int .i64 0).cells (n * 1)).toList = ints (List.replicate n 0) := by
  unfold madeCells ints
  refine List.ext_getElem (by simp) fun k h1 h2 => ?_
  simp at h1 h2 ⊢
  show (#[Value.int .i64 0] : Array Value)[k % 1]! = _
  rw [Nat.mod_one]
  rfl
set_option maxHeartbeats 1600000 in
set_option maxRecDepth 100000 in
theorem specRankOf_any (A : Option Addr) (n c : Nat) (xs : Tr) (w : World) (h : NdIn w w.heap.size A n xs) (hn : n ≤ 1048576) :
    Calls Try.prog 82 #[.slice A n c] w (OwnInts 3 (Zs.up (Tr.rks xs)) w) := by
  have H := Lib.hid h
  clear h
  have HB := Lib.hid (Below.refl w.heap.size w)
  obtain ⟨i0, hi, hz0, hz1, hz2⟩ := info_parts info_intP
  have Hi := Lib.hid hi
  clear hi
  have hml := Tr.post_len_le xs
  rw [H.out.1] at hml
  obtain ⟨m, hm⟩ : ∃ m, m = (Tr.post xs).length := ⟨_, rfl⟩
  have HM := Lib.hid hm
  rw [← hm] at hml
  have HS := Lib.hid (fun i k => Tr.rkTo_set (xs := xs) (i := i) (k := k))
  have HP := Lib.hid (fun k => Tr.post_at (xs := xs) (k := k))
  clear hm
  go_enter Try.func82, Try.ntmps82
  go_wp2_with fail
  refine (specPostOrder_any _ _ _ xs _ H.out hn).mono ?_
  rintro e w1 ⟨A1, c1, rfl, ho, hb⟩
  have hsx := HB.out.size
  have HB := Lib.hid (HB.out.trans (hb.mono hsx))
  have I1 := Lib.hid (IntIn.of_own ho)
  clear ho hsx
  clear hb
  rw [Zs.up_length, ← HM.out] at I1 ⊢
  have hsx := HB.out.size
  go_wp2_with (at_make; go_loud (refine wpList_make_full _ rfl _ _ 25 rfl w1.heap.size 3 i0 (.int .i64 0) 1 Try.underlying25 Hi.out hz0 hz1 _ _ _ _ m rfl rfl rfl rfl (by rw [hz2]; omega) (by unfold maxLen; omega) (Nat.le_refl _) ?_); intro w2 hown2 hgrow2)
  have hb2 : Below w1.heap.size w1 w2 := (Below.refl _ w1).grown hgrow2 (Nat.le_refl _) (fun _ h => by cases h)
  rw [made_ints 0, show List.replicate m (0 : Int) = Zs.up (Tr.rkTo xs 0) by rw [Tr.rkTo_zero, ← HM.out]; simp [Zs.up]] at hown2
  have HO2 := Lib.hid hown2
  have HB2 := Lib.hid hb2
  clear hown2 hgrow2 hb2
  go_wp2
  go_loopw [5] (fun kv wr => ∃ k : Nat, k ≤ m ∧ kv = .int .i64 k ∧ wr.ownsRow w1.heap.size 3 1 (.slice (some ⟨w1.heap.size, 0, none⟩) m m) m (ints (Zs.up (Tr.rkTo xs k))) ∧ Below w1.heap.size w1 wr) (fun k _ => m - (intOf k).toNat)
  case atStart => exact ⟨0, Nat.zero_le _, rfl, HO2.out, HB2.out⟩
  case round =>
    clear HO2 HB2
    obtain ⟨k, hk, rfl, hown, hB⟩ := hrel
    have Ho := Lib.hid hown
    have HB2 := Lib.hid hB
    clear hown hB
    by_cases hlt : k < m
    · obtain ⟨i, p1, p2, p3, p4, p5⟩ := HP.out k (by rw [← HM.out]; exact hlt)
      rw [← HM.out] at p1
      have hset := HS.out i k (by rw [← HM.out]; exact p1) p3
      obtain ⟨ad, rfl, _, c1⟩ := (I1.out.below HB2.out).at_ hlt
      have hz : Zs.at (Zs.up (Tr.post xs)) k = (i : Int) := by simp [Zs.at, Zs.up, List.getD_eq_getElem?_getD, p2]
      rw [hz] at c1
      have c0 := own_int Ho.out (k := i) (by rw [Zs.up_length, Tr.rkTo_length, ← HM.out]; exact p1)
      have f0 := Ho.out.frozenAt i
      have b0 : (0 : Int) ≤ (i : Int) := by omega
      have b1 : (i : Int) < (m : Int) := by omega
      have b2 : (0 : Int) ≤ (k : Int) := by omega
      have b3 : (k : Int) < (m : Int) := by omega
      have Hset := Lib.hid hset
      clear p2 p3 p4 p5 hset hz
      go_wp2
      go_roundw
      case rel =>
        refine ⟨k + 1, by omega, by go_num, ?_, HB2.out.setCell (Nat.le_refl _) _⟩
        have := (Ho.out.stored i (.int .i64 (k : Int))).1
        rw [ints_set] at this
        rw [← Hset.out, Zs.up, List.map_set]
        exact this
      case measure => simp [intOf]; omega
    · obtain rfl : k = m := by omega
      have Hall := Lib.hid (show Tr.rkTo xs k = Tr.rks xs by rw [HM.out]; exact Tr.rkTo_all xs)
      rw [Hall.out] at Ho
      have Hl := Lib.hid (show (Zs.up (Tr.rks xs)).length = k by rw [Zs.up_length, Tr.rks_length]; exact HM.out.symm)
      go_wp2
      go_ret
      exact ⟨some ⟨w1.heap.size, 0, none⟩, k, by rw [Hl.out]; rfl, by rw [Hl.out]; exact own_base Ho.out hsx, HB.out.trans (HB2.out.mono hsx)⟩

end Go.Proofs.Ytkccnlcghlkioaa
