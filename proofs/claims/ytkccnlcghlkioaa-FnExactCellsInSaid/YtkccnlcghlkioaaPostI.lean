/- Contracts (PostI). -/
import Derived.Test.YtkccnlcghlkioaaRankI
namespace Go.Proofs.Ytkccnlcghlkioaa
open Go.RowKit
set_option linter.unusedVariables false

/-- the nodes that are known when k ranks are done -/
def Tr.postTo (xs : Tr) (k : Nat) : List Nat := (Tr.post xs).map fun i => if i < k then i else 0
theorem Tr.postTo_length (xs : Tr) (k : Nat) : (Tr.postTo xs k).length = (Tr.post xs).length := by simp [Tr.postTo]
theorem Tr.postTo_zero (xs : Tr) : Tr.postTo xs 0 = List.replicate (Tr.post xs).length 0 := by
  unfold Tr.postTo
  refine List.ext_getElem (by simp) fun i h1 h2 => by simp
theorem Tr.post_mem {xs : Tr} {j : Nat} (hj : j < (Tr.post xs).length) : (Tr.post xs)[j] < (Tr.post xs).length := by
  obtain ⟨i, h1, h2, h3, h4, h5⟩ := Tr.post_at hj
  rw [List.getElem?_eq_getElem hj] at h2
  injection h2 with h2
  omega
theorem Tr.postTo_all (xs : Tr) : Tr.postTo xs (Tr.post xs).length = Tr.post xs := by
  unfold Tr.postTo
  refine List.ext_getElem (by simp) fun j h1 h2 => ?_
  rw [List.getElem_map, if_pos (Tr.post_mem h2)]
theorem Tr.postTo_set {xs : Tr} {k : Nat} (hk : k < (Tr.post xs).length) : (Tr.postTo xs k).set (Tr.rk xs k) k = Tr.postTo xs (k + 1) := by
  obtain ⟨hok, hl⟩ := Tr.post_ok hk
  have hp := Tr.post_rk hok (j := k) (by omega)
  unfold Tr.postTo
  refine List.ext_getElem (by simp) fun j h1 h2 => ?_
  simp only [List.length_map] at h2
  by_cases e : Tr.rk xs k = j
  · subst e
    rw [List.getElem?_eq_getElem h2] at hp
    injection hp with hp
    simp [hp]
  · rw [List.getElem_set_ne e]
    simp only [List.getElem_map]
    obtain ⟨i, h3, h4, h5, _⟩ := Tr.post_at h2
    rw [List.getElem?_eq_getElem h2] at h4
    injection h4 with h4
    have hne : (Tr.post xs)[j] ≠ k := fun q => e (by rw [← h5, ← h4, q])
    by_cases q : (Tr.post xs)[j] < k
    · rw [if_pos q, if_pos (by omega)]
    · rw [if_neg q, if_neg (by omega)]
theorem Tr.rks_get {xs : Tr} {k : Nat} (hk : k < (Tr.post xs).length) : Zs.at (Zs.up (Tr.rks xs)) k = (Tr.rk xs k : Nat) ∧ Tr.rk xs k < (Tr.post xs).length := by
  obtain ⟨hok, hl⟩ := Tr.post_ok hk
  exact ⟨Tr.rks_val hok (by omega), by rw [hl]; exact Tr.rk_lt hok (by omega)⟩
theorem Zs.up_set (l : List Nat) (k a : Nat) : (Zs.up l).set k (a : Int) = Zs.up (l.set k a) := by simp [Zs.up, List.map_set]
set_option maxHeartbeats 1600000 in
set_option maxRecDepth 100000 in
theorem implPostOrder_any (A : Option Addr) (n c : Nat) (xs : Tr) (w : World) (h : NdIn w w.heap.size A n xs) (hn : n ≤ 1048576) (hnc : n ≤ c) :
    Calls Try.prog 89 #[.slice A n c] w (OwnInts 3 (Zs.up (Tr.post xs)) w) := by
  have H := Lib.hid h
  clear h
  have hml := Tr.post_len_le xs
  rw [H.out.1] at hml
  obtain ⟨m, hm⟩ : ∃ m, m = (Tr.post xs).length := ⟨_, rfl⟩
  have HM := Lib.hid hm
  have HRL := Lib.hid (show (Zs.up (Tr.rks xs)).length = m by rw [Zs.up_length, Tr.rks_length, hm])
  have HS := Lib.hid (fun k (hk : k < m) => Tr.postTo_set (xs := xs) (k := k) (by rw [← hm]; exact hk))
  have HR := Lib.hid (fun k (hk : k < m) => Tr.rks_get (xs := xs) (k := k) (by rw [← hm]; exact hk))
  rw [← hm] at hml
  clear hm
  obtain ⟨i0, hi, hz0, hz1, hz2⟩ := info_parts info_intZ
  have Hi := Lib.hid hi
  clear hi
  go_enter Try.func89, Try.ntmps89
  go_wp2_with fail
  refine (implRankOf_any _ _ _ xs _ H.out hn hnc).mono ?_
  rintro e w1 ⟨A1, c1, rfl, ho, hb⟩
  have HB := Lib.hid hb
  have I1 := Lib.hid (IntIn.of_own ho)
  clear ho hb
  rw [HRL.out] at I1 ⊢
  have HZ0 := Lib.hid (show List.replicate m (0 : Int) = Zs.up (Tr.postTo xs 0) by rw [Tr.postTo_zero, ← HM.out]; simp [Zs.up])
  go_wp2_with (at_make; go_loud (refine wpList_make_full _ rfl _ _ 25 rfl w1.heap.size 3 i0 (.int .i64 0) 1 Try.underlying25 Hi.out hz0 hz1 _ _ _ _ m rfl rfl rfl rfl (by rw [hz2]; omega) (by unfold maxLen; omega) (Nat.le_refl _) ?_); intro w2 hown2 hgrow2)
  have hb2 : Below w1.heap.size w1 w2 := (Below.refl _ w1).grown hgrow2 (Nat.le_refl _) (fun _ h => by cases h)
  rw [made_zeros 0 m, HZ0.out] at hown2
  have HO2 := Lib.hid hown2
  have HB2 := Lib.hid hb2
  clear hown2 hgrow2 hb2
  go_wp2
  go_loopw [14] (fun kv wr => ∃ k : Nat, k ≤ m ∧ kv = .int .i64 k ∧ wr.ownsRow w1.heap.size 3 1 (.slice (some ⟨w1.heap.size, 0, none⟩) m m) m (ints (Zs.up (Tr.postTo xs k))) ∧ Below w1.heap.size w1 wr) (fun k _ => m - (intOf k).toNat)
  case atStart => exact ⟨0, Nat.zero_le _, rfl, HO2.out, HB2.out⟩
  case round =>
    clear HO2 HB2
    obtain ⟨k, hk, rfl, hown, hB⟩ := hrel
    have Ho := Lib.hid hown
    have HB2 := Lib.hid hB
    clear hown hB
    by_cases hlt : k < m
    · obtain ⟨hr1, hr2⟩ := HR.out k hlt
      have hset := HS.out k hlt
      rw [← HM.out] at hr2
      obtain ⟨ad, rfl, _, c1⟩ := (I1.out.below HB2.out).at_ hlt
      rw [hr1] at c1
      obtain ⟨p, hp⟩ : ∃ p, p = Tr.rk xs k := ⟨_, rfl⟩
      rw [← hp] at hr2 c1 hset
      have c0 := own_int Ho.out (k := p) (by rw [Zs.up_length, Tr.postTo_length, ← HM.out]; exact hr2)
      have f0 := Ho.out.frozenAt p
      have b0 : (0 : Int) ≤ (p : Int) := by omega
      have b1 : (p : Int) < (m : Int) := by omega
      have b2 : (0 : Int) ≤ (k : Int) := by omega
      have b3 : (k : Int) < (m : Int) := by omega
      have Hset := Lib.hid hset
      clear hset hr1 hr2 hp
      go_wp2
      go_roundw
      case rel =>
        refine ⟨k + 1, by omega, by go_num, ?_, HB2.out.setCell (Nat.le_refl _) _⟩
        have := (Ho.out.stored p (.int .i64 (k : Int))).1
        rw [ints_set, Zs.up_set, Hset.out] at this
        exact this
      case measure => simp [intOf]; omega
    · obtain rfl : k = m := by omega
      have Hf := Lib.hid (show Tr.postTo xs k = Tr.post xs by rw [HM.out]; exact Tr.postTo_all xs)
      rw [Hf.out] at Ho
      go_wp2
      go_ret
      exact ⟨_, _, by rw [Zs.up_length, ← HM.out]; rfl, by rw [Zs.up_length, ← HM.out]; exact own_base Ho.out HB.out.size, HB.out.trans (HB2.out.mono HB.out.size)⟩

end Go.Proofs.Ytkccnlcghlkioaa
