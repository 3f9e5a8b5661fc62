/- Contracts (RepI). -/
import Derived.Test.YtpdpkcadolcbmaaRows
import Derived.Test.YtpdpkcadolcbmaaMem
import Derived.Test.YtpdpkcadolcbmaaPart
import Derived.Laws.CopyOwn
import Derived.Deep.RegionHeld3
import Derived.Outline
namespace Go.Proofs.Ytpdpkcadolcbmaa
open Go.RowKit
set_option linter.unusedVariables false

def Rep.row (m k : Nat) (z : Int) : List Int := List.replicate k z ++ List.replicate (m - k) 0
theorem Rep.row_length (m k : Nat) (z : Int) (h : k ≤ m) : (Rep.row m k z).length = m := by simp [Rep.row]; omega
theorem Rep.row_zero (m : Nat) (z : Int) : Rep.row m 0 z = List.replicate m 0 := by simp [Rep.row]
theorem Rep.row_all (m : Nat) (z : Int) : Rep.row m m z = List.replicate m z := by simp [Rep.row]
theorem Rep.splice (m k c : Nat) (z : Int) (h : k + c ≤ m) : Go.splice (ints (Rep.row m k z)) k (ints (List.replicate c z)) = ints (Rep.row m (k + c) z) := by
  have h1 : (ints (Rep.row m k z)).take k = ints (List.replicate k z) := by
    simp only [Rep.row, ints_append]
    rw [List.take_append_of_le_length (by simp [ints])]
    exact List.take_of_length_le (by simp [ints])
  have h2 : (ints (Rep.row m k z)).drop (k + c) = ints (List.replicate (m - (k + c)) 0) := by
    simp only [Rep.row, ints_append]
    rw [List.drop_append]
    simp [ints]
    omega
  have h3 : (ints (List.replicate c z)).length = c := by simp [ints]
  unfold Go.splice
  rw [h3, h1, h2, ← ints_append, ← ints_append, Rep.row, ← List.append_assoc, List.replicate_append_replicate]
theorem own_full {w : World} {base n g : Nat} {e : TypeId} {ys : List Value} (h : w.ownsRow base e 1 (.slice (some ⟨g, 0, none⟩) n n) n ys) : w.heap[g]? = some (.cells ys.toArray e (0, 0)) := by
  rcases h.2 with ⟨h1, _⟩ | ⟨g', cap, cur, hv, _, hh, _, _, hs, ht⟩
  · cases h1
  · injection hv with hA hn hc
    injection hA with hA
    injection hA with hg
    subst hg
    subst hc
    have : cur.toList = ys := by rw [← ht]; exact (List.take_of_length_le (by simp; omega)).symm
    rw [hh, ← this]
theorem own_of_heap {w : World} {base m g : Nat} {e : TypeId} {zs : List Int} (hg : w.heap[g]? = some (.cells (ints zs).toArray e (0, 0))) (hb : base ≤ g) (hl : zs.length = m) (hm : m ≤ maxLen) : w.ownsRow base e 1 (.slice (some ⟨g, 0, none⟩) m m) m (ints zs) := by
  refine ⟨by rw [ints_length, hl]; omega, .inr ⟨g, m, (ints zs).toArray, rfl, hb, hg, Nat.le_refl _, hm, by simp [ints_length, hl], ?_⟩⟩
  rw [List.take_of_length_le (by simp [ints_length, hl])]
theorem Rep.src {w : World} {g m k d j : Nat} {z : Int} {v : Value} (hg : w.heap[g]? = some (.cells (ints (Rep.row m k z)).toArray 3 (0, 0))) (hkm : k ≤ m) (hm : m ≤ 1000) (hdk : d ≤ k) (hj : (ints (List.replicate d z))[j]? = some v) : w.cell? ((⟨g, 0, none⟩ : Addr).add j) = some v := by
  have hjd := (List.getElem?_eq_some_iff.1 hj).1
  rw [ints_length, List.length_replicate] at hjd
  rw [ints_at _ _ (by rw [List.length_replicate]; exact hjd)] at hj
  have h1 := own_of_heap hg (Nat.le_refl _) (Rep.row_length m k z hkm) (by unfold maxLen; omega)
  rw [(IntIn.of_own h1).here (k := j) (by omega), ← hj]
  have h2 : Zs.at (Rep.row m k z) j = z := by simp [Zs.at, Rep.row, List.getD_eq_getElem?_getD, List.getElem?_append, show j < k by omega]
  have h3 : Zs.at (List.replicate d z) j = z := by simp [Zs.at, List.getD_eq_getElem?_getD, hjd]
  rw [h2, h3]
set_option maxHeartbeats 800000 in
set_option maxRecDepth 100000 in
theorem mul_6 (w : World) : Calls Try.prog 59 #[.int .u64 1, .int .u64 6] w fun e w' => e = .returned (.tuple #[.int .u64 0, .int .u64 6]) ∧ w = w' := by
  go_enter Try.func59, Try.ntmps59
  go_wp2
  go_ret2
  exact ⟨rfl, rfl⟩
set_option maxHeartbeats 800000 in
set_option maxRecDepth 100000 in
theorem mul_36 (w : World) : Calls Try.prog 59 #[.int .u64 1, .int .u64 36] w fun e w' => e = .returned (.tuple #[.int .u64 0, .int .u64 36]) ∧ w = w' := by
  go_enter Try.func59, Try.ntmps59
  go_wp2
  go_ret2
  exact ⟨rfl, rfl⟩
theorem info_intR : (Try.prog.info? 3).map (fun i => (i.zero, i.size, i.bytes)) = some (some (.int .i64 0), 1, 8) := by kernel_rfl
theorem size_intR : (Try.prog.info? 3).map (·.size) = some 1 := by kernel_rfl
set_option maxHeartbeats 1600000 in
set_option maxRecDepth 100000 in
theorem repeat_one (A : Option Addr) (c m : Nat) (z : Int) (w : World) (h : IntIn w w.heap.size A 1 [z]) (hm0 : 1 ≤ m) (hm : m ≤ 1000)
    (hmul : ∀ w, Calls Try.prog 59 #[.int .u64 1, .int .u64 m] w fun e w' => e = .returned (.tuple #[.int .u64 0, .int .u64 m]) ∧ w = w') :
    Calls Try.prog 43 #[.slice A 1 c, .int .i64 m] w fun e w' => e = .returned (.slice (some ⟨w.heap.size, 0, none⟩) m m) ∧ w'.ownsRow w.heap.size 3 1 (.slice (some ⟨w.heap.size, 0, none⟩) m m) m (ints (List.replicate m z)) ∧ Below w.heap.size w w' := by
  have H := Lib.hid h
  obtain ⟨ad, rfl, _, hz⟩ := h.at_ (k := 0) (by omega)
  have HZ := Lib.hid hz
  clear h hz
  have HM := Lib.hid hmul
  clear hmul
  obtain ⟨i0, hi, hz0, hz1, hz2⟩ := info_parts info_intR
  have Hi := Lib.hid hi
  clear hi
  obtain ⟨g, hg⟩ : ∃ g, g = w.heap.size := ⟨_, rfl⟩
  have q1 : decide ((m : Int) < 0) = false := by simp
  go_enter Try.func43, Try.ntmps43
  go_wp2_with fail
  refine (HM.out _).mono ?_
  rintro e w' ⟨rfl, rfl⟩
  have q2 : decide (9223372036854775807 < (m : Int)) = false := by simp; omega
  obtain ⟨C1, hC1⟩ : ∃ C, C = ints (List.replicate 1 z) := ⟨_, rfl⟩
  have hl1 : C1.length = 1 := by rw [hC1]; simp [ints]
  have HC1 := Lib.hid hC1
  clear hC1
  go_wp2_with (first | (at_make; go_loud (refine wpList_make_full _ rfl _ _ 24 rfl w.heap.size 3 i0 (.int .i64 0) 1 Try.underlying24 Hi.out hz0 hz1 _ _ _ _ m rfl rfl rfl rfl (by rw [hz2]; omega) (by unfold maxLen; omega) (Nat.le_refl _) ?_); intro w2 hown2 hgrow2; have hb2 : Below w.heap.size w w2 := (Below.refl _ w).grown hgrow2 (Nat.le_refl _) (fun _ h => by cases h); rw [made_zeros 0 m, ← Rep.row_zero m z] at hown2; have HG := Lib.hid (own_full hown2); have HB := Lib.hid hb2; clear hown2 hgrow2 hb2) | (refine wpList_copy_splice rfl _ _ 24 24 rfl 3 Try.underlying24 size_intR _ _ _ _ _ _ rfl rfl w.heap.size 0 (ints (Rep.row m 0 z)) 3 HG.out C1 (by rw [hl1]; exact (Nat.min_eq_left hm0).symm) (fun _ => ⟨rfl, _, rfl, fun j v hj => (H.out.below HB.out).cells_at j v (by rw [HC1.out] at hj; exact hj)⟩) (by rw [hl1, ints_length, Rep.row_length m 0 z (Nat.zero_le _)]; omega) (by rw [HC1.out]; exact ints_cell _) w.heap.size w HB.out (Nat.le_refl _) ?_; intro w3 hg3 hb3; rw [HC1.out, Rep.splice m 0 1 z (by omega)] at hg3; have HG3 := hg3; have HB3 := Lib.hid hb3; clear hg3 hb3))
  clear HG HB
  go_loopw [8] (fun nv wr => ∃ k : Nat, 1 ≤ k ∧ k ≤ m ∧ nv = .int .i64 k ∧ Hid (wr.heap[w.heap.size]? = some (.cells (ints (Rep.row m k z)).toArray 3 (0, 0))) ∧ Below w.heap.size w wr) (fun n _ => m - (intOf n).toNat)
  case atStart => exact ⟨1, Nat.le_refl _, hm0, rfl, HG3, HB3.out⟩
  case round =>
    obtain ⟨k, hk1, hkm, rfl, HG, hB⟩ := hrel
    have HB := Lib.hid hB
    clear hB HG3 HB3
    by_cases hlt : k < m
    · obtain ⟨d, hd⟩ : ∃ d, d = min k (m - k) := ⟨_, rfl⟩
      obtain ⟨C, hC⟩ : ∃ C, C = ints (List.replicate d z) := ⟨_, rfl⟩
      have hl : C.length = d := by rw [hC]; simp [ints]
      have HC := Lib.hid hC
      have HD := Lib.hid hd
      have hdk : k + d ≤ m := by omega
      have hd1 : 1 ≤ d := by omega
      clear hC hd
      have HS := Lib.hid (show IntKind.i64.wrap ((k : Int) + (d : Int)) = ((k + d : Nat) : Int) by rw [Kit.w64 (by omega) (by omega)]; omega)
      have k1 : (k : Int) < (m : Int) := by omega
      have hmk : ¬ m = k := by omega
      have k2 : (0 : Int) ≤ (k : Int) := by omega
      go_wp2
      go_region_held3 (fun _ => True) (trivial) (((refine step_copy_splice rfl _ _ 24 24 rfl 3 Try.underlying24 size_intR _ _ _ _ _ _ rfl rfl w.heap.size k (ints (Rep.row m k z)) 3 HG.out C (by rw [hl, HD.out]) (fun _ => ⟨by (first | rfl | (rw [if_neg hmk])), _, rfl, fun j v hj => Rep.src (d := d) (w := wr) HG.out hkm hm (by rw [HD.out]; exact Nat.min_le_left _ _) (by rw [HC.out] at hj; exact hj)⟩) (by rw [hl, ints_length, Rep.row_length m k z hkm]; exact hdk) (by rw [HC.out]; exact ints_cell _) w.heap.size w HB.out.drew (Nat.le_refl _) ?_); intro w4 hg4 hb4))
      go_wp2
      rw [HC.out, Rep.splice m k d z hdk] at hg4
      rw [HS.out]
      go_roundw
      case rel => exact ⟨k + d, by omega, hdk, rfl, hg4, hb4⟩
      case measure => simp [intOf]; omega
    · obtain rfl : k = m := by omega
      go_wp2
      go_ret
      refine ⟨rfl, ?_, HB.out⟩
      have := own_of_heap HG.out (Nat.le_refl _) (Rep.row_length k k z (Nat.le_refl _)) (by unfold maxLen; omega)
      rw [Rep.row_all] at this
      exact this

end Go.Proofs.Ytpdpkcadolcbmaa
