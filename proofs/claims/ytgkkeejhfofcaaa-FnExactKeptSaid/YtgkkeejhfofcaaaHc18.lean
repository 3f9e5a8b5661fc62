/- Texts of one claim laid into one file, in build order: NdPt, UnI, KepI, NdTo, NdSm, NdEq. -/
import Derived.Test.YtgkkeejhfofcaaaHc1
import Derived.Test.YtgkkeejhfofcaaaHc11
import Derived.Test.YtgkkeejhfofcaaaHc13
import Derived.Test.YtgkkeejhfofcaaaHc17
import Derived.Test.YtgkkeejhfofcaaaHc3
import Derived.Test.YtgkkeejhfofcaaaHc8
import Derived.Laws.Entries
import Derived.Laws.MakeOwn
import Derived.Outline
import Derived.StillTailTactics
import Derived.Test.YtgkkeejhfofcaaaRows
/- Lists of which the first part is laid (NdPt). -/
namespace Go.Proofs.Ytgkkeejhfofcaaa
open Go.RowKit
set_option linter.unusedVariables false

/-- the first k nodes of xs, then zeros -/
def Tr.part (xs : Tr) (k : Nat) : Tr := xs.take k ++ List.replicate (xs.length - k) (0, 0)
theorem Tr.part_length (xs : Tr) (k : Nat) (hk : k ≤ xs.length) : (Tr.part xs k).length = xs.length := by simp [Tr.part]; omega
theorem Tr.part_set (xs : Tr) (k : Nat) (hk : k < xs.length) : (Tr.part xs k).set k (Tr.l xs k, Tr.d xs k) = Tr.part xs (k + 1) := by
  unfold Tr.part
  rw [List.set_append_right _ _ (by simp; omega)]
  rw [List.take_succ_eq_append_getElem hk, List.append_assoc]
  congr 1
  rw [show xs.length - k = (xs.length - (k + 1)) + 1 by omega, List.replicate_succ]
  simp [Tr.l, Tr.d, List.getD_eq_getElem?_getD, hk, show k - min k xs.length = 0 by omega]
theorem Tr.part_full (xs : Tr) : Tr.part xs xs.length = xs := by simp [Tr.part]
theorem Tr.part_none (xs : Tr) : Tr.part xs 0 = List.replicate xs.length (0, 0) := by simp [Tr.part]

theorem made_nodes (n : Nat) : (madeCells (Value.agg #[.int .i64 0, .int .i64 0]).cells (n * 2)).toList = Tr.cells (List.replicate n (0, 0)) := by
  have h1 (m : Nat) : Tr.cells (List.replicate m (0, 0)) = List.replicate (m * 2) (.int .i64 0) := by
    induction m with
    | zero => rfl
    | succ m ih => rw [List.replicate_succ, show (m + 1) * 2 = m * 2 + 1 + 1 by omega, List.replicate_succ, List.replicate_succ, ← ih]; rfl
  rw [h1]
  apply List.ext_getElem?
  intro j
  by_cases hj : j < n * 2
  · have h2 : j % 2 = 0 ∨ j % 2 = 1 := by omega
    rcases h2 with h2 | h2 <;> simp [madeCells, hj, h2, Value.cells]
  · simp [madeCells, hj]

end Go.Proofs.Ytgkkeejhfofcaaa

/- Contracts (UnI). -/
namespace Go.Proofs.Ytgkkeejhfofcaaa
open Go.RowKit
set_option linter.unusedVariables false

theorem info_itUI : (Try.prog.info? 3).map (fun i => (i.zero, i.size, i.bytes)) = some (some (.int .i64 0), 1, 8) := by kernel_rfl
theorem info_blUI : (Try.prog.info? 4).map (fun i => (i.zero, i.size, i.bytes)) = some (some (.bool false), 1, 1) := by kernel_rfl
theorem made_bools (n : Nat) : (madeCells (Value.bool false).cells (n * 1)).toList = bools (fun _ => false) n := by
  unfold madeCells bools
  refine List.ext_getElem (by simp) fun k h1 h2 => ?_
  simp at h1 h2 ⊢
  show (#[Value.bool false] : Array Value)[k % 1]! = _
  rw [Nat.mod_one]
  rfl
theorem own_bool {w : World} {base g n c : Nat} {e : TypeId} {f : Nat → Bool} (h : w.ownsRow base e 1 (.slice (some ⟨g, 0, none⟩) n c) n (bools f n)) {k : Nat} (hk : k < n) : w.cell? ⟨g, k, none⟩ = some (.bool (f k)) := by
  rw [h.cellAt _ (by omega), bools_at _ hk]
set_option maxHeartbeats 800000 in
set_option maxRecDepth 100000 in
theorem implUnmapped_any (A A' : Option Addr) (n n' c c' : Nat) (xs ms : Tr) (w : World) (h : NdIn w w.heap.size A n xs) (h' : NdIn w w.heap.size A' n' ms) (hn : n ≤ 1048576) (hn' : n' ≤ 1048576) :
    Calls Try.prog 103 #[.slice A n c, .slice A' n' c'] w (OwnInts 3 (Un.to ms xs.length) w) := by
  have H := Lib.hid h'
  have HL := Lib.hid h.1
  have HM := Lib.hid h'.1
  clear h h'
  obtain ⟨i0, hi, hz0, hz1, hz2⟩ := info_parts info_itUI
  obtain ⟨j0, hj, hy0, hy1, hy2⟩ := info_parts info_blUI
  go_enter Try.func103, Try.ntmps103
  go_wp2_with (at_make; refine wpList_make_full _ rfl _ _ 165 rfl w.heap.size 4 j0 (.bool false) 1 Try.underlying165 hj hy0 hy1 _ _ _ _ n rfl rfl rfl rfl (by rw [hy2]; omega) (by unfold maxLen; omega) (Nat.le_refl _) ?_; intro w1 hown1 hgrow1)
  have hb1 : Below w.heap.size w w1 := (Below.refl _ w).grown hgrow1 (Nat.le_refl _) (fun _ h => by cases h)
  rw [made_bools] at hown1
  go_loopw [16] (fun iv wr => ∃ k : Nat, k ≤ n' ∧ iv = .int .i64 k ∧ wr.ownsRow w.heap.size 4 1 (.slice (some ⟨w.heap.size, 0, none⟩) n n) n (bools (fun j => Un.has ms (j : Int) k) n) ∧ Below w.heap.size w wr) (fun i _ => n' - (intOf i).toNat)
  case atStart => exact ⟨0, by omega, rfl, hown1, hb1⟩
  case round =>
    obtain ⟨k, hk, rfl, hown, hB⟩ := hrel
    have hsz := hB.size
    by_cases hlt : k < n'
    · obtain ⟨ad, rfl, hb, hl, hd⟩ := (H.out.below hB).at_ hlt
      obtain ⟨wz, hwz⟩ : ∃ wz, wz = wr.alloc (.cells #[.int .i64 (Tr.l ms k), .int .i64 (Tr.d ms k)] 124) := ⟨_, rfl⟩
      have hb2 := Lib.hid (show Below wr.heap.size wr wz by rw [hwz]; exact (Below.refl _ _).alloc (Nat.le_refl _) _)
      have Ho := Lib.hid (own_below hown hb2.out)
      have HB := Lib.hid (hB.trans (hb2.out.mono hsz))
      have HZ := Lib.hid hwz
      have p0 : wz.cell? ⟨wr.heap.size, 0, none⟩ = some (.int .i64 (Tr.l ms k)) := by rw [hwz]; simp
      obtain ⟨x, hx⟩ : ∃ x, x = Tr.l ms k := ⟨_, rfl⟩
      have HX := Lib.hid hx
      clear hown hB hwz
      by_cases hin : 0 ≤ x ∧ x < (n : Int)
      · obtain ⟨t, ht⟩ := Int.eq_ofNat_of_zero_le hin.1
        have HT := Lib.hid (show (fun j : Nat => Un.has ms (j : Int) (k + 1)) = fun j : Nat => Un.has ms (j : Int) k || decide (t = j) by
          funext j; rw [Un.has, ← HX.out, ht]; congr 1; exact decide_eq_decide.2 (by omega))
        have HTN := Lib.hid (show t < n by omega)
        have g0 : (0 : Int) ≤ (t : Int) := by omega
        have g1 : (t : Int) < (n : Int) := by omega
        rw [← hx, ht] at p0
        have c0 := own_bool Ho.out (k := t) HTN.out
        have f0 := Ho.out.frozenAt t
        have hl2 := hl
        rw [← hx, ht] at hl
        have HZ := Lib.hid (show wz = wr.alloc (.cells #[.int .i64 (t : Int), .int .i64 (Tr.d ms k)] 124) by rw [← ht, HX.out]; exact HZ.out)
        rw [HZ.out] at c0 f0 p0
        have hstored := (Ho.out.stored t (.bool true)).1
        rw [bools_set _ HTN.out, ← HT.out] at hstored
        have HS := Lib.hid hstored
        clear hin ht hx hl2 hstored
        go_wp2
        rw [← HZ.out]
        go_roundw
        case rel => exact ⟨k + 1, by omega, by go_num, HS.out, HB.out.setCell (Nat.le_refl _) _⟩
        case measure => simp [intOf]; omega
      · have HS := Lib.hid (show wz.ownsRow w.heap.size 4 1 (.slice (some ⟨w.heap.size, 0, none⟩) n n) n (bools (fun j => Un.has ms (j : Int) (k + 1)) n) by
          rw [bools_congr (g := fun j => Un.has ms (j : Int) k) (fun j hj => by
            rw [Un.has, ← HX.out, decide_eq_false (by omega), Bool.or_false])]
          exact Ho.out)
        rw [← hx] at p0 hl
        have HZ := Lib.hid (show wz = wr.alloc (.cells #[.int .i64 x, .int .i64 (Tr.d ms k)] 124) by rw [HX.out]; exact HZ.out)
        rw [HZ.out] at p0
        by_cases hneg : x < 0
        · have q0 : decide (0 ≤ x) = false := by simp; omega
          clear hin hneg hx
          go_wp2
          rw [← HZ.out]
          go_roundw
          case rel => exact ⟨k + 1, by omega, by go_num, HS.out, HB.out⟩
          case measure => simp [intOf]; omega
        · have q0 : decide (0 ≤ x) = true := by simp; omega
          have q1 : decide (x < (n : Int)) = false := by simp; omega
          clear hin hneg hx
          go_wp2
          rw [← HZ.out]
          go_roundw
          case rel => exact ⟨k + 1, by omega, by go_num, HS.out, HB.out⟩
          case measure => simp [intOf]; omega
    · obtain rfl : n' = k := by omega
      obtain ⟨ws, hws⟩ : ∃ ws, ws = wr := ⟨_, rfl⟩
      rw [← hws] at hown hB hsz
      have HW := Lib.hid hws
      have HO := Lib.hid hown
      have HB := Lib.hid hB
      have HSZ := Lib.hid hsz
      clear hown hB hsz hws
      go_wp2
      rw [← HW.out]
      go_loopw [37, 8] (fun kv ov wq => ∃ i : Nat, i ≤ n ∧ kv = .int .i64 i ∧ wq.ownsRow ws.heap.size 3 1 ov (Un.to ms i).length (ints (Un.to ms i)) ∧ Below ws.heap.size ws wq) (fun v _ _ => n - (intOf v).toNat)
      case atStart => exact ⟨0, by omega, rfl, own_nil, Below.refl _ _⟩
      case round =>
        clear HW
        obtain ⟨i, hi1, rfl, hown, hB1⟩ := hrel
        have Ho := Lib.hid hown
        have HB1 := Lib.hid hB1
        clear hown hB1
        by_cases hlt2 : i < n
        · have hsz2 := HB1.out.size
          have hlen := Un.to_len ms i
          have hi0 : (0 : Int) ≤ (i : Int) := by omega
          have hilt : (i : Int) < (n : Int) := by omega
          have c0 := own_bool (own_below HO.out HB1.out) (k := i) hlt2
          cases hq : Un.has ms (i : Int) n' with
          | true =>
            have Hs := Lib.hid (Un.to_yes (ms := ms) (i := i) (by rw [HM.out]; exact hq))
            rw [hq] at c0
            clear hq
            go_wp2
            go_roundw
            case rel => exact ⟨i + 1, by omega, by go_num, by rw [Hs.out]; exact Ho.out, HB1.out⟩
            case measure => simp [intOf]; omega
          | false =>
            have Hs := Lib.hid (Un.to_no (ms := ms) (i := i) (by rw [HM.out]; exact hq))
            rw [hq] at c0
            clear hq
            go_wp2_with (at_builtin; go_loud (refine append_int wr rfl _ _ 29 rfl ws.heap.size 3 i0 Try.underlying29 hi hz0 hz1 hz2 u8 (Un.to ms i).length (Un.to ms i) rfl Ho.out rfl (i : Int) rfl (by omega) hsz2 ?_); intro v1 w3 hown3 hgrow3)
            have hb3 := Kit.below_own HB1.out Ho.out hgrow3
            go_roundw
            case rel => exact ⟨i + 1, by omega, by go_num, by rw [Hs.out]; exact hown3, hb3⟩
            case measure => simp [intOf]; omega
        · obtain rfl : n = i := by omega
          have Ho2 := Lib.hid (own_base Ho.out HB.out.size)
          obtain ⟨A2, c2, rfl⟩ := own_slice Ho2.out
          go_wp2
          go_ret
          exact ⟨A2, c2, by rw [HL.out]; rfl, by rw [HL.out]; exact Ho2.out, HB.out.trans (HB1.out.mono HB.out.size)⟩
end Go.Proofs.Ytgkkeejhfofcaaa

/- Contracts (KepI). -/
namespace Go.Proofs.Ytgkkeejhfofcaaa
open Go.RowKit
set_option linter.unusedVariables false

set_option maxHeartbeats 800000 in
set_option maxRecDepth 100000 in
theorem implKept_any (A A' : Option Addr) (n n' c c' : Nat) (xs ms : Tr) (w : World) (h : NdIn w w.heap.size A n xs) (h' : NdIn w w.heap.size A' n' ms) (hn : n ≤ 1048576) (hn' : n' ≤ 1048576) (hnc : n ≤ c) :
    Calls Try.prog 46 #[.slice A n c, .slice A' n' c'] w (OwnNodes 47 (Kp.of xs ms) w) := by
  have CU := Lib.hid (implUnmapped_any A A' n n' c c' xs ms w h h' hn hn')
  have H := Lib.hid h
  have HL := Lib.hid h.1
  have HT := Lib.hid (Un.to_bound ms xs.length (by have := h.1; omega))
  clear h h'
  cases hok : Tr.ok xs with
  | false =>
    have HR := Lib.hid (Kp.no_tree (ms := ms) hok)
    have HO := Lib.hid hok
    clear hok
    go_enter Try.func46, Try.ntmps46
    go_wp2_with fail
    refine CU.out.mono ?_
    rintro e w1 ⟨A1, c1, rfl, ho, hb⟩
    have HB := Lib.hid hb
    have HO1 := Lib.hid ho
    clear hb ho
    go_wp2_with fail
    refine (implTreeOk_any _ _ _ xs _ (H.out.to_below HB.out) hn hnc).mono ?_
    rintro e w2 ⟨rfl, hd⟩
    rw [HO.out]
    have HB2 := Lib.hid (HB.out.trans (hd.mono HB.out.size))
    clear hd
    go_wp2
    go_ret
    rw [HR.out]
    exact ⟨none, 0, rfl, own_nil, HB2.out⟩
  | true =>
    have n1 := (Tr.len24 hok).1
    have HO := Lib.hid hok
    cases h0 : Un.has ms 0 ms.length with
    | false =>
      have HR := Lib.hid (Kp.no_root (xs := xs) h0)
      have HQ := Lib.hid (show decide ((0 : Int) ∈ Un.to ms xs.length) = true from decide_eq_true ((Kp.root_mem (by omega)).2 h0))
      clear hok h0
      go_enter Try.func46, Try.ntmps46
      go_wp2_with fail
      refine CU.out.mono ?_
      rintro e w1 ⟨A1, c1, rfl, ho, hb⟩
      have HB := Lib.hid hb
      have HO1 := Lib.hid ho
      clear hb ho
      go_wp2_with fail
      refine (implTreeOk_any _ _ _ xs _ (H.out.to_below HB.out) hn hnc).mono ?_
      rintro e w2 ⟨rfl, hd⟩
      rw [HO.out]
      have HI2 := Lib.hid ((IntIn.of_own HO1.out).to_below hd)
      have HB2 := Lib.hid (HB.out.trans (hd.mono HB.out.size))
      clear hd
      go_wp2_with fail
      refine (slContains_any _ _ _ _ _ _ HI2.out HT.out).mono ?_
      rintro e w3 ⟨rfl, rfl⟩
      rw [HQ.out]
      go_wp2
      go_ret
      rw [HR.out]
      exact ⟨none, 0, rfl, own_nil, HB2.out⟩
    | true =>
      have HR := Lib.hid (Kp.yes hok h0)
      have HA := Lib.hid (Kp.asc (n := xs.length) h0)
      have HU := Lib.hid (Kp.un ms xs.length)
      have HQ := Lib.hid (show decide ((0 : Int) ∈ Un.to ms xs.length) = false from decide_eq_false (fun e => by have := (Kp.root_mem (by omega)).1 e; rw [h0] at this; cases this))
      obtain ⟨ad, rfl, _⟩ := H.out.2.1 (by rw [← HL.out]; exact n1)
      clear hok h0
      go_enter Try.func46, Try.ntmps46
      go_wp2_with fail
      refine CU.out.mono ?_
      rintro e w1 ⟨A1, c1, rfl, ho, hb⟩
      have HB := Lib.hid hb
      have HO1 := Lib.hid ho
      clear hb ho
      go_wp2_with fail
      refine (implTreeOk_any _ _ _ xs _ (H.out.to_below HB.out) hn hnc).mono ?_
      rintro e w2 ⟨rfl, hd⟩
      rw [HO.out]
      have HI2 := Lib.hid ((IntIn.of_own HO1.out).to_below hd)
      have HB2 := Lib.hid (HB.out.trans (hd.mono HB.out.size))
      clear hd
      go_wp2_with fail
      refine (slContains_any _ _ _ _ _ _ HI2.out HT.out).mono ?_
      rintro e w3 ⟨rfl, rfl⟩
      rw [HQ.out]
      have HI3 := Lib.hid (show IntIn w2 w2.heap.size A1 (Un.to ms xs.length).length (Zs.up (Kp.gone ms xs.length)) by rw [← HU.out]; exact HI2.out)
      go_wp2_with fail
      refine (implWithout_any ad n c xs A1 _ c1 _ w2 (H.out.to_below HB2.out) HI3.out hn HT.out HO.out HA.out).mono ?_
      rintro e w4 ⟨A4, c4, rfl, ho4, hb4⟩
      have HO4 := Lib.hid (own_base ho4 HB2.out.size)
      have HB4 := Lib.hid (HB2.out.trans (hb4.mono HB2.out.size))
      clear ho4 hb4
      go_wp2
      go_ret
      rw [HR.out]
      exact ⟨A4, c4, rfl, HO4.out, HB4.out⟩

end Go.Proofs.Ytgkkeejhfofcaaa

/- Contracts of the harness over []Node: size, copy. -/
namespace Go.Proofs.Ytgkkeejhfofcaaa
open Go.RowKit
set_option linter.unusedVariables false

set_option maxHeartbeats 400000 in
theorem szNodeS_any (A : Option Addr) (n c : Nat) (left : Int) (w : World) (hn : n ≤ 9223372036854775807) (h0 : 0 ≤ left) (h1 : left ≤ 1048576) :
    Calls Try.prog 29 #[.slice A n c, .int .i64 left] w fun e w' => e = .returned (.int .i64 (if (n : Int) ≤ left then left - n else -1)) ∧ w = w' := by
  by_cases h : (n : Int) ≤ left
  · rw [if_pos h]
    go_enter Try.func29, Try.ntmps29
    go_wp2
    go_ret
    exact ⟨rfl, rfl⟩
  · rw [if_neg h]
    go_enter Try.func29, Try.ntmps29
    go_wp2
    go_ret
    exact ⟨rfl, rfl⟩

set_option maxHeartbeats 400000 in
theorem toNode_any (a b : Int) (w : World) :
    Calls Try.prog 93 #[.agg #[.int .i64 a, .int .i64 b]] w fun e w' => e = .returned (.agg #[.int .i64 a, .int .i64 b]) ∧ Below w.heap.size w w' := by
  go_enter Try.func93, Try.ntmps93
  go_wp2
  exact bodyPost_ret (v := .agg #[.int .i64 a, .int .i64 b]) (by simp [results, Try.results93, go_sem]) rfl ⟨rfl, by repeat' (first | exact Below.refl _ _ | refine Below.alloc ?_ (by simp [Nat.le_add_right, Nat.add_assoc]) _ | refine Below.setCell ?_ (by simp [Nat.add_assoc]) _)⟩

theorem info_node : (Try.prog.info? 47).map (fun i => (i.zero, i.size, i.bytes)) = some (some (.agg #[.int .i64 0, .int .i64 0]), 2, 16) := by kernel_rfl

set_option maxHeartbeats 800000 in
set_option maxRecDepth 100000 in
theorem toNodeS_any (A : Option Addr) (n c : Nat) (xs : Tr) (w : World) (h : NdIn w w.heap.size A n xs) (hn : n ≤ 1048576) :
    Calls Try.prog 32 #[.slice A n c] w fun e w' => e = .returned (.slice (some ⟨w.heap.size, 0, none⟩) n n) ∧
      w'.ownsRow w.heap.size 47 2 (.slice (some ⟨w.heap.size, 0, none⟩) n n) n (Tr.cells xs) ∧ Below w.heap.size w w' := by
  have H := Lib.hid h
  clear h
  have HL := Lib.hid H.out.1
  obtain ⟨i0, hi, hz0, hz1, hz2⟩ := info_parts info_node
  go_enter Try.func32, Try.ntmps32
  go_wp2_with (at_make; refine wpList_make_full _ rfl _ _ 24 rfl w.heap.size 47 i0 (.agg #[.int .i64 0, .int .i64 0]) 2 Try.underlying24 hi hz0 hz1 _ _ _ _ n rfl rfl rfl rfl (by rw [hz2]; omega) (by unfold maxLen; omega) (Nat.le_refl _) ?_; intro w1 hown1 hgrow1)
  have hb1 : Below w.heap.size w w1 := (Below.refl _ w).grown hgrow1 (Nat.le_refl _) (fun _ h => by cases h)
  rw [made_nodes, ← HL.out, ← Tr.part_none, HL.out] at hown1
  go_loopw [4] (fun iv wr => ∃ k : Nat, k ≤ n ∧ iv = .int .i64 k ∧ wr.ownsRow w.heap.size 47 2 (.slice (some ⟨w.heap.size, 0, none⟩) n n) n (Tr.cells (Tr.part xs k)) ∧ Below w.heap.size w wr) (fun i _ => n - (intOf i).toNat)
  case atStart => exact ⟨0, by omega, rfl, hown1, hb1⟩
  case round =>
    obtain ⟨k, hk, rfl, hown, hB⟩ := hrel
    have hsz := hB.size
    by_cases hlt : k < n
    · obtain ⟨ad, rfl, hb, hl, hd⟩ := (H.out.below hB).at_ hlt
      have Ho := Lib.hid hown
      have HB := Lib.hid hB
      clear hown hB
      go_wp2_with (go_at_call 93; refine (toNode_any _ _ _).mono ?_; rintro e w' ⟨rfl, hb'⟩; have hb2 := Lib.hid hb'; clear hb'; have Ho2 := Lib.hid (own_below Ho.out hb2.out); have c0 := own_even Ho2.out (k := k) (by rw [Tr.part_length _ _ (by rw [HL.out]; omega), HL.out]; omega); have c1 := own_odd Ho2.out (k := k) (by rw [Tr.part_length _ _ (by rw [HL.out]; omega), HL.out]; omega); have f0 := Ho2.out.frozenAt (k * 2); have f1 := Ho2.out.frozenAt (k * 2 + 1))
      go_roundw
      case rel =>
        refine ⟨k + 1, by omega, by go_num, ?_, ?_⟩
        · have := own_set Ho2.out k (Tr.l xs k) (Tr.d xs k)
          rw [Tr.part_set xs k (by rw [HL.out]; exact hlt)] at this
          exact this
        · exact ((HB.out.trans (hb2.out.mono hsz)).setCell (Nat.le_refl _) _).setCell (Nat.le_refl _) _
      case measure => simp [intOf]; omega
    · obtain rfl : k = n := by omega
      rw [← HL.out, Tr.part_full, HL.out] at hown
      go_wp2
      go_ret
      exact ⟨rfl, hown, hB⟩

end Go.Proofs.Ytgkkeejhfofcaaa

/- Two lists of nodes that agree so far. -/
namespace Go.Proofs.Ytgkkeejhfofcaaa
open Go.RowKit
set_option linter.unusedVariables false

/-- the first k nodes agree -/
def Tr.same (xs ys : Tr) (k : Nat) : Prop := ∀ j, j < k → Tr.l xs j = Tr.l ys j ∧ Tr.d xs j = Tr.d ys j

end Go.Proofs.Ytgkkeejhfofcaaa

/- Contracts of the harness over []Node: equality. -/
namespace Go.Proofs.Ytgkkeejhfofcaaa
open Go.RowKit
set_option linter.unusedVariables false

set_option maxHeartbeats 400000 in
theorem eqNode_any (a b c d : Int) (w : World) :
    Calls Try.prog 96 #[.agg #[.int .i64 a, .int .i64 b], .agg #[.int .i64 c, .int .i64 d]] w fun e w' => e = .returned (.bool (decide (a = c ∧ b = d))) ∧ Below w.heap.size w w' := by
  have hB : ∀ o1 o2, Below w.heap.size w ((w.alloc o1).alloc o2) := fun o1 o2 => ((Below.refl _ _).alloc (Nat.le_refl _) _).alloc (by simp) _
  by_cases h1 : a = c
  · by_cases h2 : b = d
    · subst h1 h2
      go_enter Try.func96, Try.ntmps96
      go_wp2
      go_ret
      exact ⟨Kit.ret_bool (by simp), hB _ _⟩
    · have h2' : (b != d) = true := by simpa using h2
      subst h1
      go_enter Try.func96, Try.ntmps96
      go_wp2
      go_ret
      exact ⟨Kit.ret_bool (by simp [h2]), hB _ _⟩
  · have h1' : (a != c) = true := by simpa using h1
    go_enter Try.func96, Try.ntmps96
    go_wp2
    go_ret
    exact ⟨Kit.ret_bool (by simp [h1]), hB _ _⟩


set_option maxHeartbeats 800000 in
set_option maxRecDepth 100000 in
theorem eqNodeS_any (A A' : Option Addr) (n c n' c' : Nat) (xs ys : Tr) (w : World) (h : NdIn w w.heap.size A n xs) (h' : NdIn w w.heap.size A' n' ys) (hn : n ≤ 1048576) (hn' : n' ≤ 1048576) :
    Calls Try.prog 35 #[.slice A n c, .slice A' n' c'] w fun e w' => e = .returned (.bool (decide (xs = ys))) ∧ Below w.heap.size w w' := by
  have H := Lib.hid h
  have H' := Lib.hid h'
  clear h h'
  have HL := Lib.hid H.out.1
  have HL' := Lib.hid H'.out.1
  by_cases hnn : n = n'
  · go_enter Try.func35, Try.ntmps35
    have Hnn := Lib.hid hnn
    have hne : ((n : Int) != (n' : Int)) = false := by simp [hnn]
    clear hnn
    go_wp2
    go_loopw [5] (fun iv wr => ∃ k : Nat, k ≤ n ∧ iv = .int .i64 k ∧ Tr.same xs ys k ∧ Below w.heap.size w wr) (fun i _ => n - (intOf i).toNat)
    case atStart => exact ⟨0, by omega, rfl, fun j hj => absurd hj (by omega), Below.refl _ _⟩
    case round =>
      obtain ⟨k, hk, rfl, hsm, hB⟩ := hrel
      have hsz := hB.size
      have Hsm := Lib.hid hsm
      have HB := Lib.hid hB
      clear hsm hB
      by_cases hlt : k < n
      · obtain ⟨ad, rfl, hb, hl, hd⟩ := (H.out.below HB.out).at_ hlt
        obtain ⟨ad', rfl, hb', hl', hd'⟩ := (H'.out.below HB.out).at_ (k := k) (by rw [← Hnn.out]; exact hlt)
        have hlt' : (k : Int) < (n' : Int) := by rw [← Hnn.out]; omega
        have hk0 : (0 : Int) ≤ (k : Int) := by omega
        have HB2 := Lib.hid HB.out.drew
        have hsz2 := HB.out.drew.size
        by_cases hq : Tr.l xs k = Tr.l ys k ∧ Tr.d xs k = Tr.d ys k
        · have hq' : decide (Tr.l xs k = Tr.l ys k ∧ Tr.d xs k = Tr.d ys k) = true := by simpa using hq
          have Hq := Lib.hid hq
          clear hq
          go_wp2
          go_still_tail 8, (by kernel_rfl)
          change wpList _ _ _ _ _ wr.drew
          generalize wr.drew = w2 at HB2 hsz2 ⊢
          go_wp2_with (go_at_call 96; refine (eqNode_any _ _ _ _ _).mono ?_; rintro e w3 ⟨rfl, hb3⟩)
          go_roundw
          case rel => exact ⟨k + 1, by omega, by go_num, fun j hj => by
            rcases Nat.lt_succ_iff_lt_or_eq.1 hj with h' | rfl
            · exact Hsm.out j h'
            · exact Hq.out, HB2.out.trans (hb3.mono hsz2)⟩
          case measure => simp [intOf]; omega
        · have hq' : decide (Tr.l xs k = Tr.l ys k ∧ Tr.d xs k = Tr.d ys k) = false := by simpa using hq
          have Hq := Lib.hid hq
          clear hq
          go_wp2
          go_still_tail 8, (by kernel_rfl)
          change wpList _ _ _ _ _ wr.drew
          generalize wr.drew = w2 at HB2 hsz2 ⊢
          go_wp2_with (go_at_call 96; refine (eqNode_any _ _ _ _ _).mono ?_; rintro e w3 ⟨rfl, hb3⟩)
          go_ret
          refine ⟨Kit.ret_bool ?_, HB2.out.trans (hb3.mono hsz2)⟩
          symm
          rw [decide_eq_false_iff_not]
          rintro rfl
          exact Hq.out ⟨rfl, rfl⟩
      · obtain rfl : k = n := by omega
        go_wp2
        go_ret
        refine ⟨Kit.ret_bool ?_, HB.out⟩
        symm
        rw [decide_eq_true_eq]
        exact Tr.ext (by rw [HL.out, HL'.out]; exact Hnn.out) (fun j hj => Hsm.out j (by rw [← HL.out]; exact hj))
  · have hne : ((n : Int) != (n' : Int)) = true := by simp; omega
    have Hq := Lib.hid (show decide (xs = ys) = false by
      rw [decide_eq_false_iff_not]; rintro rfl; exact hnn (HL.out.symm.trans HL'.out))
    clear hnn
    go_enter Try.func35, Try.ntmps35
    go_wp2
    go_ret
    exact ⟨Kit.ret_bool Hq.out.symm, Below.refl _ _⟩

end Go.Proofs.Ytgkkeejhfofcaaa
