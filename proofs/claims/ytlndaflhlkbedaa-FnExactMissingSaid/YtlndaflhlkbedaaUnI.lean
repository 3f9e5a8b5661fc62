/- Contracts (UnI). -/
import Derived.Test.YtlndaflhlkbedaaUn
import Derived.Test.YtlndaflhlkbedaaTurI
import Derived.Test.YtlndaflhlkbedaaRes
import Derived.Test.YtlndaflhlkbedaaDr
import Derived.Test.YtlndaflhlkbedaaRows
import Derived.Outline
namespace Go.Proofs.Ytlndaflhlkbedaa
open Go.RowKit
set_option linter.unusedVariables false

theorem info_itUI : (Try.prog.info? 3).map (fun i => (i.zero, i.size, i.bytes)) = some (some (.int .i64 0), 1, 8) := by kernel_rfl
theorem info_blUI : (Try.prog.info? 4).map (fun i => (i.zero, i.size, i.bytes)) = some (some (.bool false), 1, 1) := by kernel_rfl
theorem made_bools (n : Nat) : (madeCells (Value.bool false).cells (n * 1)).toList = bools (fun _ => false) n := by
  unfold madeCells bools
  refine List.ext_getElem (by simp) fun k h1 h2 => ?_
  simp at h1 h2 ⊢
  show (#[Value.bool false] : Array Value)[k % 1]! = _
  rw [Nat.mod_one]
  rfl
theorem own_bool {w : World} {base g n c : Nat} {e : TypeId} {f : Nat → Bool} (h : w.ownsRow base e 1 (.slice (some ⟨g, 0, none⟩) n c) n (bools f n)) {k : Nat} (hk : k < n) : w.cell? ⟨g, k, none⟩ = some (.bool (f k)) := by
  rw [h.cellAt _ (by omega), bools_at _ hk]
set_option maxHeartbeats 800000 in
set_option maxRecDepth 100000 in
theorem implUnmapped_any (A A' : Option Addr) (n n' c c' : Nat) (xs ms : Tr) (w : World) (h : NdIn w w.heap.size A n xs) (h' : NdIn w w.heap.size A' n' ms) (hn : n ≤ 1048576) (hn' : n' ≤ 1048576) :
    Calls Try.prog 36 #[.slice A n c, .slice A' n' c'] w (OwnInts 3 (Un.to ms xs.length) w) := by
  have H := Lib.hid h'
  have HL := Lib.hid h.1
  have HM := Lib.hid h'.1
  clear h h'
  obtain ⟨i0, hi, hz0, hz1, hz2⟩ := info_parts info_itUI
  obtain ⟨j0, hj, hy0, hy1, hy2⟩ := info_parts info_blUI
  go_enter Try.func36, Try.ntmps36
  go_wp2_with (at_make; refine wpList_make_full _ rfl _ _ 114 rfl w.heap.size 4 j0 (.bool false) 1 Try.underlying114 hj hy0 hy1 _ _ _ _ n rfl rfl rfl rfl (by rw [hy2]; omega) (by unfold maxLen; omega) (Nat.le_refl _) ?_; intro w1 hown1 hgrow1)
  have hb1 : Below w.heap.size w w1 := (Below.refl _ w).grown hgrow1 (Nat.le_refl _) (fun _ h => by cases h)
  rw [made_bools] at hown1
  go_loopw [16] (fun iv wr => ∃ k : Nat, k ≤ n' ∧ iv = .int .i64 k ∧ wr.ownsRow w.heap.size 4 1 (.slice (some ⟨w.heap.size, 0, none⟩) n n) n (bools (fun j => Un.has ms (j : Int) k) n) ∧ Below w.heap.size w wr) (fun i _ => n' - (intOf i).toNat)
  case atStart => exact ⟨0, by omega, rfl, hown1, hb1⟩
  case round =>
    obtain ⟨k, hk, rfl, hown, hB⟩ := hrel
    have hsz := hB.size
    by_cases hlt : k < n'
    · obtain ⟨ad, rfl, hb, hl, hd⟩ := (H.out.below hB).at_ hlt
      obtain ⟨wz, hwz⟩ : ∃ wz, wz = wr.alloc (.cells #[.int .i64 (Tr.l ms k), .int .i64 (Tr.d ms k)] 55) := ⟨_, rfl⟩
      have hb2 := Lib.hid (show Below wr.heap.size wr wz by rw [hwz]; exact (Below.refl _ _).alloc (Nat.le_refl _) _)
      have Ho := Lib.hid (own_below hown hb2.out)
      have HB := Lib.hid (hB.trans (hb2.out.mono hsz))
      have HZ := Lib.hid hwz
      have p0 : wz.cell? ⟨wr.heap.size, 0, none⟩ = some (.int .i64 (Tr.l ms k)) := by rw [hwz]; simp
      obtain ⟨x, hx⟩ : ∃ x, x = Tr.l ms k := ⟨_, rfl⟩
      have HX := Lib.hid hx
      clear hown hB hwz
      by_cases hin : 0 ≤ x ∧ x < (n : Int)
      · obtain ⟨t, ht⟩ := Int.eq_ofNat_of_zero_le hin.1
        have HT := Lib.hid (show (fun j : Nat => Un.has ms (j : Int) (k + 1)) = fun j : Nat => Un.has ms (j : Int) k || decide (t = j) by
          funext j; rw [Un.has, ← HX.out, ht]; congr 1; exact decide_eq_decide.2 (by omega))
        have HTN := Lib.hid (show t < n by omega)
        have g0 : (0 : Int) ≤ (t : Int) := by omega
        have g1 : (t : Int) < (n : Int) := by omega
        rw [← hx, ht] at p0
        have c0 := own_bool Ho.out (k := t) HTN.out
        have f0 := Ho.out.frozenAt t
        have hl2 := hl
        rw [← hx, ht] at hl
        have HZ := Lib.hid (show wz = wr.alloc (.cells #[.int .i64 (t : Int), .int .i64 (Tr.d ms k)] 55) by rw [← ht, HX.out]; exact HZ.out)
        rw [HZ.out] at c0 f0 p0
        have hstored := (Ho.out.stored t (.bool true)).1
        rw [bools_set _ HTN.out, ← HT.out] at hstored
        have HS := Lib.hid hstored
        clear hin ht hx hl2 hstored
        go_wp2
        rw [← HZ.out]
        go_roundw
        case rel => exact ⟨k + 1, by omega, by go_num, HS.out, HB.out.setCell (Nat.le_refl _) _⟩
        case measure => simp [intOf]; omega
      · have HS := Lib.hid (show wz.ownsRow w.heap.size 4 1 (.slice (some ⟨w.heap.size, 0, none⟩) n n) n (bools (fun j => Un.has ms (j : Int) (k + 1)) n) by
          rw [bools_congr (g := fun j => Un.has ms (j : Int) k) (fun j hj => by
            rw [Un.has, ← HX.out, decide_eq_false (by omega), Bool.or_false])]
          exact Ho.out)
        rw [← hx] at p0 hl
        have HZ := Lib.hid (show wz = wr.alloc (.cells #[.int .i64 x, .int .i64 (Tr.d ms k)] 55) by rw [HX.out]; exact HZ.out)
        rw [HZ.out] at p0
        by_cases hneg : x < 0
        · have q0 : decide (0 ≤ x) = false := by simp; omega
          clear hin hneg hx
          go_wp2
          rw [← HZ.out]
          go_roundw
          case rel => exact ⟨k + 1, by omega, by go_num, HS.out, HB.out⟩
          case measure => simp [intOf]; omega
        · have q0 : decide (0 ≤ x) = true := by simp; omega
          have q1 : decide (x < (n : Int)) = false := by simp; omega
          clear hin hneg hx
          go_wp2
          rw [← HZ.out]
          go_roundw
          case rel => exact ⟨k + 1, by omega, by go_num, HS.out, HB.out⟩
          case measure => simp [intOf]; omega
    · obtain rfl : n' = k := by omega
      obtain ⟨ws, hws⟩ : ∃ ws, ws = wr := ⟨_, rfl⟩
      rw [← hws] at hown hB hsz
      have HW := Lib.hid hws
      have HO := Lib.hid hown
      have HB := Lib.hid hB
      have HSZ := Lib.hid hsz
      clear hown hB hsz hws
      go_wp2
      rw [← HW.out]
      go_loopw [37, 8] (fun kv ov wq => ∃ i : Nat, i ≤ n ∧ kv = .int .i64 i ∧ wq.ownsRow ws.heap.size 3 1 ov (Un.to ms i).length (ints (Un.to ms i)) ∧ Below ws.heap.size ws wq) (fun v _ _ => n - (intOf v).toNat)
      case atStart => exact ⟨0, by omega, rfl, own_nil, Below.refl _ _⟩
      case round =>
        clear HW
        obtain ⟨i, hi1, rfl, hown, hB1⟩ := hrel
        have Ho := Lib.hid hown
        have HB1 := Lib.hid hB1
        clear hown hB1
        by_cases hlt2 : i < n
        · have hsz2 := HB1.out.size
          have hlen := Un.to_len ms i
          have hi0 : (0 : Int) ≤ (i : Int) := by omega
          have hilt : (i : Int) < (n : Int) := by omega
          have c0 := own_bool (own_below HO.out HB1.out) (k := i) hlt2
          cases hq : Un.has ms (i : Int) n' with
          | true =>
            have Hs := Lib.hid (Un.to_yes (ms := ms) (i := i) (by rw [HM.out]; exact hq))
            rw [hq] at c0
            clear hq
            go_wp2
            go_roundw
            case rel => exact ⟨i + 1, by omega, by go_num, by rw [Hs.out]; exact Ho.out, HB1.out⟩
            case measure => simp [intOf]; omega
          | false =>
            have Hs := Lib.hid (Un.to_no (ms := ms) (i := i) (by rw [HM.out]; exact hq))
            rw [hq] at c0
            clear hq
            go_wp2_with (at_builtin; go_loud (refine append_int wr rfl _ _ 25 rfl ws.heap.size 3 i0 Try.underlying25 hi hz0 hz1 hz2 u8 (Un.to ms i).length (Un.to ms i) rfl Ho.out rfl (i : Int) rfl (by omega) hsz2 ?_); intro v1 w3 hown3 hgrow3)
            have hb3 := Kit.below_own HB1.out Ho.out hgrow3
            go_roundw
            case rel => exact ⟨i + 1, by omega, by go_num, by rw [Hs.out]; exact hown3, hb3⟩
            case measure => simp [intOf]; omega
        · obtain rfl : n = i := by omega
          have Ho2 := Lib.hid (own_base Ho.out HB.out.size)
          obtain ⟨A2, c2, rfl⟩ := own_slice Ho2.out
          go_wp2
          go_ret
          exact ⟨A2, c2, by rw [HL.out]; rfl, by rw [HL.out]; exact Ho2.out, HB.out.trans (HB1.out.mono HB.out.size)⟩
set_option maxHeartbeats 800000 in
set_option maxRecDepth 100000 in
theorem implMissing_any (A A' : Option Addr) (n n' c c' : Nat) (xs ms : Tr) (w : World) (h : NdIn w w.heap.size A n xs) (h' : NdIn w w.heap.size A' n' ms) (hn : n ≤ 1048576) (hn' : n' ≤ 1048576) :
    Calls Try.prog 37 #[.slice A n c, .slice A' n' c'] w (OwnInts 3 (Un.to (Tr.turn ms) xs.length) w) := by
  have H := Lib.hid h
  have H' := Lib.hid h'
  have HL := Lib.hid ((Tr.turn_length ms).trans H'.out.1)
  clear h h'
  go_enter Try.func37, Try.ntmps37
  go_wp2_with fail
  refine (implTurned_any _ _ _ ms w H'.out hn').mono ?_
  rintro e w1 ⟨A1, c1, rfl, ho, hb⟩
  have HO := Lib.hid ho
  have HB := Lib.hid hb
  clear ho hb
  go_wp2_with fail
  refine (implUnmapped_any _ _ _ _ _ _ xs (Tr.turn ms) w1 (H.out.to_below HB.out) (NdIn.of_own HO.out) hn (by rw [HL.out]; exact hn')).mono ?_
  rintro e w2 ⟨A2, c2, rfl, ho2, hb2⟩
  have HO2 := Lib.hid (own_base ho2 HB.out.size)
  have HB2 := Lib.hid (HB.out.trans (hb2.mono HB.out.size))
  clear ho2 hb2
  go_wp2
  go_ret
  exact ⟨A2, c2, rfl, HO2.out, HB2.out⟩

end Go.Proofs.Ytlndaflhlkbedaa
