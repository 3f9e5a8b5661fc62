/- Texts of one claim laid into one file, in build order: DrST, Tur, Un, NdPt, TurI, UnI. -/
import Derived.Test.YtgkkeejhfofcaaaHd1
import Derived.Test.YtgkkeejhfofcaaaHd2
import Derived.Test.YtgkkeejhfofcaaaHd3
import Derived.Test.YtgkkeejhfofcaaaHd5
import Derived.Laws.Entries
import Derived.Laws.MakeOwn
import Derived.Outline
import Derived.Test.YtgkkeejhfofcaaaRows
/- Contracts (DrST). -/
namespace Go.Proofs.Ytgkkeejhfofcaaa
open Go.RowKit
set_option linter.unusedVariables false

/-- two trees, drawn, the second one near to the first -/
def DrawST (w : World) (e : Ending) (w' : World) : Prop :=
  ∃ (xs ys : Tr) (A A' : Option Addr) (n n' cp cp' : Nat), e = .returned (.tuple #[.slice A n cp, .slice A' n' cp']) ∧ NdIn w' w'.heap.size A n xs ∧ NdIn w' w'.heap.size A' n' ys ∧ n ≤ cp ∧ n' ≤ cp' ∧ n ≤ 34 ∧ n' ≤ 34 ∧ Below w.heap.size w w'
set_option maxHeartbeats 800000 in
set_option maxRecDepth 100000 in
theorem drawST_ex (w : World) (k : Code) (hcode : CodeIn w w.heap.size k.a k.cs) (hlen : k.cs.length ≤ 1048576) :
    Calls Try.prog 11 #[.slice k.a k.cs.length k.cap] w (DrawST w) := by
  have HC := Lib.hid hcode
  clear hcode
  go_enter Try.func11, Try.ntmps11
  go_wp2_with fail
  refine (l1New_ex _ k HC.out hlen).mono ?_
  rintro e w1 ⟨rfl, c, g1⟩
  have HX := Lib.hid c
  have HB := Lib.hid ((Below.refl w.heap.size w).grown g1 (Nat.le_refl _) (fun b e => by cases e))
  have l1 := g1.size
  have hlt := c.lt
  clear c g1
  go_wp2_with fail
  refine (l3Any_ex w1 w.heap.size k 9 (by decide) HX.out).mono ?_
  rintro e w2 ⟨xs, A, n, cp, rfl, ha, hcp, hn, c, g⟩
  have HX := Lib.hid c
  have HA := Lib.hid ha
  have HB := Lib.hid (HB.out.trans (Kit.below_of_grown g (fun b e => by injection e with e; omega) l1))
  have l2 := g.size
  clear c g ha
  go_wp2_with fail
  refine (l1Once_ex w2 w.heap.size k 2 HX.out).mono ?_
  rintro e w3 ⟨bb, rfl, c, g⟩
  have HX := Lib.hid c
  have HA := Lib.hid (HA.out.cur (by omega) g)
  have HB := Lib.hid (HB.out.trans (Kit.below_of_grown g (fun b e => by injection e with e; omega) (by omega)))
  have l3 := g.size
  clear c g
  cases bb with
  | true =>
    go_wp2_with fail
    refine (l3NearE_ex w3 w.heap.size k A n cp xs HA.out.1 hn HX.out).mono ?_
    rintro e w4 ⟨ys, A', n', cp', rfl, hb, hcp', hn', c, g⟩
    have HA := Lib.hid (HA.out.cur (by omega) g)
    have HB := Lib.hid (HB.out.trans (Kit.below_of_grown g (fun b e => by injection e with e; omega) (by omega)))
    have HY := Lib.hid hb
    clear c g hb
    go_wp2
    refine bodyPost_ret (results_tmp2 rfl _ _ _) rfl ?_
    exact ⟨xs, ys, A, A', n, n', cp, cp', rfl, HA.out.1, HY.out.1, hcp, hcp', by omega, hn', HB.out⟩
  | false =>
    go_wp2_with fail
    refine (l3Copy_all A n cp xs w3 HA.out.1 (by omega)).mono ?_
    rintro e w4 ⟨A', cp', rfl, ho, g⟩
    have hb4 : Below w3.heap.size w3 w4 := (Below.refl _ _).grown g (Nat.le_refl _) (fun b e => by cases e)
    have HA4 := Lib.hid (HA.out.1.to_below hb4)
    have HB := Lib.hid (HB.out.trans (hb4.mono (by omega)))
    have HY := Lib.hid ho
    clear g ho hb4
    go_wp2
    refine bodyPost_ret (results_tmp2 rfl _ _ _) rfl ?_
    exact ⟨xs, xs, A, A', n, n, cp, cp', rfl, HA4.out, NdIn.of_own HY.out, hcp, own_cap HY.out, by omega, by omega, HB.out⟩

end Go.Proofs.Ytgkkeejhfofcaaa

/- Contracts (Tur). -/
namespace Go.Proofs.Ytgkkeejhfofcaaa
open Go.RowKit
set_option linter.unusedVariables false

/-- the first pair is that of the roots -/
def Tr.rooted (xs : Tr) : Bool := decide (0 < xs.length) && (decide (Tr.l xs 0 = 0) && decide (Tr.d xs 0 = 0))
/-- each pair the other way round -/
def Tr.turn (xs : Tr) : Tr := xs.map (fun q => (q.2, q.1))
theorem Tr.turn_length (xs : Tr) : (Tr.turn xs).length = xs.length := by simp [Tr.turn]
theorem Tr.turn_l (xs : Tr) {k : Nat} (hk : k < xs.length) : Tr.l (Tr.turn xs) k = Tr.d xs k := by simp [Tr.turn, Tr.l, Tr.d, List.getD_eq_getElem?_getD, hk]
theorem Tr.turn_d (xs : Tr) {k : Nat} (hk : k < xs.length) : Tr.d (Tr.turn xs) k = Tr.l xs k := by simp [Tr.turn, Tr.l, Tr.d, List.getD_eq_getElem?_getD, hk]
end Go.Proofs.Ytgkkeejhfofcaaa

/- Contracts (Un). -/
namespace Go.Proofs.Ytgkkeejhfofcaaa
open Go.RowKit
set_option linter.unusedVariables false

/-- is a the first of one of the first k pairs? -/
def Un.has (ms : Tr) (a : Int) : Nat → Bool
  | 0 => false
  | k + 1 => Un.has ms a k || decide (Tr.l ms k = a)
/-- the places below i that are first of no pair -/
def Un.to (ms : Tr) : Nat → List Int
  | 0 => []
  | i + 1 => if Un.has ms (i : Int) ms.length = true then Un.to ms i else Un.to ms i ++ [(i : Int)]
theorem Un.has_up {ms : Tr} {a : Int} {k : Nat} (h : Un.has ms a k = true) : ∀ m, k ≤ m → Un.has ms a m = true := by
  intro m
  induction m with
  | zero => intro hk; obtain rfl : k = 0 := by omega
            exact h
  | succ m ih =>
    intro hk
    by_cases e : k = m + 1
    · rw [← e]; exact h
    · rw [Un.has, ih (by omega)]; rfl
theorem Un.has_hit {ms : Tr} {a : Int} {k m : Nat} (h : Tr.l ms k = a) (hk : k < m) : Un.has ms a m = true := Un.has_up (k := k + 1) (by rw [Un.has, decide_eq_true h, Bool.or_true]) m (by omega)
theorem Un.has_iff {ms : Tr} {a : Int} : ∀ k, Un.has ms a k = true ↔ ∃ q, q < k ∧ Tr.l ms q = a := by
  intro k
  constructor
  · induction k with
    | zero => intro h; exact absurd h (by simp [Un.has])
    | succ k ih =>
      intro h
      rw [Un.has, Bool.or_eq_true] at h
      rcases h with h | h
      · obtain ⟨q, h1, h2⟩ := ih h; exact ⟨q, by omega, h2⟩
      · exact ⟨k, by omega, of_decide_eq_true h⟩
  · rintro ⟨q, h1, h2⟩; exact Un.has_hit h2 h1
theorem Un.to_len (ms : Tr) : ∀ i, (Un.to ms i).length ≤ i
  | 0 => Nat.le_refl _
  | i + 1 => by
    have h := Un.to_len ms i
    unfold Un.to
    split
    · omega
    · rw [List.length_append, List.length_singleton]; omega
theorem Un.to_yes {ms : Tr} {i : Nat} (h : Un.has ms (i : Int) ms.length = true) : Un.to ms (i + 1) = Un.to ms i := by rw [Un.to, if_pos h]
theorem Un.to_no {ms : Tr} {i : Nat} (h : Un.has ms (i : Int) ms.length = false) : Un.to ms (i + 1) = Un.to ms i ++ [(i : Int)] := by rw [Un.to, if_neg (by rw [h]; decide)]
/-- a row of bools -/
def bools (f : Nat → Bool) (n : Nat) : List Value := (List.range n).map fun j => Value.bool (f j)
theorem bools_length (f : Nat → Bool) (n : Nat) : (bools f n).length = n := by simp [bools]
theorem bools_at (f : Nat → Bool) {n j : Nat} (h : j < n) : (bools f n)[j]? = some (.bool (f j)) := by simp [bools, h]
theorem bools_congr {f g : Nat → Bool} {n : Nat} (h : ∀ j, j < n → f j = g j) : bools f n = bools g n := List.map_congr_left fun j hj => by rw [h j (List.mem_range.1 hj)]
theorem bools_set (f : Nat → Bool) {n t : Nat} (h : t < n) : (bools f n).set t (.bool true) = bools (fun j => f j || decide (t = j)) n := by
  apply List.ext_getElem?
  intro j
  rw [List.getElem?_set, bools_length]
  by_cases e : t = j
  · subst e; rw [if_pos rfl, if_pos h, bools_at _ h]; simp
  · rw [if_neg e]
    by_cases hj : j < n
    · rw [bools_at _ hj, bools_at _ hj]; simp [e]
    · rw [List.getElem?_eq_none (by rw [bools_length]; omega), List.getElem?_eq_none (by rw [bools_length]; omega)]

end Go.Proofs.Ytgkkeejhfofcaaa

/- Lists of which the first part is laid (NdPt). -/
namespace Go.Proofs.Ytgkkeejhfofcaaa
open Go.RowKit
set_option linter.unusedVariables false

/-- the first k nodes of xs, then zeros -/
def Tr.part (xs : Tr) (k : Nat) : Tr := xs.take k ++ List.replicate (xs.length - k) (0, 0)
theorem Tr.part_length (xs : Tr) (k : Nat) (hk : k ≤ xs.length) : (Tr.part xs k).length = xs.length := by simp [Tr.part]; omega
theorem Tr.part_set (xs : Tr) (k : Nat) (hk : k < xs.length) : (Tr.part xs k).set k (Tr.l xs k, Tr.d xs k) = Tr.part xs (k + 1) := by
  unfold Tr.part
  rw [List.set_append_right _ _ (by simp; omega)]
  rw [List.take_succ_eq_append_getElem hk, List.append_assoc]
  congr 1
  rw [show xs.length - k = (xs.length - (k + 1)) + 1 by omega, List.replicate_succ]
  simp [Tr.l, Tr.d, List.getD_eq_getElem?_getD, hk, show k - min k xs.length = 0 by omega]
theorem Tr.part_full (xs : Tr) : Tr.part xs xs.length = xs := by simp [Tr.part]
theorem Tr.part_none (xs : Tr) : Tr.part xs 0 = List.replicate xs.length (0, 0) := by simp [Tr.part]

theorem made_nodes (n : Nat) : (madeCells (Value.agg #[.int .i64 0, .int .i64 0]).cells (n * 2)).toList = Tr.cells (List.replicate n (0, 0)) := by
  have h1 (m : Nat) : Tr.cells (List.replicate m (0, 0)) = List.replicate (m * 2) (.int .i64 0) := by
    induction m with
    | zero => rfl
    | succ m ih => rw [List.replicate_succ, show (m + 1) * 2 = m * 2 + 1 + 1 by omega, List.replicate_succ, List.replicate_succ, ← ih]; rfl
  rw [h1]
  apply List.ext_getElem?
  intro j
  by_cases hj : j < n * 2
  · have h2 : j % 2 = 0 ∨ j % 2 = 1 := by omega
    rcases h2 with h2 | h2 <;> simp [madeCells, hj, h2, Value.cells]
  · simp [madeCells, hj]

end Go.Proofs.Ytgkkeejhfofcaaa

/- Contracts (TurI). -/
namespace Go.Proofs.Ytgkkeejhfofcaaa
open Go.RowKit
set_option linter.unusedVariables false

theorem info_prI : (Try.prog.info? 124).map (fun i => (i.zero, i.size, i.bytes)) = some (some (.agg #[.int .i64 0, .int .i64 0]), 2, 16) := by kernel_rfl
set_option maxHeartbeats 800000 in
set_option maxRecDepth 100000 in
theorem implTurned_any (A : Option Addr) (n c : Nat) (xs : Tr) (w : World) (h : NdIn w w.heap.size A n xs) (hn : n ≤ 1048576) :
    Calls Try.prog 161 #[.slice A n c] w (OwnNodes 124 (Tr.turn xs) w) := by
  have H := Lib.hid h
  clear h
  have HL := Lib.hid H.out.1
  have HT := Lib.hid ((Tr.turn_length xs).trans HL.out)
  obtain ⟨i0, hi, hz0, hz1, hz2⟩ := info_parts info_prI
  go_enter Try.func161, Try.ntmps161
  go_wp2_with (at_make; refine wpList_make_full _ rfl _ _ 36 rfl w.heap.size 124 i0 (.agg #[.int .i64 0, .int .i64 0]) 2 Try.underlying36 hi hz0 hz1 _ _ _ _ n rfl rfl rfl rfl (by rw [hz2]; omega) (by unfold maxLen; omega) (Nat.le_refl _) ?_; intro w1 hown1 hgrow1)
  have hb1 : Below w.heap.size w w1 := (Below.refl _ w).grown hgrow1 (Nat.le_refl _) (fun _ h => by cases h)
  rw [made_nodes, ← HT.out, ← Tr.part_none, HT.out] at hown1
  go_loopw [11] (fun iv wr => ∃ k : Nat, k ≤ n ∧ iv = .int .i64 k ∧ wr.ownsRow w.heap.size 124 2 (.slice (some ⟨w.heap.size, 0, none⟩) n n) n (Tr.cells (Tr.part (Tr.turn xs) k)) ∧ Below w.heap.size w wr) (fun i _ => n - (intOf i).toNat)
  case atStart => exact ⟨0, by omega, rfl, hown1, hb1⟩
  case round =>
    obtain ⟨k, hk, rfl, hown, hB⟩ := hrel
    have hsz := hB.size
    by_cases hlt : k < n
    · obtain ⟨ad, rfl, hb, hl, hd⟩ := (H.out.below hB).at_ hlt
      obtain ⟨wz, hwz⟩ : ∃ wz, wz = wr.alloc (.cells #[.int .i64 (Tr.l xs k), .int .i64 (Tr.d xs k)] 124) := ⟨_, rfl⟩
      have hb2 := Lib.hid (show Below wr.heap.size wr wz by rw [hwz]; exact (Below.refl _ _).alloc (Nat.le_refl _) _)
      have Ho := Lib.hid (own_below hown hb2.out)
      have HB := Lib.hid hB
      have HZ := Lib.hid hwz
      have c0 := own_even Ho.out (k := k) (by rw [Tr.part_length _ _ (by rw [HT.out]; omega), HT.out]; omega)
      have c1 := own_odd Ho.out (k := k) (by rw [Tr.part_length _ _ (by rw [HT.out]; omega), HT.out]; omega)
      have f0 := Ho.out.frozenAt (k * 2)
      have f1 := Ho.out.frozenAt (k * 2 + 1)
      have p0 : wz.cell? ⟨wr.heap.size, 0, none⟩ = some (.int .i64 (Tr.l xs k)) := by rw [hwz]; simp
      have p1 : wz.cell? ⟨wr.heap.size, 1, none⟩ = some (.int .i64 (Tr.d xs k)) := by rw [hwz]; simp
      rw [hwz] at c0 c1 f0 f1 p0 p1
      clear hown hB hwz
      go_wp2
      rw [← HZ.out]
      go_roundw
      case rel =>
        refine ⟨k + 1, by omega, by go_num, ?_, ?_⟩
        · have := own_set Ho.out k (Tr.d xs k) (Tr.l xs k)
          rw [← Tr.turn_l xs (by rw [HL.out]; exact hlt), ← Tr.turn_d xs (by rw [HL.out]; exact hlt), Tr.part_set (Tr.turn xs) k (by rw [HT.out]; exact hlt)] at this
          rw [← Tr.turn_l xs (by rw [HL.out]; exact hlt), ← Tr.turn_d xs (by rw [HL.out]; exact hlt)]
          exact this
        · exact ((HB.out.trans (hb2.out.mono hsz)).setCell (Nat.le_refl _) _).setCell (Nat.le_refl _) _
      case measure => simp [intOf]; omega
    · obtain rfl : k = n := by omega
      rw [← HT.out, Tr.part_full, HT.out] at hown
      rw [← HT.out] at hown
      go_wp2
      go_ret
      exact ⟨some ⟨w.heap.size, 0, none⟩, k, by rw [HT.out]; rfl, by rw [HT.out] at hown ⊢; exact hown, hB⟩

end Go.Proofs.Ytgkkeejhfofcaaa

/- Contracts (UnI). -/
namespace Go.Proofs.Ytgkkeejhfofcaaa
open Go.RowKit
set_option linter.unusedVariables false

theorem info_itUI : (Try.prog.info? 3).map (fun i => (i.zero, i.size, i.bytes)) = some (some (.int .i64 0), 1, 8) := by kernel_rfl
theorem info_blUI : (Try.prog.info? 4).map (fun i => (i.zero, i.size, i.bytes)) = some (some (.bool false), 1, 1) := by kernel_rfl
theorem made_bools (n : Nat) : (madeCells (Value.bool false).cells (n * 1)).toList = bools (fun _ => false) n := by
  unfold madeCells bools
  refine List.ext_getElem (by simp) fun k h1 h2 => ?_
  simp at h1 h2 ⊢
  show (#[Value.bool false] : Array Value)[k % 1]! = _
  rw [Nat.mod_one]
  rfl
theorem own_bool {w : World} {base g n c : Nat} {e : TypeId} {f : Nat → Bool} (h : w.ownsRow base e 1 (.slice (some ⟨g, 0, none⟩) n c) n (bools f n)) {k : Nat} (hk : k < n) : w.cell? ⟨g, k, none⟩ = some (.bool (f k)) := by
  rw [h.cellAt _ (by omega), bools_at _ hk]
set_option maxHeartbeats 800000 in
set_option maxRecDepth 100000 in
theorem implUnmapped_any (A A' : Option Addr) (n n' c c' : Nat) (xs ms : Tr) (w : World) (h : NdIn w w.heap.size A n xs) (h' : NdIn w w.heap.size A' n' ms) (hn : n ≤ 1048576) (hn' : n' ≤ 1048576) :
    Calls Try.prog 103 #[.slice A n c, .slice A' n' c'] w (OwnInts 3 (Un.to ms xs.length) w) := by
  have H := Lib.hid h'
  have HL := Lib.hid h.1
  have HM := Lib.hid h'.1
  clear h h'
  obtain ⟨i0, hi, hz0, hz1, hz2⟩ := info_parts info_itUI
  obtain ⟨j0, hj, hy0, hy1, hy2⟩ := info_parts info_blUI
  go_enter Try.func103, Try.ntmps103
  go_wp2_with (at_make; refine wpList_make_full _ rfl _ _ 165 rfl w.heap.size 4 j0 (.bool false) 1 Try.underlying165 hj hy0 hy1 _ _ _ _ n rfl rfl rfl rfl (by rw [hy2]; omega) (by unfold maxLen; omega) (Nat.le_refl _) ?_; intro w1 hown1 hgrow1)
  have hb1 : Below w.heap.size w w1 := (Below.refl _ w).grown hgrow1 (Nat.le_refl _) (fun _ h => by cases h)
  rw [made_bools] at hown1
  go_loopw [16] (fun iv wr => ∃ k : Nat, k ≤ n' ∧ iv = .int .i64 k ∧ wr.ownsRow w.heap.size 4 1 (.slice (some ⟨w.heap.size, 0, none⟩) n n) n (bools (fun j => Un.has ms (j : Int) k) n) ∧ Below w.heap.size w wr) (fun i _ => n' - (intOf i).toNat)
  case atStart => exact ⟨0, by omega, rfl, hown1, hb1⟩
  case round =>
    obtain ⟨k, hk, rfl, hown, hB⟩ := hrel
    have hsz := hB.size
    by_cases hlt : k < n'
    · obtain ⟨ad, rfl, hb, hl, hd⟩ := (H.out.below hB).at_ hlt
      obtain ⟨wz, hwz⟩ : ∃ wz, wz = wr.alloc (.cells #[.int .i64 (Tr.l ms k), .int .i64 (Tr.d ms k)] 124) := ⟨_, rfl⟩
      have hb2 := Lib.hid (show Below wr.heap.size wr wz by rw [hwz]; exact (Below.refl _ _).alloc (Nat.le_refl _) _)
      have Ho := Lib.hid (own_below hown hb2.out)
      have HB := Lib.hid (hB.trans (hb2.out.mono hsz))
      have HZ := Lib.hid hwz
      have p0 : wz.cell? ⟨wr.heap.size, 0, none⟩ = some (.int .i64 (Tr.l ms k)) := by rw [hwz]; simp
      obtain ⟨x, hx⟩ : ∃ x, x = Tr.l ms k := ⟨_, rfl⟩
      have HX := Lib.hid hx
      clear hown hB hwz
      by_cases hin : 0 ≤ x ∧ x < (n : Int)
      · obtain ⟨t, ht⟩ := Int.eq_ofNat_of_zero_le hin.1
        have HT := Lib.hid (show (fun j : Nat => Un.has ms (j : Int) (k + 1)) = fun j : Nat => Un.has ms (j : Int) k || decide (t = j) by
          funext j; rw [Un.has, ← HX.out, ht]; congr 1; exact decide_eq_decide.2 (by omega))
        have HTN := Lib.hid (show t < n by omega)
        have g0 : (0 : Int) ≤ (t : Int) := by omega
        have g1 : (t : Int) < (n : Int) := by omega
        rw [← hx, ht] at p0
        have c0 := own_bool Ho.out (k := t) HTN.out
        have f0 := Ho.out.frozenAt t
        have hl2 := hl
        rw [← hx, ht] at hl
        have HZ := Lib.hid (show wz = wr.alloc (.cells #[.int .i64 (t : Int), .int .i64 (Tr.d ms k)] 124) by rw [← ht, HX.out]; exact HZ.out)
        rw [HZ.out] at c0 f0 p0
        have hstored := (Ho.out.stored t (.bool true)).1
        rw [bools_set _ HTN.out, ← HT.out] at hstored
        have HS := Lib.hid hstored
        clear hin ht hx hl2 hstored
        go_wp2
        rw [← HZ.out]
        go_roundw
        case rel => exact ⟨k + 1, by omega, by go_num, HS.out, HB.out.setCell (Nat.le_refl _) _⟩
        case measure => simp [intOf]; omega
      · have HS := Lib.hid (show wz.ownsRow w.heap.size 4 1 (.slice (some ⟨w.heap.size, 0, none⟩) n n) n (bools (fun j => Un.has ms (j : Int) (k + 1)) n) by
          rw [bools_congr (g := fun j => Un.has ms (j : Int) k) (fun j hj => by
            rw [Un.has, ← HX.out, decide_eq_false (by omega), Bool.or_false])]
          exact Ho.out)
        rw [← hx] at p0 hl
        have HZ := Lib.hid (show wz = wr.alloc (.cells #[.int .i64 x, .int .i64 (Tr.d ms k)] 124) by rw [HX.out]; exact HZ.out)
        rw [HZ.out] at p0
        by_cases hneg : x < 0
        · have q0 : decide (0 ≤ x) = false := by simp; omega
          clear hin hneg hx
          go_wp2
          rw [← HZ.out]
          go_roundw
          case rel => exact ⟨k + 1, by omega, by go_num, HS.out, HB.out⟩
          case measure => simp [intOf]; omega
        · have q0 : decide (0 ≤ x) = true := by simp; omega
          have q1 : decide (x < (n : Int)) = false := by simp; omega
          clear hin hneg hx
          go_wp2
          rw [← HZ.out]
          go_roundw
          case rel => exact ⟨k + 1, by omega, by go_num, HS.out, HB.out⟩
          case measure => simp [intOf]; omega
    · obtain rfl : n' = k := by omega
      obtain ⟨ws, hws⟩ : ∃ ws, ws = wr := ⟨_, rfl⟩
      rw [← hws] at hown hB hsz
      have HW := Lib.hid hws
      have HO := Lib.hid hown
      have HB := Lib.hid hB
      have HSZ := Lib.hid hsz
      clear hown hB hsz hws
      go_wp2
      rw [← HW.out]
      go_loopw [37, 8] (fun kv ov wq => ∃ i : Nat, i ≤ n ∧ kv = .int .i64 i ∧ wq.ownsRow ws.heap.size 3 1 ov (Un.to ms i).length (ints (Un.to ms i)) ∧ Below ws.heap.size ws wq) (fun v _ _ => n - (intOf v).toNat)
      case atStart => exact ⟨0, by omega, rfl, own_nil, Below.refl _ _⟩
      case round =>
        clear HW
        obtain ⟨i, hi1, rfl, hown, hB1⟩ := hrel
        have Ho := Lib.hid hown
        have HB1 := Lib.hid hB1
        clear hown hB1
        by_cases hlt2 : i < n
        · have hsz2 := HB1.out.size
          have hlen := Un.to_len ms i
          have hi0 : (0 : Int) ≤ (i : Int) := by omega
          have hilt : (i : Int) < (n : Int) := by omega
          have c0 := own_bool (own_below HO.out HB1.out) (k := i) hlt2
          cases hq : Un.has ms (i : Int) n' with
          | true =>
            have Hs := Lib.hid (Un.to_yes (ms := ms) (i := i) (by rw [HM.out]; exact hq))
            rw [hq] at c0
            clear hq
            go_wp2
            go_roundw
            case rel => exact ⟨i + 1, by omega, by go_num, by rw [Hs.out]; exact Ho.out, HB1.out⟩
            case measure => simp [intOf]; omega
          | false =>
            have Hs := Lib.hid (Un.to_no (ms := ms) (i := i) (by rw [HM.out]; exact hq))
            rw [hq] at c0
            clear hq
            go_wp2_with (at_builtin; go_loud (refine append_int wr rfl _ _ 29 rfl ws.heap.size 3 i0 Try.underlying29 hi hz0 hz1 hz2 u8 (Un.to ms i).length (Un.to ms i) rfl Ho.out rfl (i : Int) rfl (by omega) hsz2 ?_); intro v1 w3 hown3 hgrow3)
            have hb3 := Kit.below_own HB1.out Ho.out hgrow3
            go_roundw
            case rel => exact ⟨i + 1, by omega, by go_num, by rw [Hs.out]; exact hown3, hb3⟩
            case measure => simp [intOf]; omega
        · obtain rfl : n = i := by omega
          have Ho2 := Lib.hid (own_base Ho.out HB.out.size)
          obtain ⟨A2, c2, rfl⟩ := own_slice Ho2.out
          go_wp2
          go_ret
          exact ⟨A2, c2, by rw [HL.out]; rfl, by rw [HL.out]; exact Ho2.out, HB.out.trans (HB1.out.mono HB.out.size)⟩
set_option maxHeartbeats 800000 in
set_option maxRecDepth 100000 in
theorem implMissing_any (A A' : Option Addr) (n n' c c' : Nat) (xs ms : Tr) (w : World) (h : NdIn w w.heap.size A n xs) (h' : NdIn w w.heap.size A' n' ms) (hn : n ≤ 1048576) (hn' : n' ≤ 1048576) :
    Calls Try.prog 123 #[.slice A n c, .slice A' n' c'] w (OwnInts 3 (Un.to (Tr.turn ms) xs.length) w) := by
  have H := Lib.hid h
  have H' := Lib.hid h'
  have HL := Lib.hid ((Tr.turn_length ms).trans H'.out.1)
  clear h h'
  go_enter Try.func123, Try.ntmps123
  go_wp2_with fail
  refine (implTurned_any _ _ _ ms w H'.out hn').mono ?_
  rintro e w1 ⟨A1, c1, rfl, ho, hb⟩
  have HO := Lib.hid ho
  have HB := Lib.hid hb
  clear ho hb
  go_wp2_with fail
  refine (implUnmapped_any _ _ _ _ _ _ xs (Tr.turn ms) w1 (H.out.to_below HB.out) (NdIn.of_own HO.out) hn (by rw [HL.out]; exact hn')).mono ?_
  rintro e w2 ⟨A2, c2, rfl, ho2, hb2⟩
  have HO2 := Lib.hid (own_base ho2 HB.out.size)
  have HB2 := Lib.hid (HB.out.trans (hb2.mono HB.out.size))
  clear ho2 hb2
  go_wp2
  go_ret
  exact ⟨A2, c2, rfl, HO2.out, HB2.out⟩

end Go.Proofs.Ytgkkeejhfofcaaa
