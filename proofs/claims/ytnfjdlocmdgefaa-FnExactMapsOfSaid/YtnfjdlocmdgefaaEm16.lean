/- Texts of one claim laid into one file, in build order: PrEq, HrSS, AmL, MapsS. -/
import Derived.Test.YtnfjdlocmdgefaaEm1
import Derived.Test.YtnfjdlocmdgefaaEm10
import Derived.Test.YtnfjdlocmdgefaaEm11
import Derived.Test.YtnfjdlocmdgefaaEm13
import Derived.Test.YtnfjdlocmdgefaaEm15
import Derived.Test.YtnfjdlocmdgefaaEm4
import Derived.Test.YtnfjdlocmdgefaaEm7
import Derived.Test.YtnfjdlocmdgefaaEm8
import Derived.Test.YtnfjdlocmdgefaaEm9
import Derived.Deep.RegionHeld3
import Derived.Outline
import Derived.StillTailTactics
import Derived.Test.YtnfjdlocmdgefaaRows
/- Contracts of the harness over []Pair: equality. -/
namespace Go.Proofs.Ytnfjdlocmdgefaa
open Go.RowKit
set_option linter.unusedVariables false

set_option maxHeartbeats 400000 in
theorem eqPair_any (a b c d : Int) (w : World) :
    Calls Try.prog 74 #[.agg #[.int .i64 a, .int .i64 b], .agg #[.int .i64 c, .int .i64 d]] w fun e w' => e = .returned (.bool (decide (a = c ∧ b = d))) ∧ Below w.heap.size w w' := by
  have hB : ∀ o1 o2, Below w.heap.size w ((w.alloc o1).alloc o2) := fun o1 o2 => ((Below.refl _ _).alloc (Nat.le_refl _) _).alloc (by simp) _
  by_cases h1 : a = c
  · by_cases h2 : b = d
    · subst h1 h2
      go_enter Try.func74, Try.ntmps74
      go_wp2
      go_ret
      exact ⟨Kit.ret_bool (by simp), hB _ _⟩
    · have h2' : (b != d) = true := by simpa using h2
      subst h1
      go_enter Try.func74, Try.ntmps74
      go_wp2
      go_ret
      exact ⟨Kit.ret_bool (by simp [h2]), hB _ _⟩
  · have h1' : (a != c) = true := by simpa using h1
    go_enter Try.func74, Try.ntmps74
    go_wp2
    go_ret
    exact ⟨Kit.ret_bool (by simp [h1]), hB _ _⟩


set_option maxHeartbeats 800000 in
set_option maxRecDepth 100000 in
theorem eqPairS_any (A A' : Option Addr) (n c n' c' : Nat) (xs ys : Tr) (w : World) (h : NdIn w w.heap.size A n xs) (h' : NdIn w w.heap.size A' n' ys) (hn : n ≤ 1099511627776) (hn' : n' ≤ 1099511627776) :
    Calls Try.prog 46 #[.slice A n c, .slice A' n' c'] w fun e w' => e = .returned (.bool (decide (xs = ys))) ∧ Below w.heap.size w w' := by
  have H := Lib.hid h
  have H' := Lib.hid h'
  clear h h'
  have HL := Lib.hid H.out.1
  have HL' := Lib.hid H'.out.1
  by_cases hnn : n = n'
  · go_enter Try.func46, Try.ntmps46
    have Hnn := Lib.hid hnn
    have hne : ((n : Int) != (n' : Int)) = false := by simp [hnn]
    clear hnn
    go_wp2
    go_loopw [5] (fun iv wr => ∃ k : Nat, k ≤ n ∧ iv = .int .i64 k ∧ Tr.same xs ys k ∧ Below w.heap.size w wr) (fun i _ => n - (intOf i).toNat)
    case atStart => exact ⟨0, by omega, rfl, fun j hj => absurd hj (by omega), Below.refl _ _⟩
    case round =>
      obtain ⟨k, hk, rfl, hsm, hB⟩ := hrel
      have hsz := hB.size
      have Hsm := Lib.hid hsm
      have HB := Lib.hid hB
      clear hsm hB
      by_cases hlt : k < n
      · obtain ⟨ad, rfl, hb, hl, hd⟩ := (H.out.below HB.out).at_ hlt
        obtain ⟨ad', rfl, hb', hl', hd'⟩ := (H'.out.below HB.out).at_ (k := k) (by rw [← Hnn.out]; exact hlt)
        have hlt' : (k : Int) < (n' : Int) := by rw [← Hnn.out]; omega
        have hk0 : (0 : Int) ≤ (k : Int) := by omega
        have HB2 := Lib.hid HB.out.drew
        have hsz2 := HB.out.drew.size
        by_cases hq : Tr.l xs k = Tr.l ys k ∧ Tr.d xs k = Tr.d ys k
        · have hq' : decide (Tr.l xs k = Tr.l ys k ∧ Tr.d xs k = Tr.d ys k) = true := by simpa using hq
          have Hq := Lib.hid hq
          clear hq
          go_wp2
          go_still_tail 8, (by kernel_rfl)
          change wpList _ _ _ _ _ wr.drew
          generalize wr.drew = w2 at HB2 hsz2 ⊢
          go_wp2_with (go_at_call 74; refine (eqPair_any _ _ _ _ _).mono ?_; rintro e w3 ⟨rfl, hb3⟩)
          go_roundw
          case rel => exact ⟨k + 1, by omega, by go_num, fun j hj => by
            rcases Nat.lt_succ_iff_lt_or_eq.1 hj with h' | rfl
            · exact Hsm.out j h'
            · exact Hq.out, HB2.out.trans (hb3.mono hsz2)⟩
          case measure => simp [intOf]; omega
        · have hq' : decide (Tr.l xs k = Tr.l ys k ∧ Tr.d xs k = Tr.d ys k) = false := by simpa using hq
          have Hq := Lib.hid hq
          clear hq
          go_wp2
          go_still_tail 8, (by kernel_rfl)
          change wpList _ _ _ _ _ wr.drew
          generalize wr.drew = w2 at HB2 hsz2 ⊢
          go_wp2_with (go_at_call 74; refine (eqPair_any _ _ _ _ _).mono ?_; rintro e w3 ⟨rfl, hb3⟩)
          go_ret
          refine ⟨Kit.ret_bool ?_, HB2.out.trans (hb3.mono hsz2)⟩
          symm
          rw [decide_eq_false_iff_not]
          rintro rfl
          exact Hq.out ⟨rfl, rfl⟩
      · obtain rfl : k = n := by omega
        go_wp2
        go_ret
        refine ⟨Kit.ret_bool ?_, HB.out⟩
        symm
        rw [decide_eq_true_eq]
        exact Tr.ext (by rw [HL.out, HL'.out]; exact Hnn.out) (fun j hj => Hsm.out j (by rw [← HL.out]; exact hj))
  · have hne : ((n : Int) != (n' : Int)) = true := by simp; omega
    have Hq := Lib.hid (show decide (xs = ys) = false by
      rw [decide_eq_false_iff_not]; rintro rfl; exact hnn (HL.out.symm.trans HL'.out))
    clear hnn
    go_enter Try.func46, Try.ntmps46
    go_wp2
    go_ret
    exact ⟨Kit.ret_bool Hq.out.symm, Below.refl _ _⟩

end Go.Proofs.Ytnfjdlocmdgefaa

/- Contracts (HrSS). -/
namespace Go.Proofs.Ytnfjdlocmdgefaa
open Go.RowKit
set_option linter.unusedVariables false


section
variable {wa wx wy : World} {s g i j : Nat} {v0 v1 : Value}
theorem e2_below (h : (wx.cell? ⟨s, i, none⟩ = some v0 ∧ wx.cell? ⟨g, j, none⟩ = some v1) ∧ BelA wa wx) : Below wa.heap.size wa wx := h.2
theorem e2_keep (h : (wx.cell? ⟨s, i, none⟩ = some v0 ∧ wx.cell? ⟨g, j, none⟩ = some v1) ∧ BelA wa wx) (hb : Below wx.heap.size wx wy) : (wy.cell? ⟨s, i, none⟩ = some v0 ∧ wy.cell? ⟨g, j, none⟩ = some v1) ∧ BelA wa wy :=
  have c : ∀ {p : Addr} {v : Value}, wx.cell? p = some v → wy.cell? p = some v := fun hc => (hb.cell (World.block_lt_of_cell? _ _ hc)).trans hc
  ⟨⟨c h.1.1, c h.1.2⟩, h.2.trans (hb.mono h.2.size)⟩
end
set_option maxHeartbeats 800000 in
set_option maxRecDepth 100000 in
theorem eqPairSS_same (A A' : Option Addr) (m c c' base base' : Nat) (vs vs' : List Value) (ms : List Tr) (w : World) (h : RowsP w base (.slice A m c) vs ms) (h' : RowsP w base' (.slice A' m c') vs' ms) (hm : m = ms.length) (hb : m ≤ 1048576) (hl : ∀ i, i < m → (ms.getD i []).length ≤ 1048576) :
    Calls Try.prog 19 #[.slice A m c, .slice A' m c'] w fun e w' => e = .returned (.bool true) ∧ Below w.heap.size w w' := by
  have H := Lib.hid h
  have H' := Lib.hid h'
  have HM := Lib.hid hm
  have HL := Lib.hid hl
  clear h h' hm hl
  have hne : ((m : Int) != (m : Int)) = false := by simp
  go_enter Try.func19, Try.ntmps19
  go_wp2
  go_loopw [5] (fun iv wr => ∃ i : Nat, i ≤ m ∧ iv = .int .i64 i ∧ Hid (Below w.heap.size w wr)) (fun i _ => m - (intOf i).toNat)
  case atStart => exact ⟨0, by omega, rfl, Lib.hid (Below.refl _ _)⟩
  case round =>
    obtain ⟨i, hi, rfl, HB⟩ := hrel
    by_cases hlt : i < m
    · have him : i < ms.length := by rw [← HM.out]; exact hlt
      obtain ⟨g, Ai, ci, rfl, _, _, k1, r1⟩ := (H.out.below HB.out).cell HM.out him
      obtain ⟨g', Ai', ci', rfl, _, _, k2, r2⟩ := (H'.out.below HB.out).cell HM.out him
      have hl := HL.out i hlt
      have QM := Lib.hid (fun (wq : World) (hb : Below wr.heap.size wr wq) => show Calls Try.prog 46 #[.slice Ai (ms.getD i []).length ci, .slice Ai' (ms.getD i []).length ci'] wq fun e w' => e = .returned (.bool true) ∧ Below wq.heap.size wq w' from
        (eqPairS_any Ai Ai' _ ci _ ci' _ _ wq ((NdIn.of_own r1).to_below hb) ((NdIn.of_own r2).to_below hb) (by omega) (by omega)).mono (by
          rintro e w' ⟨rfl, h⟩
          exact ⟨by rw [decide_eq_true rfl], h⟩))
      obtain ⟨li, hli⟩ : ∃ li, li = (ms.getD i []).length := ⟨_, rfl⟩
      rw [← hli] at QM k1 k2
      have S0 := Lib.hid (show (wr.drew.cell? ⟨g, i, none⟩ = some (.slice Ai li ci) ∧ wr.drew.cell? ⟨g', i, none⟩ = some (.slice Ai' li ci')) ∧ BelA wr wr.drew from ⟨⟨k1, k2⟩, (Drawn.refl _).drew.toBelow⟩)
      clear k1 k2 r1 r2 hli hl
      have hiI : (i : Int) < (m : Int) := by omega
      have hi0 : (0 : Int) ≤ (i : Int) := by omega
      go_wp2_with fail
      go_region_held3 (fun wq => (wq.cell? ⟨g, i, none⟩ = some (.slice Ai li ci) ∧ wq.cell? ⟨g', i, none⟩ = some (.slice Ai' li ci')) ∧ BelA wr wq) (first | (with_reducible exact SC) | (with_reducible exact S0.out)) (first | ((go_at_call 46; with_reducible refine (QM.out _ (e2_below (by assumption))).mono ?_); rintro e w5 ⟨rfl, hb5⟩; have SC := e2_keep (by assumption) hb5))
      have HB5 := Lib.hid (HB.out.trans ((e2_below SC).mono HB.out.size))
      clear SC S0 QM
      go_wp2
      go_roundw
      case rel => exact ⟨i + 1, by omega, by go_num, HB5⟩
      case measure => simp [intOf]; omega
    · obtain rfl : i = m := by omega
      go_wp2
      go_ret
      exact ⟨rfl, HB.out⟩
set_option maxHeartbeats 800000 in
set_option maxRecDepth 100000 in
theorem markPairSS_any (A : Option Addr) (m c base : Nat) (vs : List Value) (ms : List Tr) (k0 : Int) (w : World) (h : RowsD w base (.slice A m c) vs ms) (hm : m = ms.length) (hb : m ≤ 1048576) (h0 : 0 ≤ k0) (h1 : k0 ≤ 1048576) (hT : Rm.at ms m ≤ 1048576) (hbase : base ≤ w.heap.size) :
    Calls Try.prog 22 #[.slice A m c, .int .i64 k0] w fun e w' => e = .returned (.int .i64 (k0 + 2 * (Rm.at ms m : Nat))) ∧ RowsD w' base (.slice A m c) vs (Rm.mk k0 ms m) ∧ Below base w w' := by
  have H := Lib.hid h
  have HM := Lib.hid hm
  clear h hm
  go_enter Try.func22, Try.ntmps22
  go_wp2
  go_loopw [5, 1] (fun iv kv wr => ∃ i : Nat, i ≤ m ∧ iv = .int .i64 i ∧ kv = .int .i64 (k0 + 2 * (Rm.at ms i : Nat)) ∧ Hid (RowsD wr base (.slice A m c) vs (Rm.mk k0 ms i) ∧ Below base w wr)) (fun i _ _ => m - (intOf i).toNat)
  case atStart => exact ⟨0, by omega, rfl, by simp [Rm.at], Lib.hid ⟨by rw [Rm.mk_zero]; exact H.out, Below.refl _ _⟩⟩
  case round =>
    obtain ⟨i, hi, rfl, rfl, HR⟩ := hrel
    by_cases hlt : i < m
    · have him : i < ms.length := by rw [← HM.out]; exact hlt
      have mono := Rm.mono (ms := ms) (i := i + 1) (j := m) (by omega)
      have aeq : Rm.at ms (i + 1) = Rm.at ms i + (ms.getD i []).length := rfl
      obtain ⟨g, Ai, ci, rfl, hg, hvi, k1, r1⟩ := HR.out.1.1.cell (by rw [Rm.mk_len]; exact HM.out) (by rw [Rm.mk_len]; exact him)
      rw [Rm.mk_at him, if_neg (Nat.lt_irrefl _)] at hvi k1 r1
      have MC := Lib.hid ((markPairS_any Ai _ ci base 77 (k0 + 2 * (Rm.at ms i : Nat)) _ wr r1 (by omega) (by omega) (by omega)).mono (R' := fun e w' => e = .returned (.int .i64 (k0 + 2 * (Rm.at ms (i + 1) : Nat))) ∧ Hid (RowsD w' base (.slice (some ⟨g, 0, none⟩) m c) vs (Rm.mk k0 ms (i + 1)) ∧ Below base w w')) (by
        rintro e w' ⟨rfl, ho, hgr⟩
        refine ⟨by rw [aeq]; congr 2; omega, Lib.hid ⟨HR.out.1.mark him (by rw [hvi]; exact hgr) (by rw [hvi]; exact ho), HR.out.2.grown hgr (Nat.le_trans hbase HR.out.2.size) (fun q hq => (r1.lt q hq).1)⟩⟩))
      obtain ⟨li, hli⟩ : ∃ li, li = (ms.getD i []).length := ⟨_, rfl⟩
      rw [← hli] at MC k1
      have hiI : (i : Int) < (m : Int) := by omega
      have hi0 : (0 : Int) ≤ (i : Int) := by omega
      clear HR hvi r1 hli aeq mono hg
      go_wp2_with (go_at_call 48; refine MC.out.mono ?_; rintro e w5 ⟨rfl, H5⟩)
      go_roundw
      case rel => exact ⟨i + 1, by omega, by go_num, rfl, H5⟩
      case measure => simp [intOf]; omega
    · obtain rfl : i = m := by omega
      go_wp2
      go_ret
      exact ⟨rfl, HR.out⟩
set_option maxHeartbeats 800000 in
set_option maxRecDepth 100000 in
theorem heldPairSS_any (A : Option Addr) (m c base : Nat) (vs : List Value) (ms : List Tr) (k0 : Int) (w : World) (h : RowsP w base (.slice A m c) vs (Rm.mk k0 ms m)) (hm : m = ms.length) (hb : m ≤ 1048576) (h0 : 0 ≤ k0) (h1 : k0 ≤ 1048576) (hT : Rm.at ms m ≤ 1048576) :
    Calls Try.prog 23 #[.slice A m c, .int .i64 k0] w fun e w' => e = .returned (.int .i64 (k0 + 2 * (Rm.at ms m : Nat))) ∧ w' = w := by
  have H := Lib.hid h
  have HM := Lib.hid hm
  clear h hm
  go_enter Try.func23, Try.ntmps23
  go_wp2
  go_loopw [5, 1] (fun iv kv wr => ∃ i : Nat, i ≤ m ∧ iv = .int .i64 i ∧ kv = .int .i64 (k0 + 2 * (Rm.at ms i : Nat)) ∧ wr = w) (fun i _ _ => m - (intOf i).toNat)
  case atStart => exact ⟨0, by omega, rfl, by simp [Rm.at], rfl⟩
  case round =>
    obtain ⟨i, hi, rfl, rfl, rfl⟩ := hrel
    by_cases hlt : i < m
    · have him : i < ms.length := by rw [← HM.out]; exact hlt
      have mono := Rm.mono (ms := ms) (i := i + 1) (j := m) (by omega)
      have aeq : Rm.at ms (i + 1) = Rm.at ms i + (ms.getD i []).length := rfl
      obtain ⟨g, Ai, ci, rfl, hg, hvi, k1, r1⟩ := H.out.cell (by rw [Rm.mk_len]; exact HM.out) (by rw [Rm.mk_len]; exact him)
      rw [Rm.mk_at him, if_pos hlt, marks_len] at hvi k1 r1
      have MC := Lib.hid ((heldPairS_any Ai _ ci base 77 (k0 + 2 * (Rm.at ms i : Nat)) wr r1 (by omega) (by omega) (by omega)).mono (R' := fun e w' => e = .returned (.int .i64 (k0 + 2 * (Rm.at ms (i + 1) : Nat))) ∧ w' = wr) (by
        rintro e w' ⟨rfl, rfl⟩
        exact ⟨by rw [aeq]; congr 2; omega, rfl⟩))
      obtain ⟨li, hli⟩ : ∃ li, li = (ms.getD i []).length := ⟨_, rfl⟩
      rw [← hli] at MC k1
      have hiI : (i : Int) < (m : Int) := by omega
      have hi0 : (0 : Int) ≤ (i : Int) := by omega
      have q1 : decide ((k0 + 2 * (Rm.at ms (i + 1) : Nat)) < 0) = false := decide_eq_false (by omega)
      clear hvi r1 hli aeq mono hg
      go_wp2_with (go_at_call 49; refine MC.out.mono ?_; rintro e w5 ⟨rfl, rfl⟩)
      go_roundw
      case rel => exact ⟨i + 1, by omega, by go_num, rfl, by first | rfl | trivial⟩
      case measure => simp [intOf]; omega
    · obtain rfl : i = m := by omega
      go_wp2
      go_ret
      exact ⟨rfl, rfl⟩

end Go.Proofs.Ytnfjdlocmdgefaa

/- Contracts (AmL). -/
namespace Go.Proofs.Ytnfjdlocmdgefaa
open Go.RowKit
set_option linter.unusedVariables false

/-- the least cost of the first i rows, -1 of none -/
def Am.out (xs ys : Tr) (k : Co) (l : List Tr) : Nat → Int
  | 0 => -1
  | i + 1 => if i = 0 ∨ Mp.cost xs ys k (l.getD i []) < Am.out xs ys k l i then Mp.cost xs ys k (l.getD i []) else Am.out xs ys k l i
def Am.least (xs ys : Tr) (k : Co) : Int := if (Tr.ok xs && Tr.ok ys && decide (xs.length ≤ 5) && decide (ys.length ≤ 5)) && Co.ok k then Tr.rootDist xs ys k else -1
section
variable {xs ys : Tr} {k : Co}
theorem Am.all_yes (h : (Tr.ok xs && Tr.ok ys && decide (xs.length ≤ 5) && decide (ys.length ≤ 5)) = true) : Am.all xs ys = Am.more xs ys (xs.length - 1) [(0, 0)] := by rw [Am.all, if_pos h]
theorem Am.all_no (h : (Tr.ok xs && Tr.ok ys && decide (xs.length ≤ 5) && decide (ys.length ≤ 5)) = false) : Am.all xs ys = [] := by rw [Am.all, if_neg (by rw [h]; simp)]
theorem Am.start_ok (hx : Tr.ok xs = true) (hy : Tr.ok ys = true) : Mp.ok xs ys [(0, 0)] = true := by
  have x1 := (Tr.len24 hx).1
  have y1 := (Tr.len24 hy).1
  refine Mp.ok_iff.2 ⟨hx, hy, fun e he => ?_, List.pairwise_singleton _ _⟩
  obtain rfl := List.mem_singleton.1 he
  exact ⟨Tr.has_iff.2 ⟨hx, by dsimp only; omega, by dsimp only; omega⟩, Tr.has_iff.2 ⟨hy, by dsimp only; omega, by dsimp only; omega⟩⟩
/-- each of them: valid, root to root -/
theorem Am.all_ok {L : Tr} (hL : L ∈ Am.all xs ys) : Mp.ok xs ys L = true ∧ Tr.rooted L = true := by
  cases h : (Tr.ok xs && Tr.ok ys && decide (xs.length ≤ 5) && decide (ys.length ≤ 5)) with
  | false => rw [Am.all_no h] at hL; cases hL
  | true =>
    rw [Am.all_yes h] at hL
    simp only [Bool.and_eq_true] at h
    obtain ⟨h1, Z, rfl⟩ := Am.more_ok _ _ (Am.start_ok h.1.1.1 h.1.1.2) L hL
    exact ⟨h1, by simp [Tr.rooted, Tr.l, Tr.d]⟩
theorem Am.all_len : (Am.all xs ys).length ≤ 3125 := by
  cases h : (Tr.ok xs && Tr.ok ys && decide (xs.length ≤ 5) && decide (ys.length ≤ 5)) with
  | false => rw [Am.all_no h]; decide
  | true =>
    rw [Am.all_yes h]
    simp only [Bool.and_eq_true, decide_eq_true_eq] at h
    have a := (Am.more_len (xs := xs) (Tr.len24 h.1.1.2).1 (xs.length - 1) [(0, 0)]).2
    have b : ys.length ^ (xs.length - 1) ≤ 5 ^ (xs.length - 1) := Nat.pow_le_pow_left h.2 _
    have c : 5 ^ (xs.length - 1) ≤ 5 ^ 5 := Nat.pow_le_pow_right (by decide) (by omega)
    have d : 5 ^ 5 = 3125 := by decide
    omega
end

end Go.Proofs.Ytnfjdlocmdgefaa

/- Contracts (MapsS). -/
namespace Go.Proofs.Ytnfjdlocmdgefaa
open Go.RowKit
set_option linter.unusedVariables false


set_option maxHeartbeats 800000 in
set_option maxRecDepth 100000 in
theorem specMapsOf_any {xs ys : Tr} {A A' : Option Addr} {n n' c c' : Nat} (w : World) (ha : NdIn w w.heap.size A n xs) (hb : NdIn w w.heap.size A' n' ys) (hn : n ≤ 1048576) (hn' : n' ≤ 1048576) :
    Calls Try.prog 16 #[.slice A n c, .slice A' n' c'] w (OwnRows (Am.all xs ys) w) := by
  have T1 : ∀ wq, Drawn w wq → Calls Try.prog 10 #[.slice A n c] wq fun e w' => e = .returned (.bool (Tr.ok xs)) ∧ Drawn w w' := fun wq hd => (specTreeOk_any A n c xs wq (ha.to_drawn hd) hn).mono fun e w' h => ⟨h.1, hd.trans h.2⟩
  have T2 : ∀ wq, Drawn w wq → Calls Try.prog 10 #[.slice A' n' c'] wq fun e w' => e = .returned (.bool (Tr.ok ys)) ∧ Drawn w w' := fun wq hd => (specTreeOk_any A' n' c' ys wq (hb.to_drawn hd) hn').mono fun e w' h => ⟨h.1, hd.trans h.2⟩
  have EM : ∀ wq, Drawn w wq → Am.all xs ys = [] → OwnRows (Am.all xs ys) w (.returned (.slice (some ⟨wq.heap.size, 0, none⟩) 0 0)) (wq.alloc (.cells #[] 36)) := fun wq hd he => by
    have hb0 : Below w.heap.size w wq := hd.toBelow
    rw [he]
    exact ⟨_, [], rfl, ⟨World.ownsRow_lit wq #[] 0 hb0.size (Nat.zero_le _) rfl, rfl, fun i hi => absurd hi (Nat.not_lt_zero _)⟩, hb0.alloc hb0.size _⟩
  have MR : Tr.ok xs = true → Tr.ok ys = true → n ≤ 5 → n' ≤ 5 → ∀ wq, Drawn w wq → Calls Try.prog 44 #[.slice A n c, .slice A' n' c', .slice (some ⟨wq.heap.size, 0, none⟩) 1 1, .int .i64 1] (wq.alloc (.cells #[.int .i64 0, .int .i64 0] 77)) fun e w' => ∃ v, e = .returned v ∧ Hid (OwnRows (Am.all xs ys) w (.returned v) w') := fun h1 h2 h3 h4 wq hd => by
    have hb0 : Below w.heap.size w wq := hd.toBelow
    have b2 : Below w.heap.size w (wq.alloc (.cells #[.int .i64 0, .int .i64 0] 77)) := hb0.alloc hb0.size _
    have nx := ha.1
    have ny := hb.1
    have x1 := (Tr.len24 h1).1
    have o := World.ownsRow_lit (base := w.heap.size) (size := 2) (e := 77) wq #[.int .i64 0, .int .i64 0] 1 hb0.size (by decide) rfl
    refine (specMore_any h1 h2 nx.symm ny.symm h3 h4 (xs.length - 1) 1 1 1 ⟨wq.heap.size, 0, none⟩ 1 [(0, 0)] _ (by omega) (Nat.le_refl _) rfl (Nat.le_refl _) (Nat.le_refl _) (ha.to_below b2) (hb.to_below b2) (NdIn.of_own o)).mono ?_
    rintro e w' ⟨v, vs, rfl, hr, hb'⟩
    rw [Am.all_yes (by rw [h1, h2, decide_eq_true (by omega), decide_eq_true (by omega)]; rfl)]
    exact ⟨v, rfl, Lib.hid ⟨v, vs, rfl, hr.lower b2.size, b2.trans (hb'.mono b2.size)⟩⟩
  have D0 := Lib.hid (Drawn.refl w)
  have HT1 := Lib.hid T1
  have HT2 := Lib.hid T2
  have HEM := Lib.hid EM
  have HMR := Lib.hid MR
  have nx := Lib.hid ha.1
  have ny := Lib.hid hb.1
  clear T1 T2 EM MR ha hb
  cases hx : Tr.ok xs with
  | false =>
    have HN := Lib.hid (show Am.all xs ys = [] from Am.all_no (by rw [hx]; rfl))
    rw [hx] at HT1
    clear hx HMR HT2
    go_enter Try.func16, Try.ntmps16
    go_wp2_with (go_at_call 10; refine (HT1.out _ D0.out).mono ?_; rintro e w2 ⟨rfl, hd⟩; have HD := Lib.hid hd; clear hd)
    go_ret
    exact HEM.out _ HD.out HN.out
  | true =>
    cases hy : Tr.ok ys with
    | false =>
      have HN := Lib.hid (show Am.all xs ys = [] from Am.all_no (by rw [hx, hy]; rfl))
      rw [hx] at HT1
      rw [hy] at HT2
      clear hx hy HMR
      go_enter Try.func16, Try.ntmps16
      go_wp2_with (go_at_call 10; first | (refine (HT1.out _ D0.out).mono ?_; clear HT1; rintro e w2 ⟨rfl, hd⟩; have HD := Lib.hid hd; clear hd) | (refine (HT2.out _ HD.out).mono ?_; rintro e w3 ⟨rfl, hd⟩; have HD2 := Lib.hid hd; clear hd))
      go_ret
      exact HEM.out _ HD2.out HN.out
    | true =>
      by_cases h5 : n ≤ 5
      · by_cases h6 : n' ≤ 5
        · have HM2 := Lib.hid (HMR.out hx hy h5 h6)
          rw [hx] at HT1
          rw [hy] at HT2
          have q1 : decide ((5 : Int) < (n : Int)) = false := by simp; omega
          have q2 : decide ((5 : Int) < (n' : Int)) = false := by simp; omega
          clear hx hy HMR HEM
          go_enter Try.func16, Try.ntmps16
          go_wp2_with (first
            | (go_at_call 10; first | (refine (HT1.out _ D0.out).mono ?_; clear HT1; rintro e w2 ⟨rfl, hd⟩; have HD := Lib.hid hd; clear hd) | (refine (HT2.out _ HD.out).mono ?_; rintro e w3 ⟨rfl, hd⟩; have HD2 := Lib.hid hd; clear hd))
            | (go_at_call 44; refine (HM2.out _ HD2.out).mono ?_; rintro e w4 ⟨v, rfl, h4⟩))
          go_ret
          exact h4.out
        · have HN := Lib.hid (show Am.all xs ys = [] from Am.all_no (by rw [hx, hy, decide_eq_false (show ¬ ys.length ≤ 5 by rw [ny.out]; exact h6), Bool.and_false]))
          rw [hx] at HT1
          rw [hy] at HT2
          have q1 : decide ((5 : Int) < (n : Int)) = false := by simp; omega
          have q2 : decide ((5 : Int) < (n' : Int)) = true := by simp; omega
          clear hx hy HMR
          go_enter Try.func16, Try.ntmps16
          go_wp2_with (go_at_call 10; first | (refine (HT1.out _ D0.out).mono ?_; clear HT1; rintro e w2 ⟨rfl, hd⟩; have HD := Lib.hid hd; clear hd) | (refine (HT2.out _ HD.out).mono ?_; rintro e w3 ⟨rfl, hd⟩; have HD2 := Lib.hid hd; clear hd))
          go_ret
          exact HEM.out _ HD2.out HN.out
      · have HN := Lib.hid (show Am.all xs ys = [] from Am.all_no (by rw [hx, hy, decide_eq_false (show ¬ xs.length ≤ 5 by rw [nx.out]; exact h5), Bool.and_false, Bool.false_and]))
        rw [hx] at HT1
        rw [hy] at HT2
        have q1 : decide ((5 : Int) < (n : Int)) = true := by simp; omega
        clear hx hy HMR
        go_enter Try.func16, Try.ntmps16
        go_wp2_with (go_at_call 10; first | (refine (HT1.out _ D0.out).mono ?_; clear HT1; rintro e w2 ⟨rfl, hd⟩; have HD := Lib.hid hd; clear hd) | (refine (HT2.out _ HD.out).mono ?_; rintro e w3 ⟨rfl, hd⟩; have HD2 := Lib.hid hd; clear hd))
        go_ret
        exact HEM.out _ HD2.out HN.out

end Go.Proofs.Ytnfjdlocmdgefaa
