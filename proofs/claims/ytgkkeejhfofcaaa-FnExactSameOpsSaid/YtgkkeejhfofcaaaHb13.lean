/- Texts of one claim laid into one file, in build order: OsT, OsM, OsK, ExSameOps, CoOpen. -/
import Derived.Test.YtgkkeejhfofcaaaHb1
import Derived.Test.YtgkkeejhfofcaaaHb10
import Derived.Test.YtgkkeejhfofcaaaHb11
import Derived.Test.YtgkkeejhfofcaaaHb12
import Derived.Test.YtgkkeejhfofcaaaHb2
import Derived.Test.YtgkkeejhfofcaaaHb4
import Derived.ChangeSlices
import Derived.Lib.SmallJoins
import Derived.Outline
import Derived.Test.YtgkkeejhfofcaaaRows
import Derived.WideShapes
/- Contracts (OsT). -/
namespace Go.Proofs.Ytgkkeejhfofcaaa
open Go.RowKit
set_option linter.unusedVariables false

/-- an own row of operations, each path in a row of its own, in turn of the blocks -/
def OsOwn (w : World) (base : Nat) (v : Value) (n : Nat) (os : List Opr) (G : Nat → Nat) : Prop :=
  w.ownsRow base 39 5 v n (C5 (fun i => (os.getD i Opr.z).cell (.slice (some ⟨G i, 0, none⟩) (os.getD i Opr.z).p.length (os.getD i Opr.z).p.length)) n) ∧ os.length = n ∧
  (∀ i, i < n → w.ownsRow base 3 1 (.slice (some ⟨G i, 0, none⟩) (os.getD i Opr.z).p.length (os.getD i Opr.z).p.length) (os.getD i Opr.z).p.length (ints (os.getD i Opr.z).p)) ∧ (∀ i j, i < j → j < n → G i < G j)
/-- .. the first k made -/
def OsPart (w : World) (base : Nat) (v : Value) (n k : Nat) (os : List Opr) (G : Nat → Nat) : Prop :=
  w.ownsRow base 39 5 v n (C5 (fun i => if i < k then (os.getD i Opr.z).cell (.slice (some ⟨G i, 0, none⟩) (os.getD i Opr.z).p.length (os.getD i Opr.z).p.length) else Opr.zcell) n) ∧
  (∀ i, i < k → w.ownsRow (base + 1) 3 1 (.slice (some ⟨G i, 0, none⟩) (os.getD i Opr.z).p.length (os.getD i Opr.z).p.length) (os.getD i Opr.z).p.length (ints (os.getD i Opr.z).p)) ∧ (∀ i, i < k → base < G i ∧ G i < w.heap.size) ∧ (∀ i j, i < j → j < k → G i < G j)
set_option maxHeartbeats 3200000 in
set_option maxRecDepth 100000 in
theorem toOpS_any (A : Option Addr) (n c : Nat) (os : List Opr) (w : World) (h : OpsIn w w.heap.size A n os) (hn : n ≤ 1048576) (hp : ∀ i, (os.getD i Opr.z).p.length ≤ 1048576) :
    Calls Try.prog 43 #[.slice A n c] w fun e w' => ∃ G, e = .returned (.slice (some ⟨w.heap.size, 0, none⟩) n n) ∧ OsOwn w' w.heap.size (.slice (some ⟨w.heap.size, 0, none⟩) n n) n os G ∧ Below w.heap.size w w' := by
  have H := Lib.hid h
  have HP := Lib.hid hp
  have HL := Lib.hid h.1
  clear h hp
  obtain ⟨i0, hi0, hz0, hz1, hz2⟩ := info_parts info_op5
  go_enter Try.func43, Try.ntmps43
  go_wp2_with (at_make; refine wpList_make_full _ rfl _ _ 34 rfl w.heap.size 39 i0 (.agg #[.int .i64 0, .slice none 0 0, .int .i64 0, .int .i64 0, .int .i64 0]) 5 Try.underlying34 hi0 hz0 hz1 _ _ _ _ n rfl rfl rfl rfl (by rw [hz2]; omega) (by unfold maxLen; omega) (Nat.le_refl _) ?_; intro w1 hown1 hgrow1)
  have hb1 : Below w.heap.size w w1 := (Below.refl _ w).grown hgrow1 (Nat.le_refl _) (fun _ h => by cases h)
  rw [made_ops] at hown1
  have HO1 := Lib.hid hown1
  have HB1 := Lib.hid hb1
  clear hown1 hgrow1 hb1
  go_loopw [4] (fun iv wr => ∃ (k : Nat) (G : Nat → Nat), k ≤ n ∧ iv = .int .i64 k ∧ OsPart wr w.heap.size (.slice (some ⟨w.heap.size, 0, none⟩) n n) n k os G ∧ Below w.heap.size w wr) (fun i _ => n - (intOf i).toNat)
  case atStart => exact ⟨0, fun _ => 0, by omega, by go_num, ⟨by simpa using HO1.out, fun i hi => absurd hi (Nat.not_lt_zero i), fun i hi => absurd hi (Nat.not_lt_zero i), fun i j _ hj => absurd hj (Nat.not_lt_zero j)⟩, HB1.out⟩
  case round =>
    obtain ⟨k, G, hk, rfl, hown, hB⟩ := hrel
    have HB := Lib.hid hB
    have HO := Lib.hid (H.out.to_below hB)
    have HW := Lib.hid hown
    clear hown hB
    by_cases hlt : k < n
    · obtain ⟨ad, P, pq, rfl, y0, y1, y2, y3, y4, hI⟩ := HO.out.at_ hlt
      have HPi := Lib.hid (HP.out k)
      have HI := Lib.hid hI
      obtain ⟨o, ho⟩ : ∃ o, o = os.getD k Opr.z := ⟨_, rfl⟩
      rw [← ho] at y0 y1 y2 y3 y4 HPi HI
      have Ho := Lib.hid ho
      clear hI ho
      have b0 : (0 : Int) ≤ (k : Int) := by omega
      have b1 : (k : Int) < (n : Int) := by omega
      go_wp2_with (go_loud (go_at_call 101; refine (toOp_any _ _ _ _ o.p _ _ _ _ HI.out HPi.out).mono ?_; rintro e w2 ⟨g, rfl, ho2, hb2, hg2⟩; have HO2 := Lib.hid ho2; have HB2 := Lib.hid hb2; have HG2 := Lib.hid hg2; clear ho2 hb2 hg2; have hown2 := own_below HW.out.1 HB2.out; have d0 := own_c5 hown2 hlt (show 0 < 5 by decide); have d1 := own_c5 hown2 hlt (show 1 < 5 by decide); have d2 := own_c5 hown2 hlt (show 2 < 5 by decide); have d3 := own_c5 hown2 hlt (show 3 < 5 by decide); have d4 := own_c5 hown2 hlt (show 4 < 5 by decide); rw [if_neg (Nat.lt_irrefl k)] at d0 d1 d2 d3 d4; have f0 := hown2.frozenAt (k * 5); have f1 := hown2.frozenAt (k * 5 + 1); have f2 := hown2.frozenAt (k * 5 + 2); have f3 := hown2.frozenAt (k * 5 + 3); have f4 := hown2.frozenAt (k * 5 + 4); have d0 : w2.cell? ⟨w.heap.size, k * 5, none⟩ = some (.int .i64 0) := d0; have d1 : w2.cell? ⟨w.heap.size, k * 5 + 1, none⟩ = some (.slice none 0 0) := d1; have d2 : w2.cell? ⟨w.heap.size, k * 5 + 2, none⟩ = some (.int .i64 0) := d2; have d3 : w2.cell? ⟨w.heap.size, k * 5 + 3, none⟩ = some (.int .i64 0) := d3; have d4 : w2.cell? ⟨w.heap.size, k * 5 + 4, none⟩ = some (.int .i64 0) := d4; have D := Lib.hid (And.intro d1 (And.intro d2 (And.intro d3 (And.intro d4 (And.intro f1 (And.intro f2 (And.intro f3 f4)))))))))
      obtain ⟨d1, d2, d3, d4, f1, f2, f3, f4⟩ := D.out
      have no (i j : Nat) (hij : i ≠ j) : (⟨w.heap.size, k * 5 + i, none⟩ : Addr) ≠ ⟨w.heap.size, k * 5 + j, none⟩ := fun e => by injection e with _ e; omega
      have no0 (j : Nat) (hj : 0 ≠ j) : (⟨w.heap.size, k * 5, none⟩ : Addr) ≠ ⟨w.heap.size, k * 5 + j, none⟩ := fun e => by injection e with _ e; omega
      go_roundw
      case rel =>
        have hsw := HB.out.size
        have hlw := (HW.out.1.lt w.heap.size rfl).2
        have hg2 := HG2.out
        have hgl := (HO2.out.lt g rfl).2
        have hs2 := HB2.out.size
        have st (wv : World) (b : Nat) (P : Value) (m2 : Nat) (zs : List Int) (off : Nat) (u : Value) (hb : P.ownBlock = none ∨ P.ownBlock ≠ some w.heap.size) (h : wv.ownsRow b 3 1 P m2 (ints zs)) : (wv.setCell ⟨w.heap.size, off, none⟩ u).ownsRow b 3 1 P m2 (ints zs) := own_apart h (Kit.grown_set _ _ _ _) hb
        have st5 (b : Nat) (g' : Nat) (m2 : Nat) (zs : List Int) (hg : w.heap.size < g') (h : w2.ownsRow b 3 1 (.slice (some ⟨g', 0, none⟩) m2 m2) m2 (ints zs)) : (((((w2.setCell ⟨w.heap.size, k * 5, none⟩ (.int .i64 o.k)).setCell ⟨w.heap.size, k * 5 + 1, none⟩ (.slice (some ⟨g, 0, none⟩) o.p.length o.p.length)).setCell ⟨w.heap.size, k * 5 + 2, none⟩ (.int .i64 o.a)).setCell ⟨w.heap.size, k * 5 + 3, none⟩ (.int .i64 o.f)).setCell ⟨w.heap.size, k * 5 + 4, none⟩ (.int .i64 o.c)).ownsRow b 3 1 (.slice (some ⟨g', 0, none⟩) m2 m2) m2 (ints zs) := by
          have hne : (Value.slice (some (⟨g', 0, none⟩ : Addr)) m2 m2).ownBlock = none ∨ (Value.slice (some (⟨g', 0, none⟩ : Addr)) m2 m2).ownBlock ≠ some w.heap.size := .inr fun e => by simp only [Value.ownBlock] at e; injection e with e; omega
          exact st _ _ _ _ _ _ _ hne (st _ _ _ _ _ _ _ hne (st _ _ _ _ _ _ _ hne (st _ _ _ _ _ _ _ hne (st _ _ _ _ _ _ _ hne h))))
        obtain ⟨q1, q2, q3, q4⟩ := HW.out
        refine ⟨k + 1, fun i => if i = k then g else G i, by omega, by go_num, ⟨?_, fun i hi => ?_, fun i hi => ?_, fun i j hij hj => ?_⟩, ?_⟩
        · have r := (own_below q1 HB2.out)
          have r5 := ((((((r.stored (k * 5) (.int .i64 o.k)).1.stored (k * 5 + 1) (.slice (some ⟨g, 0, none⟩) o.p.length o.p.length)).1.stored (k * 5 + 2) (.int .i64 o.a)).1.stored (k * 5 + 3) (.int .i64 o.f)).1.stored (k * 5 + 4) (.int .i64 o.c)).1)
          rw [C5_set0, C5_set (j := 1) (by decide), C5_set (j := 2) (by decide), C5_set (j := 3) (by decide), C5_set (j := 4) (by decide)] at r5
          refine Eq.mp ?_ r5
          congr 1
          refine C5_ext fun i j hi hj => ?_
          by_cases e : i = k
          · subst e
            rw [← Ho.out]
            rcases (show j = 0 ∨ j = 1 ∨ j = 2 ∨ j = 3 ∨ j = 4 by omega) with rfl | rfl | rfl | rfl | rfl <;> simp [Opr.cell]
          · simp [e, show i < k + 1 ↔ i < k by omega]
        · by_cases e : i = k
          · subst e
            simp only [if_pos]
            rw [← Ho.out]
            exact st5 _ _ _ _ (by omega) (own_base HO2.out (by omega))
          · simp only [if_neg e]
            exact st5 _ _ _ _ (q3 i (by omega)).1 (own_below (q2 i (by omega)) HB2.out)
        · by_cases e : i = k
          · subst e
            simp only [if_pos]
            exact ⟨by omega, by simpa using hgl⟩
          · simp only [if_neg e]
            have := q3 i (by omega)
            exact ⟨this.1, by simp; omega⟩
        · by_cases e : j = k
          · subst e
            have := q3 i (by omega)
            simp only [if_neg (show ¬ i = j by omega), if_pos]
            omega
          · simp only [if_neg e, if_neg (show ¬ i = k by omega)]
            exact q4 i j hij (by omega)
        · have hb := HB.out.trans (HB2.out.mono hsw)
          exact ((((hb.setCell (p := ⟨w.heap.size, k * 5, none⟩) (Nat.le_refl _) _).setCell (p := ⟨w.heap.size, k * 5 + 1, none⟩) (Nat.le_refl _) _).setCell (p := ⟨w.heap.size, k * 5 + 2, none⟩) (Nat.le_refl _) _).setCell (p := ⟨w.heap.size, k * 5 + 3, none⟩) (Nat.le_refl _) _).setCell (p := ⟨w.heap.size, k * 5 + 4, none⟩) (Nat.le_refl _) _
      case measure => simp [intOf]; omega
    · obtain rfl : k = n := by omega
      go_wp2
      go_ret
      refine ⟨G, rfl, ⟨?_, HL.out, fun i hi => own_base (HW.out.2.1 i hi) (Nat.le_succ _), HW.out.2.2.2⟩, HB.out⟩
      rw [C5_ext (G := fun i => if i < k then (os.getD i Opr.z).cell (.slice (some ⟨G i, 0, none⟩) (os.getD i Opr.z).p.length (os.getD i Opr.z).p.length) else Opr.zcell) (fun i j hi _ => by rw [if_pos hi])]
      exact HW.out.1

end Go.Proofs.Ytgkkeejhfofcaaa

/- Contracts (OsM). -/
namespace Go.Proofs.Ytgkkeejhfofcaaa
open Go.RowKit
set_option linter.unusedVariables false

/-- how many marks the first i operations take -/
def Om.at (F : Nat → Opr) : Nat → Nat
  | 0 => 0
  | i + 1 => Om.at F i + ((F i).p.length + 4)
theorem Om.mono (F : Nat → Opr) {i j : Nat} (h : i ≤ j) : Om.at F i ≤ Om.at F j := by
  induction j with
  | zero => obtain rfl : i = 0 := by omega
            exact Nat.le_refl _
  | succ j ih =>
    rcases Nat.lt_or_ge i (j + 1) with h' | h'
    · have := ih (by omega)
      have e : Om.at F (j + 1) = Om.at F j + ((F j).p.length + 4) := rfl
      omega
    · obtain rfl : i = j + 1 := by omega
      exact Nat.le_refl _
/-- an operation overwritten by marks -/
def Om.one (k : Int) (o : Opr) : Opr := ⟨k, Zs.marks (k + 1) o.p.length, k + 1 + o.p.length, k + 1 + o.p.length + 1, k + 1 + o.p.length + 1 + 1⟩
/-- an own row of operations, by functions -/
def OsFn (w : World) (base b n : Nat) (G L : Nat → Nat) (F : Nat → Opr) : Prop :=
  w.ownsRow base 39 5 (.slice (some ⟨b, 0, none⟩) n n) n (C5 (fun i => (F i).cell (.slice (some ⟨G i, 0, none⟩) (L i) (L i))) n) ∧
  (∀ i, i < n → w.ownsRow base 3 1 (.slice (some ⟨G i, 0, none⟩) (L i) (L i)) (L i) (ints (F i).p)) ∧ (∀ i j, i < j → j < n → G i < G j) ∧ (∀ i, i < n → G i ≠ b)
theorem op_ne : 39 ≠ 3 := by decide
theorem own_row_ne {w : World} {b1 b2 n1 n2 s1 s2 : Nat} {e1 e2 : TypeId} {v1 v2 : Value} {x1 x2 : List Value} (h1 : w.ownsRow b1 e1 s1 v1 n1 x1) (h2 : w.ownsRow b2 e2 s2 v2 n2 x2) (he : e1 ≠ e2) : v1.ownBlock = none ∨ v1.ownBlock ≠ v2.ownBlock := by
  rcases h1.2 with ⟨rfl, _⟩ | ⟨g, cap, cur, rfl, _, hg, _⟩
  · exact .inl rfl
  · refine .inr fun e => ?_
    rcases h2.2 with ⟨rfl, _⟩ | ⟨g', cap', cur', rfl, _, hg', _⟩
    · cases e
    · simp only [Value.ownBlock, Option.some.injEq] at e
      subst e
      rw [hg] at hg'
      simp only [Option.some.injEq, Obj.cells.injEq] at hg'
      exact he hg'.2.1
theorem OsOwn.fn {w : World} {base b n : Nat} {os : List Opr} {G : Nat → Nat} (h : OsOwn w base (.slice (some ⟨b, 0, none⟩) n n) n os G) : OsFn w base b n G (fun i => (os.getD i Opr.z).p.length) (fun i => os.getD i Opr.z) :=
  ⟨h.1, h.2.2.1, h.2.2.2, fun i hi e => by
    rcases own_row_ne h.1 (h.2.2.1 i hi) op_ne with q | q
    · cases q
    · exact q (by simp [Value.ownBlock, e])⟩
end Go.Proofs.Ytgkkeejhfofcaaa

/- Contracts (OsK). -/
namespace Go.Proofs.Ytgkkeejhfofcaaa
open Go.RowKit
set_option linter.unusedVariables false

section
variable {w w' : World} {base b n : Nat} {os : List Opr} {G : Nat → Nat}
theorem OpsIn.of_own (h : OsOwn w base (.slice (some ⟨b, 0, none⟩) n n) n os G) : OpsIn w w.heap.size (some ⟨b, 0, none⟩) n os := by
  refine ⟨h.2.1, fun _ => ⟨_, rfl, (h.1.lt b rfl).2⟩, fun ad e i hi => ?_⟩
  obtain rfl : (⟨b, 0, none⟩ : Addr) = ad := by injection e
  have ha (k : Nat) : (⟨b, 0, none⟩ : Addr).add k = ⟨b, k, none⟩ := by simp only [Addr.add]; split <;> simp_all
  refine ⟨some ⟨G i, 0, none⟩, (os.getD i Opr.z).p.length, ⟨?_, ?_, ?_, ?_, ?_⟩, IntIn.of_own (h.2.2.1 i hi)⟩
  · rw [ha]; exact own_c5 h.1 hi (show 0 < 5 by decide)
  · rw [ha]; exact own_c5 h.1 hi (show 1 < 5 by decide)
  · rw [ha]; exact own_c5 h.1 hi (show 2 < 5 by decide)
  · rw [ha]; exact own_c5 h.1 hi (show 3 < 5 by decide)
  · rw [ha]; exact own_c5 h.1 hi (show 4 < 5 by decide)
theorem OsOwn.below {v : Value} (h : OsOwn w base v n os G) (hb : Below w.heap.size w w') : OsOwn w' base v n os G :=
  ⟨own_below h.1 hb, h.2.1, fun i hi => own_below (h.2.2.1 i hi) hb, h.2.2.2⟩
theorem OsOwn.grown {v : Value} {row : Option Nat} (h : OsOwn w base v n os G) (hg : w.grownBy w' row) (hr : ∀ k, row = some k → k < base) : OsOwn w' base v n os G :=
  ⟨own_grown h.1 hg hr, h.2.1, fun i hi => own_grown (h.2.2.1 i hi) hg hr, h.2.2.2⟩
theorem OsOwn.lt (h : OsOwn w base (.slice (some ⟨b, 0, none⟩) n n) n os G) : b < w.heap.size ∧ ∀ i, i < n → G i < w.heap.size :=
  ⟨(h.1.lt b rfl).2, fun i hi => ((h.2.2.1 i hi).lt (G i) rfl).2⟩
theorem Os.path_le {N : Nat} (hl : os.length = n) (h : Os.tot os n ≤ N) (i : Nat) : (os.getD i Opr.z).p.length ≤ N := by
  by_cases hi : i < n
  · exact Nat.le_trans (Os.tot_one os hi) h
  · rw [List.getD_eq_getElem?_getD, List.getElem?_eq_none (by omega)]
    exact Nat.zero_le _
end

end Go.Proofs.Ytgkkeejhfofcaaa

/- Contracts (ExSameOps). -/
namespace Go.Proofs.Ytgkkeejhfofcaaa
open Go.RowKit
set_option linter.unusedVariables false

set_option maxHeartbeats 3200000 in
set_option maxRecDepth 100000 in
theorem exactSameOps_walk (A0 : Option Addr) (n0 c0 : Nat) (os0 : List Opr) (A1 : Option Addr) (n1 c1 : Nat) (os1 : List Opr) (le0 : n0 ≤ maxLen) (lp0 : ∀ i, (os0.getD i Opr.z).p.length ≤ maxLen) (le1 : n1 ≤ maxLen) (lp1 : ∀ i, (os1.getD i Opr.z).p.length ≤ maxLen) (w : World) (h0 : OpsIn w w.heap.size A0 n0 os0) (h1 : OpsIn w w.heap.size A1 n1 os1) :
    Calls Try.prog 9 #[.slice A0 n0 c0, .slice A1 n1 c1] w fun e w' => e = .returned (.bool true) ∧ Below w.heap.size w w' := by
  have Ia0 := Lib.hid h0
  clear h0
  unfold maxLen at le0 lp0
  have Ia1 := Lib.hid h1
  clear h1
  unfold maxLen at le1 lp1
  by_cases hs0 : (n0 + Os.tot os0 n0) ≤ 1048576
  rotate_left
  · go_enter Try.func9, Try.ntmps9
    go_wp2_with fail
    refine (szOpS_any _ _ _ os0 _ _ Ia0.out le0 lp0 (by omega) (by omega)).mono ?_
    rintro e wy ⟨rfl, hb⟩
    have HB := Lib.hid hb
    clear hb
    rw [if_neg (by omega)]
    go_wp2
    go_ret
    exact ⟨rfl, HB.out⟩
  by_cases hs1 : (n0 + Os.tot os0 n0) + (n1 + Os.tot os1 n1) ≤ 1048576
  rotate_left
  · go_enter Try.func9, Try.ntmps9
    go_wp2_with fail
    refine (szOpS_any _ _ _ os0 _ _ Ia0.out le0 lp0 (by omega) (by omega)).mono ?_
    rintro e wy ⟨rfl, hb⟩
    have HB := Lib.hid hb
    clear hb
    rw [if_pos (by omega)]
    go_wp2_with fail
    refine (szOpS_any _ _ _ os1 _ _ (OpsIn.to_below Ia1.out HB.out) le1 lp1 (by omega) (by omega)).mono ?_
    rintro e wy ⟨rfl, hb⟩
    have HB := Lib.hid (HB.out.trans (hb.mono HB.out.size))
    clear hb
    rw [if_neg (by omega)]
    go_wp2
    go_ret
    exact ⟨rfl, HB.out⟩
  have hm0 : n0 ≤ 1048576 := by omega
  have hp0 := Os.path_le (N := 1048576) Ia0.out.1 (by omega)
  have hm1 : n1 ≤ 1048576 := by omega
  have hp1 := Os.path_le (N := 1048576) Ia1.out.1 (by omega)
  go_enter Try.func9, Try.ntmps9
  go_wp2_with fail
  refine (szOpS_any _ _ _ os0 _ _ Ia0.out le0 lp0 (by omega) (by omega)).mono ?_
  rintro e wy ⟨rfl, hb⟩
  have HB := Lib.hid hb
  clear hb
  rw [if_pos (by omega)]
  go_wp2_with fail
  refine (szOpS_any _ _ _ os1 _ _ (OpsIn.to_below Ia1.out HB.out) le1 lp1 (by omega) (by omega)).mono ?_
  rintro e wy ⟨rfl, hb⟩
  have HB := Lib.hid (HB.out.trans (hb.mono HB.out.size))
  clear hb
  rw [if_pos (by omega)]
  have La0 := Lib.hid HB.out
  have La1 := Lib.hid HB.out
  have LW := Lib.hid HB.out
  clear HB
  go_wp2_with fail
  refine (toOpS_any _ _ _ os0 wy (OpsIn.to_below Ia0.out La0.out) hm0 hp0).mono ?_
  rintro e w1 ⟨Gs0, rfl, ho, hb⟩
  have La0 := Lib.hid (La0.out.trans (hb.mono La0.out.size))
  have La1 := Lib.hid (La1.out.trans (hb.mono La1.out.size))
  have LW := Lib.hid (LW.out.trans (hb.mono LW.out.size))
  clear hb
  have Is0 := Lib.hid (OpsIn.of_own ho)
  have Ls0 := Lib.hid (Below.refl (World.heap w1).size w1)
  clear ho
  go_wp2_with fail
  refine (toOpS_any _ _ _ os1 w1 (OpsIn.to_below Ia1.out La1.out) hm1 hp1).mono ?_
  rintro e w2 ⟨Gs1, rfl, ho, hb⟩
  have La0 := Lib.hid (La0.out.trans (hb.mono La0.out.size))
  have La1 := Lib.hid (La1.out.trans (hb.mono La1.out.size))
  have Ls0 := Lib.hid (Ls0.out.trans (hb.mono Ls0.out.size))
  have LW := Lib.hid (LW.out.trans (hb.mono LW.out.size))
  clear hb
  have Is1 := Lib.hid (OpsIn.of_own ho)
  have Ls1 := Lib.hid (Below.refl (World.heap w2).size w2)
  clear ho
  go_wp2_with fail
  refine (specSameOps_any _ _ _ _ _ _ os0 os1 _ (OpsIn.to_below Is0.out Ls0.out) (OpsIn.to_below Is1.out Ls1.out) hm0 hm1 hp0 hp1).mono ?_
  rintro e w3 ⟨rfl, hb⟩
  have La0 := Lib.hid (La0.out.trans (hb.mono La0.out.size))
  have La1 := Lib.hid (La1.out.trans (hb.mono La1.out.size))
  have Ls0 := Lib.hid (Ls0.out.trans (hb.mono Ls0.out.size))
  have Ls1 := Lib.hid (Ls1.out.trans (hb.mono Ls1.out.size))
  have LW := Lib.hid (LW.out.trans (hb.mono LW.out.size))
  clear hb
  go_wp2_with fail
  refine (toOpS_any _ _ _ os0 w3 (OpsIn.to_below Ia0.out La0.out) hm0 hp0).mono ?_
  rintro e w4 ⟨Gx0, rfl, ho, hb⟩
  have La0 := Lib.hid (La0.out.trans (hb.mono La0.out.size))
  have La1 := Lib.hid (La1.out.trans (hb.mono La1.out.size))
  have Ls0 := Lib.hid (Ls0.out.trans (hb.mono Ls0.out.size))
  have Ls1 := Lib.hid (Ls1.out.trans (hb.mono Ls1.out.size))
  have LW := Lib.hid (LW.out.trans (hb.mono LW.out.size))
  clear hb
  have Ix0 := Lib.hid (OpsIn.of_own ho)
  have Lx0 := Lib.hid (Below.refl (World.heap w4).size w4)
  clear ho
  go_wp2_with fail
  refine (toOpS_any _ _ _ os1 w4 (OpsIn.to_below Ia1.out La1.out) hm1 hp1).mono ?_
  rintro e w5 ⟨Gx1, rfl, ho, hb⟩
  have La0 := Lib.hid (La0.out.trans (hb.mono La0.out.size))
  have La1 := Lib.hid (La1.out.trans (hb.mono La1.out.size))
  have Ls0 := Lib.hid (Ls0.out.trans (hb.mono Ls0.out.size))
  have Ls1 := Lib.hid (Ls1.out.trans (hb.mono Ls1.out.size))
  have Lx0 := Lib.hid (Lx0.out.trans (hb.mono Lx0.out.size))
  have LW := Lib.hid (LW.out.trans (hb.mono LW.out.size))
  clear hb
  have Ix1 := Lib.hid (OpsIn.of_own ho)
  have Lx1 := Lib.hid (Below.refl (World.heap w5).size w5)
  clear ho
  go_wp2_with fail
  refine (implSameOps_any _ _ _ _ _ _ os0 os1 _ (OpsIn.to_below Ix0.out Lx0.out) (OpsIn.to_below Ix1.out Lx1.out) hm0 hm1 hp0 hp1).mono ?_
  rintro e w6 ⟨rfl, hb⟩
  have La0 := Lib.hid (La0.out.trans (hb.mono La0.out.size))
  have La1 := Lib.hid (La1.out.trans (hb.mono La1.out.size))
  have Ls0 := Lib.hid (Ls0.out.trans (hb.mono Ls0.out.size))
  have Ls1 := Lib.hid (Ls1.out.trans (hb.mono Ls1.out.size))
  have Lx0 := Lib.hid (Lx0.out.trans (hb.mono Lx0.out.size))
  have Lx1 := Lib.hid (Lx1.out.trans (hb.mono Lx1.out.size))
  have LW := Lib.hid (LW.out.trans (hb.mono LW.out.size))
  clear hb
  go_wp2_with fail
  refine (toOpS_any _ _ _ os0 w6 (OpsIn.to_below Ia0.out La0.out) hm0 hp0).mono ?_
  rintro e w7 ⟨Gy0, rfl, ho, hb⟩
  have La0 := Lib.hid (La0.out.trans (hb.mono La0.out.size))
  have La1 := Lib.hid (La1.out.trans (hb.mono La1.out.size))
  have Ls0 := Lib.hid (Ls0.out.trans (hb.mono Ls0.out.size))
  have Ls1 := Lib.hid (Ls1.out.trans (hb.mono Ls1.out.size))
  have Lx0 := Lib.hid (Lx0.out.trans (hb.mono Lx0.out.size))
  have Lx1 := Lib.hid (Lx1.out.trans (hb.mono Lx1.out.size))
  have LW := Lib.hid (LW.out.trans (hb.mono LW.out.size))
  clear hb
  have Iy0 := Lib.hid (OpsIn.of_own ho)
  have Ly0 := Lib.hid (Below.refl (World.heap w7).size w7)
  clear ho
  go_wp2_with fail
  refine (eqOpS_any _ _ _ _ _ os0 _ (OpsIn.to_below Ix0.out Lx0.out) (OpsIn.to_below Iy0.out Ly0.out) hm0 hp0).mono ?_
  rintro e w8 ⟨rfl, hb⟩
  have La0 := Lib.hid (La0.out.trans (hb.mono La0.out.size))
  have La1 := Lib.hid (La1.out.trans (hb.mono La1.out.size))
  have Ls0 := Lib.hid (Ls0.out.trans (hb.mono Ls0.out.size))
  have Ls1 := Lib.hid (Ls1.out.trans (hb.mono Ls1.out.size))
  have Lx0 := Lib.hid (Lx0.out.trans (hb.mono Lx0.out.size))
  have Lx1 := Lib.hid (Lx1.out.trans (hb.mono Lx1.out.size))
  have Ly0 := Lib.hid (Ly0.out.trans (hb.mono Ly0.out.size))
  have LW := Lib.hid (LW.out.trans (hb.mono LW.out.size))
  clear hb
  go_wp2_with fail
  refine (toOpS_any _ _ _ os1 w8 (OpsIn.to_below Ia1.out La1.out) hm1 hp1).mono ?_
  rintro e w9 ⟨Gy1, rfl, ho, hb⟩
  have La0 := Lib.hid (La0.out.trans (hb.mono La0.out.size))
  have La1 := Lib.hid (La1.out.trans (hb.mono La1.out.size))
  have Ls0 := Lib.hid (Ls0.out.trans (hb.mono Ls0.out.size))
  have Ls1 := Lib.hid (Ls1.out.trans (hb.mono Ls1.out.size))
  have Lx0 := Lib.hid (Lx0.out.trans (hb.mono Lx0.out.size))
  have Lx1 := Lib.hid (Lx1.out.trans (hb.mono Lx1.out.size))
  have Ly0 := Lib.hid (Ly0.out.trans (hb.mono Ly0.out.size))
  have LW := Lib.hid (LW.out.trans (hb.mono LW.out.size))
  clear hb
  have Iy1 := Lib.hid (OpsIn.of_own ho)
  have Ly1 := Lib.hid (Below.refl (World.heap w9).size w9)
  clear ho
  go_wp2_with fail
  refine (eqOpS_any _ _ _ _ _ os1 _ (OpsIn.to_below Ix1.out Lx1.out) (OpsIn.to_below Iy1.out Ly1.out) hm1 hp1).mono ?_
  rintro e w10 ⟨rfl, hb⟩
  have La0 := Lib.hid (La0.out.trans (hb.mono La0.out.size))
  have La1 := Lib.hid (La1.out.trans (hb.mono La1.out.size))
  have Ls0 := Lib.hid (Ls0.out.trans (hb.mono Ls0.out.size))
  have Ls1 := Lib.hid (Ls1.out.trans (hb.mono Ls1.out.size))
  have Lx0 := Lib.hid (Lx0.out.trans (hb.mono Lx0.out.size))
  have Lx1 := Lib.hid (Lx1.out.trans (hb.mono Lx1.out.size))
  have Ly0 := Lib.hid (Ly0.out.trans (hb.mono Ly0.out.size))
  have Ly1 := Lib.hid (Ly1.out.trans (hb.mono Ly1.out.size))
  have LW := Lib.hid (LW.out.trans (hb.mono LW.out.size))
  clear hb
  go_wp2
  go_ret
  exact ⟨rfl, LW.out⟩

end Go.Proofs.Ytgkkeejhfofcaaa

/- Contracts (CoOpen). -/
namespace Go.Proofs.Ytgkkeejhfofcaaa
open Go.RowKit
set_option linter.unusedVariables false

open Go.ChangeShapes Go.WideShapes Go.Deep Go.Joins
theorem open_introw {H : Type} {enc : TypeId × Value → H} {P : Program} {w : World} {base : Nat} {spare : Nat → Bool} {held : Bool} {t e : TypeId} {fuel : Nat} {v : Value} {x : DataW H × List MemPlace}
    (ht : P.underlying t = some (.slice e)) (he : P.underlying e = some (.int .i64)) (hc : P.cellsOf e = 1)
    (h : DataW.trod enc P w base spare held fuel t [v] = some x) : ∃ (A : Option Addr) (n c : Nat) (zs : List Int), v = .slice A n c ∧ IntIn w w.heap.size A n zs ∧ n ≤ maxLen := by
  rcases open_ints ht he hc h with ⟨hcs, _⟩ | ⟨a, l, c, zs, hcs, _, hl, hm, hz, _, hcell, hwz⟩
  · simp at hcs
    subst hcs
    exact ⟨none, 0, 0, [], rfl, ⟨rfl, fun h => absurd h (by omega), fun ad e => by cases e⟩, by simp [maxLen]⟩
  · simp at hcs
    subst hcs
    have hlz : l ≤ zs.length := by rw [hz]; split <;> omega
    refine ⟨some a, l, c, zs.take l, rfl, ⟨by simp; omega, fun hn => ⟨a, rfl, ?_⟩, fun ad e k hk => ?_⟩, by omega⟩
    · have := World.block_lt_of_cell? w _ (hcell 0 (by omega))
      rwa [block_of_add] at this
    · obtain rfl : a = ad := by injection e
      rw [hcell k (by omega)]
      simp [Zs.at, List.getD_eq_getElem?_getD, hk]
end Go.Proofs.Ytgkkeejhfofcaaa
