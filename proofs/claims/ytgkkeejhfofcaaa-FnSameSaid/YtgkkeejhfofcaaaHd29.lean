/- Texts of one claim laid into one file, in build order: UnpI, MapK, SplI. -/
import Derived.Test.YtgkkeejhfofcaaaHd17
import Derived.Test.YtgkkeejhfofcaaaHd26
import Derived.DeepKeys5
import Derived.Maps.OwnSet
import Derived.Outline
import Derived.WalkArith
/- Contracts (UnpI). -/
namespace Go.Proofs.Ytgkkeejhfofcaaa
open Go.RowKit
set_option linter.unusedVariables false

/-- four ints in a block -/
def Bx4 (w : World) (b : Nat) (i j p q : Int) : Prop := w.cell? ⟨b, 0, none⟩ = some (.int .i64 i) ∧ w.cell? ⟨b, 1, none⟩ = some (.int .i64 j) ∧ w.cell? ⟨b, 2, none⟩ = some (.int .i64 p) ∧ w.cell? ⟨b, 3, none⟩ = some (.int .i64 q)
theorem Bx4.drawn {w w' : World} {b : Nat} {i j p q : Int} (h : Bx4 w b i j p q) (hd : Drawn w w') : Bx4 w' b i j p q := ⟨(hd.cell _).trans h.1, (hd.cell _).trans h.2.1, (hd.cell _).trans h.2.2.1, (hd.cell _).trans h.2.2.2⟩
theorem Bx4.below {w w' : World} {b B : Nat} {i j p q : Int} (h : Bx4 w b i j p q) (hb : Below B w w') (hl : b < B) : Bx4 w' b i j p q := ⟨(hb.cell (p := ⟨b, 0, none⟩) hl).trans h.1, (hb.cell (p := ⟨b, 1, none⟩) hl).trans h.2.1, (hb.cell (p := ⟨b, 2, none⟩) hl).trans h.2.2.1, (hb.cell (p := ⟨b, 3, none⟩) hl).trans h.2.2.2⟩
theorem Bx4.made (w : World) (i j p q : Int) (e : TypeId) : Bx4 (w.alloc (.cells #[.int .i64 i, .int .i64 j, .int .i64 p, .int .i64 q] e)) w.heap.size i j p q := ⟨by simp, by simp, by simp, by simp⟩
theorem SD.below {g : Nat} {a0 a1 b0 b1 k0 k1 k2 : Addr} {ca0 ca1 cb0 cb1 ck0 ck1 ck2 : Nat} {xs ys : Tr} {k : Co} {w w' : World} (h : SD g a0 a1 b0 b1 k0 k1 k2 ca0 ca1 cb0 cb1 ck0 ck1 ck2 xs ys k w) (hb : Below w.heap.size w w') : SD g a0 a1 b0 b1 k0 k1 k2 ca0 ca1 cb0 cb1 ck0 ck1 ck2 xs ys k w' :=
  ⟨(hb.cell (World.block_lt_of_cell? w _ h.h0)).trans h.h0, (hb.cell (World.block_lt_of_cell? w _ h.h1)).trans h.h1, (hb.cell (World.block_lt_of_cell? w _ h.h3)).trans h.h3, (hb.cell (World.block_lt_of_cell? w _ h.h4)).trans h.h4, (hb.cell (World.block_lt_of_cell? w _ h.h6)).trans h.h6, (hb.cell (World.block_lt_of_cell? w _ h.h7)).trans h.h7, (hb.cell (World.block_lt_of_cell? w _ h.h8)).trans h.h8, fun x hx => (hb.cell (World.block_lt_of_cell? w _ (h.ra0 x hx))).trans (h.ra0 x hx), fun x hx => (hb.cell (World.block_lt_of_cell? w _ (h.ra1 x hx))).trans (h.ra1 x hx), fun x hx => (hb.cell (World.block_lt_of_cell? w _ (h.rb0 x hx))).trans (h.rb0 x hx), fun x hx => (hb.cell (World.block_lt_of_cell? w _ (h.rb1 x hx))).trans (h.rb1 x hx), fun x hx => (hb.cell (World.block_lt_of_cell? w _ (h.rk0 x hx))).trans (h.rk0 x hx), fun x hx => (hb.cell (World.block_lt_of_cell? w _ (h.rk1 x hx))).trans (h.rk1 x hx), fun x hx => (hb.cell (World.block_lt_of_cell? w _ (h.rk2 x hx))).trans (h.rk2 x hx)⟩

set_option maxHeartbeats 1600000 in
set_option maxRecDepth 100000 in
theorem withoutA_any (i j p q : Nat) (w : World) (hj : 1 ≤ j) (hb : j ≤ 100) : Calls Try.prog 163 #[(.agg #[.int .i64 (i : Int), .int .i64 (j : Int), .int .i64 (p : Int), .int .i64 (q : Int)])] w fun e w' => e = .returned (.agg #[.int .i64 (i : Int), .int .i64 ((j - 1 : Nat) : Int), .int .i64 (p : Int), .int .i64 (q : Int)]) ∧ Below w.heap.size w w' := by
  have e := Lib.hid (show ((j - 1 : Nat) : Int) = (j : Int) - 1 by omega)
  rw [e.out]
  go_enter Try.func163, Try.ntmps163
  go_wp2
  (try simp only [Exit.inBlock, Exit.then])
  refine bodyPost_ret (v := (.agg #[.int .i64 (i : Int), .int .i64 ((j : Int) - 1), .int .i64 (p : Int), .int .i64 (q : Int)])) ?_ rfl ?_
  · rw [results_cell1 rfl]
    go_simp
  · refine ⟨rfl, ?_⟩
    repeat (first | exact Below.refl _ _ | refine Below.setCell ?_ (by simp) _ | refine Below.alloc ?_ (by simp) _)
set_option maxHeartbeats 1600000 in
set_option maxRecDepth 100000 in
theorem withoutB_any (i j p q : Nat) (w : World) (hq : 1 ≤ q) (hb : q ≤ 100) : Calls Try.prog 164 #[(.agg #[.int .i64 (i : Int), .int .i64 (j : Int), .int .i64 (p : Int), .int .i64 (q : Int)])] w fun e w' => e = .returned (.agg #[.int .i64 (i : Int), .int .i64 (j : Int), .int .i64 (p : Int), .int .i64 ((q - 1 : Nat) : Int)]) ∧ Below w.heap.size w w' := by
  have e := Lib.hid (show ((q - 1 : Nat) : Int) = (q : Int) - 1 by omega)
  rw [e.out]
  go_enter Try.func164, Try.ntmps164
  go_wp2
  (try simp only [Exit.inBlock, Exit.then])
  refine bodyPost_ret (v := (.agg #[.int .i64 (i : Int), .int .i64 (j : Int), .int .i64 (p : Int), .int .i64 ((q : Int) - 1)])) ?_ rfl ?_
  · rw [results_cell1 rfl]
    go_simp
  · refine ⟨rfl, ?_⟩
    repeat (first | exact Below.refl _ _ | refine Below.setCell ?_ (by simp) _ | refine Below.alloc ?_ (by simp) _)
set_option maxHeartbeats 1600000 in
set_option maxRecDepth 100000 in
theorem unpaired_any (g : Nat) (a0 a1 b0 b1 k0 k1 k2 : Addr) (ca0 ca1 cb0 cb1 ck0 ck1 ck2 : Nat) (xs ys : Tr) (k : Co) (w : World) (h : SD g a0 a1 b0 b1 k0 k1 k2 ca0 ca1 cb0 cb1 ck0 ck1 ck2 xs ys k w) (hx : Tr.ok xs = true) (hy : Tr.ok ys = true) (hk : Co.ok k = true) (i j p q : Nat) (hij : i ≤ j) (hj : j ≤ xs.length) (hpq : p ≤ q) (hq : q ≤ ys.length) (he : i = j ∨ p = q) :
    Calls Try.prog 172 #[.pointer (some ⟨g, 0, none⟩), (.agg #[.int .i64 (i : Int), .int .i64 (j : Int), .int .i64 (p : Int), .int .i64 (q : Int)])] w fun e w' => e = .returned (.int .i64 (RR xs ys k i j p q)) ∧ Below w.heap.size w w' := by
  obtain ⟨w1, hw1⟩ : ∃ w1, w1 = w.alloc (.cells #[.int .i64 (i : Int), .int .i64 (j : Int), .int .i64 (p : Int), .int .i64 (q : Int)] 105) := ⟨_, rfl⟩
  have hb1 : Below w.heap.size w w1 := by rw [hw1]; exact (Below.refl _ _).alloc (Nat.le_refl _) _
  have H := Lib.hid (h.below hb1)
  have R := Lib.hid (show Bx4 w1 w.heap.size i j p q by rw [hw1]; exact Bx4.made _ _ _ _ _ _)
  have HB1 := Lib.hid hb1
  have HWC := Lib.hid hw1
  have OX := Lib.hid hx
  have OY := Lib.hid hy
  have OK := Lib.hid hk
  have LT := Lib.hid (fun x (a : i ≤ x) (b : x < j) => show RR xs ys k i (x + 1) p p = RR xs ys k i x p p + Co.del k (Tr.xa xs x) from RD_left (Tr.la_nest hx) a (by omega) (Nat.le_refl _))
  have RT := Lib.hid (fun (e : i = j) y (a : p ≤ y) (b : y < q) => show RR xs ys k i j p (y + 1) = RR xs ys k i j p y + Co.ins k (Tr.xa ys y) from RD_right (Tr.la_nest hy) (by omega) a (by omega))
  have Z := Lib.hid (show RR xs ys k i i p p = 0 from RD_none (Nat.le_refl _) (Nat.le_refl _))
  have BX := Lib.hid (fun x (a : i ≤ x) (b : x ≤ j) => RR_bound (k := k) hx hy (p := i) (a := x) (q := p) (b := p) a (by omega) (Nat.le_refl _) (by omega))
  have BY := Lib.hid (fun y (a : p ≤ y) (b : y ≤ q) => RR_bound (k := k) hx hy (p := i) (a := j) (q := p) (b := y) hij hj a (by omega))
  have DD := Lib.hid (Co.nonneg' k)
  have x24 := (Tr.len24 hx).2
  have y24 := (Tr.len24 hy).2
  have HE := Lib.hid he
  clear h hx hy hk hb1 hw1 he
  go_enter Try.func172, Try.ntmps172
  go_wp2_with fail
  rw [← HWC.out]
  go_loopw [6, 5] (fun xv sv wr => ∃ x : Nat, i ≤ x ∧ x ≤ j ∧ xv = .int .i64 x ∧ sv = .int .i64 (RR xs ys k i x p p) ∧ Drawn w1 wr) (fun x _ _ => j - (intOf x).toNat)
  case atStart => exact ⟨i, Nat.le_refl _, hij, rfl, by rw [Z.out], Drawn.refl _⟩
  case round =>
    obtain ⟨x, h1, h2, rfl, rfl, hD⟩ := hrel
    have HD := Lib.hid hD
    clear hD
    have rc := (R.out.drawn HD.out).2.1
    by_cases hlt : x < j
    · have bd := BX.out x h1 h2
      have bd2 := BX.out (x + 1) (by omega) (by omega)
      have HL := Lib.hid (LT.out x h1 hlt)
      rw [HL.out] at bd2
      obtain ⟨s, hs⟩ : ∃ s, s = RR xs ys k i x p p := ⟨_, rfl⟩
      rw [← hs] at bd bd2
      have HS := Lib.hid hs
      rw [← hs]
      clear hs
      go_wp2_with fail
      refine (sidesDel_any g a0 a1 b0 b1 k0 k1 k2 ca0 ca1 cb0 cb1 ck0 ck1 ck2 xs ys k _ (H.out.drawn HD.out) OX.out OK.out x (by omega)).mono ?_
      rintro e wi ⟨rfl, hd⟩
      have HD2 := Lib.hid (HD.out.trans hd)
      clear hd
      go_wp2
      go_roundw
      case rel => exact ⟨x + 1, by omega, by omega, by go_num, by rw [HL.out, HS.out], HD2.out⟩
      case measure => simp [intOf]; omega
    · obtain rfl : j = x := by omega
      have rc2 := (R.out.drawn HD.out).2.2.1
      go_wp2_with fail
      clear rc rc2 h1 h2 hlt
      go_loopw [7, 5] (fun xv sv wr => ∃ y : Nat, p ≤ y ∧ y ≤ q ∧ xv = .int .i64 y ∧ sv = .int .i64 (RR xs ys k i j p y) ∧ Drawn w1 wr) (fun x _ _ => q - (intOf x).toNat)
      case atStart => exact ⟨p, Nat.le_refl _, hpq, rfl, rfl, HD.out⟩
      case round =>
        obtain ⟨y, h1, h2, rfl, rfl, hD⟩ := hrel
        have HD := Lib.hid hD
        clear hD
        have rc := (R.out.drawn HD.out).2.2.2
        by_cases hlt : y < q
        · have e : i = j := by have := HE.out; omega
          have bd := BY.out y h1 h2
          have bd2 := BY.out (y + 1) (by omega) (by omega)
          have HL := Lib.hid (RT.out e y h1 hlt)
          clear e
          rw [HL.out] at bd2
          obtain ⟨s, hs⟩ : ∃ s, s = RR xs ys k i j p y := ⟨_, rfl⟩
          rw [← hs] at bd bd2
          have HS := Lib.hid hs
          rw [← hs]
          clear hs
          go_wp2_with fail
          refine (sidesIns_any g a0 a1 b0 b1 k0 k1 k2 ca0 ca1 cb0 cb1 ck0 ck1 ck2 xs ys k _ (H.out.drawn HD.out) OY.out OK.out y (by omega)).mono ?_
          rintro e wi ⟨rfl, hd⟩
          have HD2 := Lib.hid (HD.out.trans hd)
          clear hd
          go_wp2
          go_roundw
          case rel => exact ⟨y + 1, by omega, by omega, by go_num, by rw [HL.out, HS.out], HD2.out⟩
          case measure => simp [intOf]; omega
        · obtain rfl : q = y := by omega
          go_wp2
          go_ret
          exact ⟨rfl, Drawn.below HB1.out HD.out⟩

end Go.Proofs.Ytgkkeejhfofcaaa

/- Contracts (MapK). -/
namespace Go.Proofs.Ytgkkeejhfofcaaa
open Go.RowKit
set_option linter.unusedVariables false

open Go.Maps Go.MapKept Go.ChangeMaps Go.WideShapes
open Go.WideElems (Fit)

/-- four ints, as a key -/
def rgV (i j p q : Nat) : Value := .agg #[.int .i64 (i : Int), .int .i64 (j : Int), .int .i64 (p : Int), .int .i64 (q : Int)]
theorem rgLaid : laidOutB Try.prog = true := by kernel_rfl
theorem rgRow : (105 : TypeId) < Try.prog.types.size := of_decide_eq_true (by kernel_rfl)
theorem rgKey : Try.prog.keyType 105 = true := by kernel_rfl
theorem rgLaw : Keyed Try.prog 105 := Keyed.of_law (deep_law_laid rgLaid (m := 2) (by omega) rgRow (by kernel_rfl) (by simp only [Try.underlying105]))
theorem rgCells : Try.prog.cellsOf 105 = 4 := by kernel_rfl
theorem rgCell : Try.prog.cellsOf 3 = 1 := by kernel_rfl
theorem rgZero (w : World) : (zeroValue 3).run Try.prog w = .ok (.int .i64 0) w := by kernel_rfl
theorem rg_lits (d : Nat) {a b c e : Int} (ha : (Lit.int .i64 a).wf = true) (hb : (Lit.int .i64 b).wf = true) (hc : (Lit.int .i64 c).wf = true) (he : (Lit.int .i64 e).wf = true) : ∃ L, Try.prog.keyLits (d + 2) 105 [.int .i64 a, .int .i64 b, .int .i64 c, .int .i64 e] = some L := by
  refine ⟨[.int .i64 a, .int .i64 b, .int .i64 c, .int .i64 e], ?_⟩
  simp [Program.keyLits, Try.underlying105, Try.underlying3, rgCells, rgCell, ha, hb, hc, he]
theorem rg_key {i j p q : Nat} (hi : i ≤ 24) (hj : j ≤ 24) (hp : p ≤ 24) (hq : q ≤ 24) : ∃ l, keyOf Try.prog 105 (rgV i j p q) = some l := by
  have e : Try.prog.types.size + 1 = (Try.prog.types.size - 1) + 2 := by have h : (105 : Nat) < Try.prog.types.size := rgRow; omega
  have wf (n : Nat) (h : n ≤ 24) : (Lit.int .i64 (n : Int)).wf = true := Go.WalkArith.wf_i64 ⟨by omega, by omega⟩
  obtain ⟨L, hL⟩ := rg_lits (Try.prog.types.size - 1) (wf i hi) (wf j hj) (wf p hp) (wf q hq)
  have hf : (rgV i j p q).formed Try.prog 105 = true := by simp [rgV, Value.formed, Try.underlying105, rgCells]
  refine ⟨.string (keyBytes L), ?_⟩
  unfold keyOf
  rw [Try.underlying105, e]
  simp only [rgKey, hf, Bool.and_self, if_true]
  show ((Try.prog.keyLits (Try.prog.types.size - 1 + 2) 105 [.int .i64 (i : Int), .int .i64 (j : Int), .int .i64 (p : Int), .int .i64 (q : Int)]).map fun ls => Lit.string (keyBytes ls)) = _
  rw [hL]
  rfl

/-! how many there may be -/
theorem few_nats : ∀ (N : Nat) (l : List Nat), l.Pairwise (fun a b => a ≠ b) → (∀ a ∈ l, a < N) → l.length ≤ N := by
  intro N
  induction N with
  | zero =>
    intro l _ h
    cases l with
    | nil => simp
    | cons a r => exact absurd (h a (by simp)) (by omega)
  | succ N ih =>
    intro l hd h
    have h1 := ih (l.filter (· != N)) (hd.filter _) (fun a ha => by
      obtain ⟨m, hne⟩ := List.mem_filter.1 ha
      have := h a m
      have : a ≠ N := by simpa using hne
      omega)
    have h2 : ∀ l : List Nat, l.Pairwise (fun a b => a ≠ b) → l.length ≤ (l.filter (· != N)).length + 1 := by
      intro l
      induction l with
      | nil => intro _; simp
      | cons a r ihr =>
        intro hp
        obtain ⟨p1, p2⟩ := List.pairwise_cons.1 hp
        by_cases e : a = N
        · have : r.filter (· != N) = r := List.filter_eq_self.2 (fun b hb => by have := p1 b hb; simp; omega)
          rw [List.filter_cons_of_neg (by simp [e]), this]
          simp
        · rw [List.filter_cons_of_pos (by simp [e])]
          have := ihr p2
          simp only [List.length_cons]
          omega
    have := h2 l hd
    omega
def rgNum : Value → Nat
  | .agg ⟨[.int _ a, .int _ b, .int _ c, .int _ d]⟩ => ((a.toNat * 25 + b.toNat) * 25 + c.toNat) * 25 + d.toNat
  | _ => 0
theorem rgNum_at (i j p q : Nat) : rgNum (rgV i j p q) = ((i * 25 + j) * 25 + p) * 25 + q := by simp [rgNum, rgV]

/-- block b is a map of distances that are right -/
def Memo (xs ys : Tr) (k : Co) (b : Nat) (w : World) : Prop :=
  ∃ es clock, w.heap[b]? = some (.map es clock) ∧ Fit (H := Unit) Try.prog 105 (plainElem Try.prog 3) es clock ∧
    ∀ x ∈ es.toList, ∃ i j p q : Nat, i ≤ 24 ∧ j ≤ 24 ∧ p ≤ 24 ∧ q ≤ 24 ∧ x.key = rgV i j p q ∧ x.val = .int .i64 (RR xs ys k i j p q)
section
variable {xs ys : Tr} {k : Co} {b : Nat} {w w' : World}
theorem memo_few {es : Array MapEntry} {clock : Nat} (F : Fit (H := Unit) Try.prog 105 (plainElem Try.prog 3) es clock) (hes : ∀ x ∈ es.toList, ∃ i j p q : Nat, i ≤ 24 ∧ j ≤ 24 ∧ p ≤ 24 ∧ q ≤ 24 ∧ x.key = rgV i j p q ∧ x.val = .int .i64 (RR xs ys k i j p q)) : es.size < maxLen := by
  have hn : es.toList.Pairwise (fun x y => x.key ≠ y.key) := ((stamped_iff es clock).1 F.stamped).2.2
  have hp : es.toList.Pairwise (fun x y => x ∈ es.toList ∧ y ∈ es.toList ∧ x.key ≠ y.key) := hn.imp_of_mem (fun ha hb h => ⟨ha, hb, h⟩)
  have h1 := few_nats 390625 (es.toList.map (fun x => rgNum x.key)) (by
    rw [List.pairwise_map]
    refine hp.imp ?_
    rintro x y ⟨hx, hy, hne⟩ e
    obtain ⟨i, j, p, q, b1, b2, b3, b4, ex, _⟩ := hes x hx
    obtain ⟨i', j', p', q', c1, c2, c3, c4, ey, _⟩ := hes y hy
    rw [ex, ey, rgNum_at, rgNum_at] at e
    refine hne ?_
    rw [ex, ey]
    obtain ⟨rfl, rfl, rfl, rfl⟩ : i = i' ∧ j = j' ∧ p = p' ∧ q = q' := by omega
    rfl) (fun a ha => by
    obtain ⟨x, hx, rfl⟩ := List.mem_map.1 ha
    obtain ⟨i, j, p, q, b1, b2, b3, b4, ex, _⟩ := hes x hx
    show rgNum x.key < _
    rw [ex, rgNum_at]
    omega)
  rw [List.length_map] at h1
  have e : es.size = es.toList.length := by simp
  unfold maxLen
  omega
theorem Memo.made (w : World) : Memo xs ys k w.heap.size (w.alloc (.map #[] 0)) :=
  ⟨#[], 0, (heap_alloc w _).1, ⟨by simp, stamped_empty 0, by simp⟩, by simp⟩
theorem Memo.lt (h : Memo xs ys k b w) : b < w.heap.size := by
  obtain ⟨es, clock, hb, _⟩ := h
  exact (Array.getElem?_eq_some_iff.1 hb).1
theorem Memo.same (h : Memo xs ys k b w) (he : w'.heap[b]? = w.heap[b]?) : Memo xs ys k b w' := by
  obtain ⟨es, clock, hb, r⟩ := h
  exact ⟨es, clock, he.trans hb, r⟩
theorem Memo.below (h : Memo xs ys k b w) (hb : Below w.heap.size w w') : Memo xs ys k b w' := h.same (hb.block b h.lt)
theorem Memo.drawn (h : Memo xs ys k b w) (hd : Drawn w w') : Memo xs ys k b w' := h.same (by rw [hd.heap])
theorem Memo.apart (h : Memo xs ys k b w) {p : Addr} {v : Value} (hc : w.cell? p = some v) : p.block ≠ b := by
  intro e
  obtain ⟨es, clock, hb, _⟩ := h
  rw [← e] at hb
  simp [World.cell?, hb] at hc
theorem Memo.look (h : Memo xs ys k b w) {i j p q : Nat} (hi : i ≤ 24) (hj : j ≤ 24) (hp : p ≤ 24) (hq : q ≤ 24) :
    (∀ w' : World, w'.heap[b]? = w.heap[b]? → (Instr.lookup 156 (.map (some b)) (rgV i j p q) true).run Try.prog w' = .ok (.tuple #[.int .i64 0, .bool false]) w') ∨ (∀ w' : World, w'.heap[b]? = w.heap[b]? → (Instr.lookup 156 (.map (some b)) (rgV i j p q) true).run Try.prog w' = .ok (.tuple #[.int .i64 (RR xs ys k i j p q), .bool true]) w') := by
  obtain ⟨es, clock, hb, F, hes⟩ := h
  obtain ⟨kl, hkey⟩ := rg_key hi hj hp hq
  by_cases hx : ∃ x ∈ es.toList, x.key = rgV i j p q
  · refine .inr (fun w' hw => ?_)
    rcases Maps.fit_look true rgLaw Try.underlying156 (rgZero w') (hw.trans hb) F hkey with ⟨_, hno, _⟩ | ⟨e0, y, hm, hke, hrun, _⟩
    · obtain ⟨x, h1, h2⟩ := hx
      exact absurd h2 (hno x h1)
    · obtain ⟨i', j', p', q', b1, b2, b3, b4, ex, ev⟩ := hes e0 hm
      have e := congrArg rgNum (ex.symm.trans hke)
      rw [rgNum_at, rgNum_at] at e
      obtain ⟨rfl, rfl, rfl, rfl⟩ : i' = i ∧ j' = j ∧ p' = p ∧ q' = q := by omega
      rw [ev] at hrun
      exact hrun
  · refine .inl (fun w' hw => ?_)
    rcases Maps.fit_look true rgLaw Try.underlying156 (rgZero w') (hw.trans hb) F hkey with ⟨hrun, _, _⟩ | ⟨e0, y, hm, hke, hrun, _⟩
    · exact hrun
    · exact absurd ⟨e0, hm, hke⟩ hx
theorem Memo.store (h : Memo xs ys k b w) {i j p q : Nat} (hi : i ≤ 24) (hj : j ≤ 24) (hp : p ≤ 24) (hq : q ≤ 24) (hr : (Lit.int .i64 (RR xs ys k i j p q)).wf = true) :
    ∃ w', (Instr.mapUpdate 156 (.map (some b)) (rgV i j p q) (.int .i64 (RR xs ys k i j p q))).run Try.prog w = .ok () w' ∧ Memo xs ys k b w' ∧ w.grownBy w' (some b) := by
  obtain ⟨es, clock, hb, F, hes⟩ := h
  obtain ⟨kl, hkey⟩ := rg_key hi hj hp hq
  obtain ⟨es', clock', hrun, F', _, _, _, hmem⟩ := Maps.fit_store (R' := plainElem Try.prog 3) rgLaw Try.underlying156 hb F (memo_few F hes) (fun _ _ _ _ hz => hz) hkey (plainElem_int Try.underlying3 hr)
  refine ⟨_, hrun, ⟨es', clock', heap_setBlock_same hb _, F', fun x hx => ?_⟩, (show w.mapTurned _ b from ⟨es, clock, es', clock', hb, rfl⟩).grown⟩
  rcases hmem x hx with ⟨hm, _⟩ | ⟨hk, hv⟩
  · exact hes x hm
  · exact ⟨i, j, p, q, hi, hj, hp, hq, hk, hv⟩
end

end Go.Proofs.Ytgkkeejhfofcaaa

/- Contracts (SplI). -/
namespace Go.Proofs.Ytgkkeejhfofcaaa
open Go.RowKit
set_option linter.unusedVariables false

theorem Bx4.free (w : World) (i j p q : Int) (e : TypeId) (off : Nat) : (w.alloc (.cells #[.int .i64 i, .int .i64 j, .int .i64 p, .int .i64 q] e)).frozen? ⟨w.heap.size, off, none⟩ = false := by simp
theorem results_cell2 {fn : Func} {p u : Tmp} {ty tz : TypeId} (h : fn.results = #[.cell p ty, .cell u tz]) (tmps : Array Value) (P : Program) (w : World) :
    (results fn tmps).run P w = ((asAddr (tmps.getD p undef)).run P w).andThen fun a w₁ => ((loadVar ty a).run P w₁).andThen fun v w₂ => ((asAddr (tmps.getD u undef)).run P w₂).andThen fun b w₃ => ((loadVar tz b).run P w₃).andThen fun v2 w₄ => .ok (.tuple #[v, v2]) w₄ := by
  simp only [results, h]
  simp [Sem.run_bind, Result.andThen]
set_option maxHeartbeats 1600000 in
set_option maxRecDepth 100000 in
theorem split_any (g : Nat) (a0 a1 b0 b1 k0 k1 k2 : Addr) (ca0 ca1 cb0 cb1 ck0 ck1 ck2 : Nat) (xs ys : Tr) (k : Co) (w : World) (h : SD g a0 a1 b0 b1 k0 k1 k2 ca0 ca1 cb0 cb1 ck0 ck1 ck2 xs ys k w) (hx : Tr.ok xs = true) (hy : Tr.ok ys = true) (i j p q j1 q1 P Q : Nat) (ej : j = j1 + 1) (eq : q = q1 + 1) (hj : j ≤ xs.length) (hq : q ≤ ys.length) (hi : i ≤ 24) (hp : p ≤ 24) (eP : P = max i (Tr.la xs j1)) (eQ : Q = max p (Tr.la ys q1)) :
    Calls Try.prog 128 #[.pointer (some ⟨g, 0, none⟩), (.agg #[.int .i64 (i : Int), .int .i64 (j : Int), .int .i64 (p : Int), .int .i64 (q : Int)])] w fun e w' => e = .returned (.tuple #[(.agg #[.int .i64 (i : Int), .int .i64 (P : Int), .int .i64 (p : Int), .int .i64 (Q : Int)]), (.agg #[.int .i64 (P : Int), .int .i64 (j1 : Int), .int .i64 (Q : Int), .int .i64 (q1 : Int)])]) ∧ Below w.heap.size w w' := by
  obtain ⟨w1, hw1⟩ : ∃ w1, w1 = ((w.alloc (.cells #[.int .i64 (i : Int), .int .i64 (j : Int), .int .i64 (p : Int), .int .i64 (q : Int)] 105)).alloc (.cells #[.int .i64 0, .int .i64 0, .int .i64 0, .int .i64 0] 105)).alloc (.cells #[.int .i64 0, .int .i64 0, .int .i64 0, .int .i64 0] 105) := ⟨_, rfl⟩
  have hb1 : Below w.heap.size w w1 := by rw [hw1]; exact (((Below.refl _ _).alloc (Nat.le_refl _) _).alloc (by simp) _).alloc (by simp; omega) _
  have R := Lib.hid (show Bx4 w1 w.heap.size i j p q by rw [hw1]; exact (Bx4.made w _ _ _ _ _).below (((Below.refl _ _).alloc (Nat.le_refl _) _).alloc (by simp) _) (by simp))
  have S1 := Lib.hid (show Bx4 w1 (w.heap.size + 1) 0 0 0 0 ∧ ∀ off, w1.frozen? ⟨w.heap.size + 1, off, none⟩ = false by
    have e : (w.alloc (.cells #[.int .i64 (i : Int), .int .i64 (j : Int), .int .i64 (p : Int), .int .i64 (q : Int)] 105)).heap.size = w.heap.size + 1 := by simp
    rw [hw1, ← e]
    exact ⟨(Bx4.made _ _ _ _ _ _).below ((Below.refl _ _).alloc (Nat.le_refl _) _) (by simp), fun off => free_below ((Below.refl _ _).alloc (Nat.le_refl _) _) (by simp) (Bx4.free _ _ _ _ _ _) off⟩)
  have S2 := Lib.hid (show Bx4 w1 (w.heap.size + 1 + 1) 0 0 0 0 ∧ ∀ off, w1.frozen? ⟨w.heap.size + 1 + 1, off, none⟩ = false by
    have e : ((w.alloc (.cells #[.int .i64 (i : Int), .int .i64 (j : Int), .int .i64 (p : Int), .int .i64 (q : Int)] 105)).alloc (.cells #[.int .i64 0, .int .i64 0, .int .i64 0, .int .i64 0] 105)).heap.size = w.heap.size + 1 + 1 := by simp
    rw [hw1, ← e]
    exact ⟨Bx4.made _ _ _ _ _ _, Bx4.free _ _ _ _ _ _⟩)
  have H := Lib.hid (h.below hb1)
  have HB1 := Lib.hid hb1
  have HWC := Lib.hid hw1
  have hj24 := (Tr.len24 hx).2
  have hq24 := (Tr.len24 hy).2
  obtain ⟨x, hxe⟩ : ∃ x, x = Tr.la xs j1 := ⟨_, rfl⟩
  obtain ⟨y, hye⟩ : ∃ y, y = Tr.la ys q1 := ⟨_, rfl⟩
  have c0 := H.out.h1
  have c1 := H.out.ra1 j1 (by omega)
  have c2 := H.out.h4
  have c3 := H.out.rb1 q1 (by omega)
  rw [← hxe] at c1 eP
  rw [← hye] at c3 eQ
  obtain ⟨r0, r1, r2, r3⟩ := R.out
  have a1 : IntKind.i64.wrap ((j : Int) - 1) = (j1 : Int) := by rw [Kit.w64 (by omega) (by omega)]; omega
  have a2 : IntKind.i64.wrap ((q : Int) - 1) = (q1 : Int) := by rw [Kit.w64 (by omega) (by omega)]; omega
  have b1 : (0 : Int) ≤ (j1 : Int) := by omega
  have b2 : (j1 : Int) < (xs.length : Int) := by omega
  have b3 : (0 : Int) ≤ (q1 : Int) := by omega
  have b4 : (q1 : Int) < (ys.length : Int) := by omega
  have HP := Lib.hid (show (if i < x then (x : Int) else (i : Int)) = (P : Int) by split <;> omega)
  have HQ := Lib.hid (show (if p < y then (y : Int) else (p : Int)) = (Q : Int) by split <;> omega)
  clear h hx hy hb1 hw1 ej eq hxe hye eP eQ hj24 hq24 hj hq hi hp
  go_enter Try.func128, Try.ntmps128
  go_wp2_with fail
  rw [← HWC.out]
  go_quiet (fail)
  rw [HP.out]
  go_wp2_with fail
  go_quiet (fail)
  rw [HQ.out]
  go_wp2_with fail
  obtain ⟨⟨s0, s1, s2, s3⟩, sf⟩ := S1.out
  obtain ⟨⟨u0, u1, u2, u3⟩, uf⟩ := S2.out
  have f0 := sf 0
  have f1 := sf 1
  have f2 := sf 2
  have f3 := sf 3
  have g0 := uf 0
  have g1 := uf 1
  have g2 := uf 2
  have g3 := uf 3
  clear sf uf
  go_region
  go_wp2
  (try simp only [Exit.inBlock, Exit.then])
  refine bodyPost_ret (v := .tuple #[(.agg #[.int .i64 (i : Int), .int .i64 (P : Int), .int .i64 (p : Int), .int .i64 (Q : Int)]), (.agg #[.int .i64 (P : Int), .int .i64 (j1 : Int), .int .i64 (Q : Int), .int .i64 (q1 : Int)])]) ?_ rfl ?_
  · rw [results_cell2 rfl]
    go_simp
  · refine ⟨rfl, ?_⟩
    refine Below.setCell ?_ (by show w.heap.size ≤ w.heap.size + 1 + 1; omega) _
    refine Below.setCell ?_ (by show w.heap.size ≤ w.heap.size + 1 + 1; omega) _
    refine Below.setCell ?_ (by show w.heap.size ≤ w.heap.size + 1 + 1; omega) _
    refine Below.setCell ?_ (by show w.heap.size ≤ w.heap.size + 1 + 1; omega) _
    refine Below.setCell ?_ (by show w.heap.size ≤ w.heap.size + 1; omega) _
    refine Below.setCell ?_ (by show w.heap.size ≤ w.heap.size + 1; omega) _
    refine Below.setCell ?_ (by show w.heap.size ≤ w.heap.size + 1; omega) _
    refine Below.setCell ?_ (by show w.heap.size ≤ w.heap.size + 1; omega) _
    exact Drawn.below HB1.out ((Drawn.refl _).drewN _)

end Go.Proofs.Ytgkkeejhfofcaaa
