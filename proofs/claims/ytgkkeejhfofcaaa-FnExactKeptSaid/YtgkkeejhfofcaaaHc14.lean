/- Texts of one claim laid into one file, in build order: KpN, UnS, Draw, Draw2, DrawX, DrawK, Mem2, TreeD, AnyD, NearD. -/
import Derived.Test.YtgkkeejhfofcaaaHc1
import Derived.Test.YtgkkeejhfofcaaaHc11
import Derived.Test.YtgkkeejhfofcaaaHc13
import Derived.Test.YtgkkeejhfofcaaaHc2
import Derived.Test.YtgkkeejhfofcaaaHc3
import Derived.Test.YtgkkeejhfofcaaaHc4
import Derived.Test.YtgkkeejhfofcaaaHc7
import Derived.BigQuiet
import Derived.Deep.QuietTactic
import Derived.Deep.RegionHeld3
import Derived.Deep.RegionLaw
import Derived.Laws.AppendOwn
import Derived.Laws.OwnMore
import Derived.Maps.Range
import Derived.Outline
import Derived.Test.YtgkkeejhfofcaaaRows
/- Contracts (KpN). -/
namespace Go.Proofs.Ytgkkeejhfofcaaa
open Go.RowKit
set_option linter.unusedVariables false


/-! The model's way to the tree of what stays: depths first, then the nodes. -/
/-- does node k go, with node e below it? -/
def Kp.e (xs ms : Tr) (k e : Nat) : Int := if (1 ≤ k ∧ Un.has ms (k : Int) ms.length = false) ∧ k < e ∧ e < Tr.endN xs k then 1 else 0
/-- how many of the last s nodes in postorder go, with node e below them -/
def Kp.q (xs ms : Tr) (s e : Nat) : Int := Mp.sum (fun t => Kp.e xs ms (Tr.nd xs (xs.length - 1 - t)) e) s
theorem Kp.e_bound (xs ms : Tr) (k e : Nat) : 0 ≤ Kp.e xs ms k e ∧ Kp.e xs ms k e ≤ 1 := by unfold Kp.e; split <;> decide
theorem Kp.q_bound (xs ms : Tr) (e : Nat) : ∀ s, 0 ≤ Kp.q xs ms s e ∧ Kp.q xs ms s e ≤ s
  | 0 => ⟨Int.le_refl _, Int.le_refl _⟩
  | s + 1 => by
    have h := Kp.q_bound xs ms e s
    have h2 := Kp.e_bound xs ms (Tr.nd xs (xs.length - 1 - s)) e
    unfold Kp.q at h ⊢
    rw [Mp.sum]
    omega
theorem Kp.q_succ (xs ms : Tr) (s e : Nat) : Kp.q xs ms (s + 1) e = Kp.q xs ms s e + Kp.e xs ms (Tr.nd xs (xs.length - 1 - s)) e := rfl
theorem sum_bij (f : Nat → Int) (σ τ : Nat → Nat) (n : Nat) (h1 : ∀ t, t < n → σ t < n) (h2 : ∀ k, k < n → τ k < n) (h3 : ∀ k, k < n → σ (τ k) = k) (h4 : ∀ t, t < n → τ (σ t) = t) : Mp.sum (fun t => f (σ t)) n = Mp.sum f n := by
  have e1 : Mp.sum (fun t => f (σ t)) n = Mp.sum (fun t => Mp.sum (fun i => if i = σ t then f i else 0) n) n :=
    Mp.sum_congr fun t ht => by rw [sum_one f, if_pos (h1 t ht)]
  have e2 : Mp.sum f n = Mp.sum (fun i => Mp.sum (fun t => if i = σ t then f i else 0) n) n :=
    Mp.sum_congr fun i hi => by
      have : ∀ t, t < n → (if i = σ t then f i else 0) = (if t = τ i then f i else 0) := fun t ht => by
        by_cases e : i = σ t
        · rw [if_pos e, if_pos (by rw [e, h4 t ht])]
        · rw [if_neg e, if_neg (fun h => e (by rw [h, h3 i hi]))]
      rw [Mp.sum_congr this, sum_one (fun _ => f i), if_pos (h2 i hi)]
  rw [e1, e2, sum_swap]
theorem Kp.q_all {xs : Tr} (hok : Tr.ok xs = true) (ms : Tr) (e : Nat) : Kp.q xs ms xs.length e = Mp.sum (fun k => Kp.e xs ms k e) xs.length := by
  unfold Kp.q
  refine sum_bij (fun k => Kp.e xs ms k e) (fun t => Tr.nd xs (xs.length - 1 - t)) (fun k => xs.length - 1 - Tr.rk xs k) xs.length (fun t ht => (Tr.nd_at hok (by omega)).1) (fun k hk => by have := Tr.rk_lt hok hk; omega) (fun k hk => ?_) (fun t ht => ?_)
  · have := Tr.rk_lt hok hk
    show Tr.nd xs (xs.length - 1 - (xs.length - 1 - Tr.rk xs k)) = k
    rw [show xs.length - 1 - (xs.length - 1 - Tr.rk xs k) = Tr.rk xs k by omega, Tr.nd_rk hok hk]
  · show xs.length - 1 - Tr.rk xs (Tr.nd xs (xs.length - 1 - t)) = t
    rw [(Tr.nd_at hok (by omega)).2.1]
    omega
theorem Kp.anc {xs ms : Tr} (h0 : Un.has ms 0 ms.length = true) (e : Nat) : ∀ n, ((Wo.anc xs (Kp.gone ms n) e : Nat) : Int) = Mp.sum (fun k => Kp.e xs ms k e) n
  | 0 => rfl
  | n + 1 => by
    have ih := Kp.anc (xs := xs) h0 e n
    rw [Mp.sum, ← ih]
    unfold Wo.anc Kp.gone Kp.e
    rw [List.range_succ, List.filter_append, List.countP_append]
    cases h : Un.has ms (n : Int) ms.length with
    | true => simp [h]
    | false =>
      have h1 : 1 ≤ n := by
        rcases Nat.eq_zero_or_pos n with rfl | hp
        · rw [show ((0 : Nat) : Int) = 0 from rfl, h0] at h; cases h
        · exact hp
      by_cases c : n < e ∧ e < Tr.endN xs n
      · simp [h, h1, c.1, c.2]
      · rw [if_neg (fun hh => c hh.2)]
        have : (decide (n < e) && decide (e < Tr.endN xs n)) = false := by
          rw [Bool.and_eq_false_iff]
          by_cases c1 : n < e
          · right; exact decide_eq_false (fun hh => c ⟨c1, hh⟩)
          · left; exact decide_eq_false c1
        simp [h, this]
theorem Kp.kept (ms : Tr) (n : Nat) : Wo.kept n (Kp.gone ms n) = (List.range n).filter fun (k : Nat) => Un.has ms (k : Int) ms.length := by
  unfold Wo.kept
  apply List.filter_congr
  intro k hk
  have hk := List.mem_range.1 hk
  cases h : Un.has ms (k : Int) ms.length with
  | false => rw [List.contains_iff_mem.2 (Kp.mem.2 ⟨hk, h⟩)]; rfl
  | true =>
    have : (Kp.gone ms n).contains k = false := by
      rw [Bool.eq_false_iff]
      intro c
      have := (Kp.mem.1 (List.contains_iff_mem.1 c)).2
      rw [h] at this; cases this
    rw [this]; rfl
/-- the nodes that stay, of the first i -/
def Kp.pre (Y ms : Tr) : Nat → Tr
  | 0 => []
  | i + 1 => if Un.has ms (i : Int) ms.length = true then Kp.pre Y ms i ++ [(Tr.l Y i, Tr.d Y i)] else Kp.pre Y ms i
theorem Kp.pre_len (Y ms : Tr) : ∀ i, (Kp.pre Y ms i).length ≤ i
  | 0 => Nat.le_refl _
  | i + 1 => by
    have := Kp.pre_len Y ms i
    unfold Kp.pre
    split
    · rw [List.length_append, List.length_singleton]; omega
    · omega
theorem Kp.pre_map (Y ms : Tr) : ∀ i, Kp.pre Y ms i = ((List.range i).filter fun (k : Nat) => Un.has ms (k : Int) ms.length).map fun k => (Tr.l Y k, Tr.d Y k)
  | 0 => rfl
  | i + 1 => by
    rw [Kp.pre, Kp.pre_map Y ms i, List.range_succ, List.filter_append, List.map_append]
    cases h : Un.has ms (i : Int) ms.length <;> simp [h]
theorem Kp.done {xs ms Y : Tr} (hok : Tr.ok xs = true) (h0 : Un.has ms 0 ms.length = true) (hY : ∀ j, j < xs.length → Tr.l Y j = Tr.l xs j ∧ Tr.d Y j = Tr.d xs j - Kp.q xs ms xs.length j) : Kp.pre Y ms xs.length = Kp.of xs ms := by
  rw [Kp.yes hok h0]
  obtain ⟨em, len, dep⟩ := Wo.tree hok _ (Kp.asc (n := xs.length) h0)
  have hm := Kp.pre_map Y ms xs.length
  rw [← Kp.kept] at hm
  have hlen : (Kp.pre Y ms xs.length).length = (Wo xs (Kp.gone ms xs.length)).length := by rw [hm, List.length_map, len]
  refine Tr.ext hlen fun k hk => ?_
  have hk2 : k < (Wo.kept xs.length (Kp.gone ms xs.length)).length := by omega
  have hx : (Wo.kept xs.length (Kp.gone ms xs.length)).getD k 0 < xs.length := by
    have hmem : (Wo.kept xs.length (Kp.gone ms xs.length)).getD k 0 ∈ Wo.kept xs.length (Kp.gone ms xs.length) := by
      rw [List.getD_eq_getElem?_getD, List.getElem?_eq_getElem hk2]
      exact List.getElem_mem _
    exact List.mem_range.1 (List.mem_filter.1 hmem).1
  have hg : (Kp.pre Y ms xs.length).getD k (0, 0) = (Tr.l Y ((Wo.kept xs.length (Kp.gone ms xs.length)).getD k 0), Tr.d Y ((Wo.kept xs.length (Kp.gone ms xs.length)).getD k 0)) := by
    rw [hm, List.getD_eq_getElem?_getD, List.getElem?_map, List.getD_eq_getElem?_getD, List.getElem?_eq_getElem hk2]
    rfl
  obtain ⟨y1, y2⟩ := hY _ hx
  refine ⟨?_, ?_⟩
  · show ((Kp.pre Y ms xs.length).getD k (0, 0)).1 = _
    rw [hg, em.2.1 k (by omega)]
    exact y1
  · show ((Kp.pre Y ms xs.length).getD k (0, 0)).2 = _
    rw [hg, dep k (by omega), Kp.anc h0, ← Kp.q_all hok]
    exact y2
/-- the model's two rows: the tree with the depths so far, and the postorder -/
def KpS (ND IT : TypeId) (n0 n1 : Nat) (xs : Tr) (ps : List Nat) (g cx : Nat) (gp cp : Nat) (G : Nat → Int) (W : World) : Prop :=
  ∃ Y : Tr, (Y.length = xs.length ∧ ∀ j, j < xs.length → Tr.l Y j = Tr.l xs j ∧ Tr.d Y j = Tr.d xs j - G j) ∧ W.ownsRow n0 ND 2 (.slice (some ⟨g, 0, none⟩) xs.length cx) xs.length (Tr.cells Y) ∧ W.ownsRow n1 IT 1 (.slice (some ⟨gp, 0, none⟩) ps.length cp) ps.length (ints (Zs.up ps))
section
variable {ND IT : TypeId} {n0 n1 : Nat} {xs : Tr} {ps : List Nat} {g cx gp cp : Nat} {G G' : Nat → Int} {W W' : World}
theorem KpS.congr (h : KpS ND IT n0 n1 xs ps g cx gp cp G W) (e : ∀ j, j < xs.length → G j = G' j) : KpS ND IT n0 n1 xs ps g cx gp cp G' W := by
  obtain ⟨Y, ⟨h1, h2⟩, h3, h4⟩ := h
  exact ⟨Y, ⟨h1, fun j hj => by rw [← e j hj]; exact h2 j hj⟩, h3, h4⟩
theorem KpS.below (h : KpS ND IT n0 n1 xs ps g cx gp cp G W) (hb : Below W.heap.size W W') : KpS ND IT n0 n1 xs ps g cx gp cp G W' := by
  obtain ⟨Y, h1, h3, h4⟩ := h
  exact ⟨Y, h1, own_below h3 hb, own_below h4 hb⟩
theorem KpS.post (h : KpS ND IT n0 n1 xs ps g cx gp cp G W) {i : Nat} (hi : i < ps.length) : W.cell? ⟨gp, i, none⟩ = some (.int .i64 ((ps.getD i 0 : Nat) : Int)) := by
  obtain ⟨Y, _, _, h4⟩ := h
  have := own_int h4 (k := i) (by simpa [Zs.up] using hi)
  rw [this]
  unfold Zs.at Zs.up
  rw [List.getD_eq_getElem?_getD, List.getD_eq_getElem?_getD, List.getElem?_map, List.getElem?_eq_getElem hi]
  rfl
theorem KpS.node (h : KpS ND IT n0 n1 xs ps g cx gp cp G W) {e : Nat} (he : e < xs.length) : W.cell? ⟨g, e * 2 + 1, none⟩ = some (.int .i64 (Tr.d xs e - G e)) ∧ W.frozen? ⟨g, e * 2 + 1, none⟩ = false := by
  obtain ⟨Y, ⟨h1, h2⟩, h3, _⟩ := h
  refine ⟨?_, h3.frozenAt _⟩
  rw [← (h2 e he).2]
  exact own_odd h3 (by omega)
theorem KpS.store (h : KpS ND IT n0 n1 xs ps g cx gp cp G W) {e : Nat} (he : e < xs.length) (hg : g < n1) {z : Int} (hz : z = Tr.d xs e - G' e) (hG : ∀ j, j < xs.length → j ≠ e → G' j = G j) : KpS ND IT n0 n1 xs ps g cx gp cp G' (W.setCell ⟨g, e * 2 + 1, none⟩ (.int .i64 z)) := by
  obtain ⟨Y, ⟨h1, h2⟩, h3, h4⟩ := h
  refine ⟨Y.set e (Tr.l Y e, z), ⟨by simp [h1], fun j hj => ?_⟩, ?_, own_grown h4 (h3.stored (e * 2 + 1) (.int .i64 z)).2 (fun k hk => by injection hk with hk; subst hk; exact hg)⟩
  · by_cases c : j = e
    · subst c
      have hj' : j < Y.length := by omega
      refine ⟨?_, ?_⟩
      · rw [← (h2 j hj).1]; simp [Tr.l, List.getD_eq_getElem?_getD, hj']
      · rw [← hz]; simp [Tr.d, List.getD_eq_getElem?_getD, hj']
    · have hne : ¬ e = j := fun h => c h.symm
      obtain ⟨a, b⟩ := h2 j hj
      refine ⟨?_, ?_⟩
      · rw [← a]; simp [Tr.l, List.getD_eq_getElem?_getD, hne]
      · rw [hG j hj c, ← b]; simp [Tr.d, List.getD_eq_getElem?_getD, hne]
  · have := (h3.stored (e * 2 + 1) (.int .i64 z)).1
    rw [Tr.cells_set_odd] at this
    exact this
end

end Go.Proofs.Ytgkkeejhfofcaaa

/- Contracts (UnS). -/
namespace Go.Proofs.Ytgkkeejhfofcaaa
open Go.RowKit
set_option linter.unusedVariables false

set_option maxHeartbeats 800000 in
set_option maxRecDepth 100000 in
theorem l10IsA_any (A : Option Addr) (n c : Nat) (ms : Tr) (i : Int) (w : World) (h : NdIn w w.heap.size A n ms) (hn : n ≤ 1048576) :
    Calls Try.prog 102 #[.slice A n c, .int .i64 i] w fun e w' => e = .returned (.bool (Un.has ms i ms.length)) ∧ Drawn w w' := by
  have H := Lib.hid h
  have HL := Lib.hid h.1
  clear h
  go_enter Try.func102, Try.ntmps102
  go_wp2
  go_loopw [5] (fun iv wr => ∃ k : Nat, k ≤ n ∧ iv = .int .i64 k ∧ Un.has ms i k = false ∧ Drawn w wr) (fun v _ => n - (intOf v).toNat)
  case atStart => exact ⟨0, by omega, rfl, rfl, Drawn.refl _⟩
  case round =>
    obtain ⟨k, hk, rfl, hg, hD⟩ := hrel
    have HG := Lib.hid hg
    have HD := Lib.hid hD
    clear hg hD
    by_cases hlt : k < n
    · obtain ⟨ad, rfl, hb, hl, hd⟩ := (H.out.to_drawn HD.out).at_ (k := k) hlt
      have hk0 : (0 : Int) ≤ (k : Int) := by omega
      have hklt : (k : Int) < (n : Int) := by omega
      have HKL := Lib.hid (show k < ms.length by rw [HL.out]; exact hlt)
      by_cases e : Tr.l ms k = i
      · have hf := Lib.hid (Un.has_hit (ms := ms) e HKL.out : Un.has ms i ms.length = true)
        as_aux_lemma =>
          go_wp2
          go_ret
          exact ⟨by rw [hf.out]; rfl, HD.out⟩
      · have HE := Lib.hid (Un.has_next HG.out (fun q => e (q)))
        as_aux_lemma =>
          go_wp2
          go_roundw
          case rel => exact ⟨k + 1, by omega, by go_num, HE.out, HD.out⟩
          case measure => simp [intOf]; omega
    · obtain rfl : k = n := by omega
      have hf := Lib.hid (by rw [HL.out]; exact HG.out : Un.has ms i ms.length = false)
      go_wp2
      go_ret
      exact ⟨by rw [hf.out]; rfl, HD.out⟩
end Go.Proofs.Ytgkkeejhfofcaaa

/- The contracts of the model's draws: a cursor over the bytes of a code; each draw is a function of the code and of where the cursor stands. -/
namespace Go.Proofs.Ytgkkeejhfofcaaa
open Go.RowKit
set_option linter.unusedVariables false

/-- the cursor in block B: the code v, how many of its bytes are used, the mixed number -/
def Cur (w : World) (B : Nat) (v : Value) (i : Nat) (h : Int) : Prop := w.heap[B]? = some (.cells #[v, .int .i64 i, .int .i64 h] 139 (0, 0))
/-- the code: a slice of bytes that came in, below block B -/
def CodeIn (w : World) (B : Nat) (a : Option Addr) (cs : List Int) : Prop :=
  ∀ j, j < cs.length → ∃ b off, a = some ⟨b, off, none⟩ ∧ b < B ∧ w.cell? ⟨b, off + j, none⟩ = some (.int .u8 (cs.getD j 0)) ∧ 0 ≤ cs.getD j 0 ∧ cs.getD j 0 < 256

theorem Cur.free {w : World} {B : Nat} {v : Value} {i : Nat} {h : Int} (c : Cur w B v i h) (o : Nat) : w.frozen? ⟨B, o, none⟩ = false := by
  unfold Cur at c; simp [World.frozen?, c]
theorem Cur.drewN {w : World} {B : Nat} {v : Value} {i : Nat} {h : Int} (c : Cur w B v i h) (n : Nat) : Cur (w.drewN n) B v i h := c

/-- a code: where it lies, its bytes, the slice's capacity -/
structure Code where
  a : Option Addr
  cs : List Int
  cap : Nat
def CurAt (w : World) (B : Nat) (k : Code) (s : Nat × Int) : Prop := Cur w B (.slice k.a k.cs.length k.cap) s.1 s.2 ∧ CodeIn w B k.a k.cs ∧ k.cs.length ≤ 1048576
theorem CodeIn.grown {w w' : World} {B : Nat} {a : Option Addr} {cs : List Int} {r : Option Nat} (h : CodeIn w B a cs) (hg : w.grownBy w' r) (hr : ∀ k, r = some k → B ≤ k) : CodeIn w' B a cs := by
  intro j hj
  obtain ⟨b, off, h1, h2, h3, h4⟩ := h j hj
  refine ⟨b, off, h1, h2, ?_, h4⟩
  have hlt : b < w.heap.size := by
    rcases Nat.lt_or_ge b w.heap.size with h' | h'
    · exact h'
    · simp [World.cell?, Array.getElem?_eq_none h'] at h3
  rw [World.cell?_of_block (w := w) (hg.block b hlt (by intro e; have := hr b e.symm; omega))]
  exact h3
/-- what others do leaves the cursor alone -/
theorem CurAt.kept {w w' : World} {B : Nat} {k : Code} {s : Nat × Int} {r : Option Nat} (h : CurAt w B k s) (hg : w.grownBy w' r) (hr : ∀ g, r = some g → B < g) : CurAt w' B k s := by
  refine ⟨?_, h.2.1.grown hg (fun g hg => Nat.le_of_lt (hr g hg)), h.2.2⟩
  have hc := h.1
  unfold Cur at hc ⊢
  have hlt : B < w.heap.size := by
    rcases Nat.lt_or_ge B w.heap.size with h' | h'
    · exact h'
    · rw [Array.getElem?_eq_none h'] at hc; cases hc
  rw [hg.block B hlt (by intro e; have := hr B e.symm; omega), hc]
theorem CurAt.lt {w : World} {B : Nat} {k : Code} {s : Nat × Int} (h : CurAt w B k s) : B < w.heap.size := by
  have hc := h.1
  unfold Cur at hc
  rcases Nat.lt_or_ge B w.heap.size with h' | h'
  · exact h'
  · rw [Array.getElem?_eq_none h'] at hc; cases hc
theorem CurAt.alloc {w : World} {B : Nat} {k : Code} {s : Nat × Int} (h : CurAt w B k s) (o : Obj) : CurAt (w.alloc o) B k s :=
  h.kept (r := none) ⟨rfl, rfl, rfl, by simp, fun k hk _ => Below.heap_alloc _ _ _ hk⟩ (fun _ h => by cases h)

/-- the next mixed number, and the byte that it gives by itself -/
def Draw.mix (h : Int) : Int := wrap64 (wrap64 (h * 6364136223846793005) + 1442695040888963407)
def Draw.hi (h : Int) : Int := bits .and .i64 (bits .xor .i64 (Draw.mix h / 8589934592) (Draw.mix h / 35184372088832)) 255
/-- the next byte of a draw, and where the cursor stands then -/
def Draw.byte (cs : List Int) (s : Nat × Int) : Int × (Nat × Int) :=
  if s.1 < cs.length then (bits .and .i64 (Draw.hi s.2 + cs.getD s.1 0) 255, (s.1 + 1, Draw.mix s.2)) else (Draw.hi s.2, (s.1, Draw.mix s.2))
/-- a number from 0 to n-1 -/
def Draw.below (cs : List Int) (n : Int) (s : Nat × Int) : Int × (Nat × Int) :=
  if n ≤ 0 then (0, s) else if n ≤ 256 then ((Draw.byte cs s).1 % n, (Draw.byte cs s).2) else
    let x := Draw.byte cs s
    let y := Draw.byte cs x.2
    let z := Draw.byte cs y.2
    let t := Draw.byte cs z.2
    ((x.1 * 16777216 + y.1 * 65536 + z.1 * 256 + t.1) % n, t.2)
end Go.Proofs.Ytgkkeejhfofcaaa

/- More draws of the model: a new cursor, a number, a text. -/
namespace Go.Proofs.Ytgkkeejhfofcaaa
open Go.RowKit
set_option linter.unusedVariables false

def Draw.newStep (h x : Int) : Int := (h * 131 + x + 7) % 1073741824
/-- the mixed number with which a cursor begins -/
def Draw.newH (cs : List Int) (m : Nat) : Int := (cs.take m).foldl Draw.newStep (10101 + cs.length)
def Draw.start (cs : List Int) : Nat × Int := (0, Draw.newH cs 4000)

end Go.Proofs.Ytgkkeejhfofcaaa

/- Contracts (DrawX). -/
namespace Go.Proofs.Ytgkkeejhfofcaaa
open Go.RowKit
set_option linter.unusedVariables false

/-- the cursor stands somewhere -/
def CurX (w : World) (B : Nat) (k : Code) : Prop := ∃ s, CurAt w B k s
theorem CurX.lt {w : World} {B : Nat} {k : Code} (h : CurX w B k) : B < w.heap.size := by obtain ⟨s, h⟩ := h; exact h.lt
theorem CurX.alloc {w : World} {B : Nat} {k : Code} (h : CurX w B k) (o : Obj) : CurX (w.alloc o) B k := by obtain ⟨s, h⟩ := h; exact ⟨s, h.alloc o⟩
theorem CurX.drewN {w : World} {B : Nat} {k : Code} (h : CurX w B k) (n : Nat) : CurX (w.drewN n) B k := h
theorem CurX.kept {w w' : World} {B : Nat} {k : Code} {r : Option Nat} (h : CurX w B k) (hg : w.grownBy w' r) (hr : ∀ g, r = some g → B < g) : CurX w' B k := by obtain ⟨s, h⟩ := h; exact ⟨s, h.kept hg hr⟩
end Go.Proofs.Ytgkkeejhfofcaaa

/- Draws: what a call that moves the cursor leaves of rows of the caller's own. -/
namespace Go.Proofs.Ytgkkeejhfofcaaa
open Go.RowKit
set_option linter.unusedVariables false

theorem Kit.grown_alloc (w : World) (o : Obj) (r : Option Nat) : w.grownBy (w.alloc o) r := ⟨rfl, rfl, rfl, by simp, fun k hk _ => Below.heap_alloc _ _ _ hk⟩
end Go.Proofs.Ytgkkeejhfofcaaa

/- Contracts (Mem2). -/
namespace Go.Proofs.Ytgkkeejhfofcaaa
open Go.RowKit
set_option linter.unusedVariables false

theorem append_node {P : Program} (w : World) {ops : Array Oper} {rest : List Oper} {o : Oper} {a : Act} {Q : Exit → Act → World → Prop} (hgd : o.guard = none) (s x : Operand) (t : TypeId)
    (ho : o.op = .call { callee := .builtin .append, args := #[s, x], argTypes := #[t, t] })
    (base : Nat) (e : TypeId) (i : TypeInfo) (ht : P.underlying t = some (.slice e)) (hi : P.info? e = some i) (hz : i.zero = some (.agg #[.int .i64 0, .int .i64 0]))
    (hsize : i.size = 2) (hby : i.bytes = 16) (v : Value) (n : Nat) (l : Tr) (hs : a.eval s = v) (hown : w.ownsRow base e 2 v n (Tr.cells l)) (hn : n = l.length)
    (b1 b2 : Int) (hx : a.eval x = .slice (some ⟨w.heap.size, 0, none⟩) 1 1)
    (h63 : l.length + 1 ≤ 1073741824) (hbase : base ≤ w.heap.size)
    (h : ∀ v' w', w'.ownsRow base e 2 v' (l ++ [(b1, b2)]).length (Tr.cells (l ++ [(b1, b2)])) → (w.alloc (.cells #[.int .i64 b1, .int .i64 b2] e)).grownBy w' v.ownBlock → wpList P ops Q rest (a.put o.dst v') w') :
    wpList P ops Q (o :: rest) a (w.alloc (.cells #[.int .i64 b1, .int .i64 b2] e)) := by
  subst hn
  refine wpList_append_own _ hgd s x t ho base e i (.agg #[.int .i64 0, .int .i64 0]) 2 16 ht hi hz hsize hby rfl (by decide) v l.length (Tr.cells l) hs (hown.alloc _) ⟨w.heap.size, 0, none⟩ 1 1 (Tr.cells [(b1, b2)]) hx (by simp [Tr.cells]) ?_ (Tr.cells_cell _) (by unfold maxLen; omega) (by omega) (by simp; omega) ?_
  · intro j u hj
    have hj2 : j < 2 := by
      have := (List.getElem?_eq_some_iff.1 hj).1
      simpa [Tr.cells] using this
    have : j = 0 ∨ j = 1 := by omega
    rcases this with rfl | rfl <;> (simp [Tr.cells] at hj; subst hj; simp [Addr.add])
  · intro v' w' h2 h3 _
    refine h v' w' ?_ h3
    rw [Tr.cells_append, List.length_append]
    exact h2

end Go.Proofs.Ytgkkeejhfofcaaa

/- Contracts (TreeD). -/
namespace Go.Proofs.Ytgkkeejhfofcaaa
open Go.RowKit
set_option linter.unusedVariables false

theorem info_ndD : (Try.prog.info? 47).map (fun i => (i.zero, i.size, i.bytes)) = some (some (.agg #[.int .i64 0, .int .i64 0]), 2, 16) := by kernel_rfl
end Go.Proofs.Ytgkkeejhfofcaaa

/- Contracts (AnyD). -/
namespace Go.Proofs.Ytgkkeejhfofcaaa
open Go.RowKit
set_option linter.unusedVariables false

/-- a slice of nodes, readable, in a block of the call's own (from B0 on) -/
def NdAt (w : World) (B0 : Nat) (A : Option Addr) (n : Nat) (xs : Tr) : Prop := NdIn w w.heap.size A n xs ∧ ∀ ad, A = some ad → B0 ≤ ad.block
theorem NdAt.of_own {w : World} {base n : Nat} {e : TypeId} {A : Option Addr} {c : Nat} {xs : Tr} (h : w.ownsRow base e 2 (.slice A n c) n (Tr.cells xs)) : NdAt w base A n xs := by
  refine ⟨NdIn.of_own h, fun ad he => ?_⟩
  rcases h.2 with ⟨h1, h2⟩ | ⟨g, cap, cur, hv, hb, _⟩
  · injection h1 with h1
    rw [h1] at he
    cases he
  · injection hv with hv
    rw [hv] at he
    injection he with he
    rw [← he]
    exact hb
theorem NdAt.cur {w w' : World} {B B0 n : Nat} {A : Option Addr} {xs : Tr} (h : NdAt w B0 A n xs) (hB : B < B0) (hg : w.grownBy w' (some B)) : NdAt w' B0 A n xs := by
  refine ⟨⟨h.1.1, fun hn => ?_, fun ad e k hk => ?_⟩, h.2⟩
  · obtain ⟨ad, e, hb⟩ := h.1.2.1 hn
    exact ⟨ad, e, Nat.lt_of_lt_of_le hb hg.size⟩
  · obtain ⟨ad', e', hb⟩ := h.1.2.1 (by omega)
    obtain rfl : ad' = ad := by rw [e'] at e; injection e
    have hne := h.2 _ e'
    have := h.1.2.2 _ e k hk
    have q : ∀ p : Addr, p.block = ad'.block → w'.cell? p = w.cell? p := fun p hp => World.cell?_of_block (hg.block p.block (by omega) (by intro e; injection e with e; omega))
    rw [q _ (block_of_add _ _), q _ (block_of_add _ _)]
    exact this
end Go.Proofs.Ytgkkeejhfofcaaa

/- Contracts (NearD). -/
namespace Go.Proofs.Ytgkkeejhfofcaaa
open Go.RowKit
set_option linter.unusedVariables false

theorem CurX.drawn {w1 w2 : World} {B : Nat} {k : Code} (h : CurX w1 B k) (hd : Drawn w1 w2) : CurX w2 B k := by obtain ⟨m, rfl⟩ := hd; exact h.drewN m
set_option maxHeartbeats 800000 in
set_option maxRecDepth 100000 in
theorem l3Copy_ex (ad : Addr) (n c : Nat) (xs : Tr) (w : World) (h : NdIn w w.heap.size (some ad) n xs) (hn : n ≤ 1048576) :
    Calls Try.prog 54 #[.slice (some ad) n c] w fun e w' => ∃ A' c', e = .returned (.slice A' n c') ∧ w'.ownsRow w.heap.size 47 2 (.slice A' n c') n (Tr.cells xs) ∧ w.grownBy w' none := by
  have H := Lib.hid h
  clear h
  have HL := Lib.hid H.out.1
  obtain ⟨i0, hi, hz0, hz1, hz2⟩ := info_parts info_ndD
  go_enter Try.func54, Try.ntmps54
  go_wp2_with (at_builtin; refine wpList_append_own (World.alloc w (.cells #[] 47)) rfl _ _ 24 rfl w.heap.size 47 i0 (.agg #[.int .i64 0, .int .i64 0]) 2 16 Try.underlying24 hi hz0 hz1 hz2 rfl (by omega) (.slice (some ⟨w.heap.size, 0, none⟩) 0 0) 0 [] rfl (World.ownsRow_lit w #[] 0 (Nat.le_refl _) (Nat.zero_le _) rfl) ad n c (Tr.cells xs) rfl (by rw [Tr.cells_length, HL.out]) (NdIn.cells_at (H.out.to_below ((Below.refl _ _).alloc (Nat.le_refl _) _))) (Tr.cells_cell xs) (by unfold maxLen; omega) (by omega) (by simp) ?_; intro v' w1 hown1 hgrow1 hnil1)
  clear hnil1
  have hown2 : w1.ownsRow w.heap.size 47 2 v' n (Tr.cells xs) := by simpa using hown1
  obtain ⟨A', c', rfl⟩ := own_slice hown2
  have hg : w.grownBy w1 none := (Kit.grown_alloc w (.cells #[] 47) none).andThen hgrow1 (fun j hj => .inl (by simp [Value.ownBlock] at hj; omega))
  go_ret
  exact ⟨A', c', rfl, hown2, hg⟩
section
variable {B b0 m cp g2 : Nat} {k : Code} {ys : Tr} {w0 wx wq : World}
end
section
variable {B b0 m cp g2 o : Nat} {k : Code} {ys : Tr} {w0 wx wq : World} {u : Option Value}
end
end Go.Proofs.Ytgkkeejhfofcaaa
