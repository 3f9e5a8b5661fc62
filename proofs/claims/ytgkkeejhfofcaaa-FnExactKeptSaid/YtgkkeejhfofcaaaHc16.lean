/- Texts of one claim laid into one file, in build order: Bck, BckI, GroI, ConI, Bxc, RmI. -/
import Derived.Test.YtgkkeejhfofcaaaHc1
import Derived.Test.YtgkkeejhfofcaaaHc13
import Derived.Test.YtgkkeejhfofcaaaHc2
import Derived.Test.YtgkkeejhfofcaaaHc3
import Derived.Test.YtgkkeejhfofcaaaHc6
import Derived.Test.YtgkkeejhfofcaaaHc7
import Derived.Deep.RegionHeld3
import Derived.Laws.AppendOwnNone
import Derived.Lib.AppendZerosOnto
import Derived.Lib.SliceRun
import Derived.Lib.Walk
import Derived.LoopIn
import Derived.LoopNIn
import Derived.OwnWalkIn
import Derived.RangeFuncBound
import Derived.RangeFuncBox
import Derived.RangeFuncCalls
import Derived.RangeFuncLeaves
import Derived.Shelf.Abstract
import Derived.Shelf.RegionOpen
import Derived.Shelf.RegionOpenPlain
import Derived.TacticsInMore
import Derived.WalkKit
/- Contracts (Bck). -/
namespace Go.Proofs.Ytgkkeejhfofcaaa
open Go.RowKit
set_option linter.unusedVariables false

/-! A range over a function that reads memory between rounds and gives N values in turn, no round leaving early. -/
/-- what holds between two rounds abides whatever the iterator and the loop do in their own blocks (M), new ones among them -/
def FreesN (J : Nat → (Nat → Prop) → World → Prop) : Prop :=
  ∀ k M M' W W' row, J k M W → W.grownBy W' row → (∀ r, row = some r → M r) → (∀ b, M' b → M b ∨ W.heap.size ≤ b) → J k M' W'
def InN (n0 : Nat) (M : Nat → Prop) (W : World) : Prop := ∀ r, M r → n0 ≤ r ∧ r < W.heap.size
abbrev RndN (J : Nat → (Nat → Prop) → World → Prop) (n0 k : Nat) (M : Nat → Prop) (W W' : World) : Prop :=
  J (k + 1) M W' ∧ (∀ r, M r → W'.heap[r]? = W.heap[r]?) ∧ Below n0 W W'
def YieldsN (P : Program) (n0 l N : Nat) (enc : Nat → Array Value) (J : Nat → (Nat → Prop) → World → Prop) : Prop :=
  ∀ k M W, J k M W → InN n0 M W → k < N → YieldAt Fence.wide 0 P l (enc k) W fun e W' => e = .returned (.bool true) ∧ RndN J n0 k M W W'
/-- a function value that gives N values in turn; the blocks M0 are its own -/
def GivesN (P : Program) (n0 gf : Nat) (lb : Array Value) (N : Nat) (enc : Nat → Array Value) (M0 : Nat → Prop) (w : World) : Prop :=
  ∀ l J M W, Below w.heap.size w W → FreesN J → InN n0 M W → (∀ r, M0 r → M r) → YieldsN P n0 l N enc J → J 0 M W →
    Calls P gf (#[.func (.yield l) #[] #[]] ++ lb) W fun e W' => (∃ v, e = .returned v) ∧ J N M W' ∧ Below n0 W W'
theorem below_put {n0 l : Nat} (W : World) (o : Obj) (h : n0 ≤ l) (hl : l < W.heap.size) : Below n0 W (W.putObj l o) :=
  (Below.refl n0 W).grown (grownBy_putObj' W l o) (by omega) (fun k e => by cases e; exact h)
set_option maxHeartbeats 1000000 in
theorem wp_rangeN {P : Program} {n0 : Nat} {g : Operand} {ps : Array Tmp} {assign body : Code} {Q : Exit → Act → World → Prop} {a : Act} {w : World} (hn0 : n0 ≤ w.heap.size) {gf : Nat} {lb : Array Value}
    (hg : a.eval g = .func (.func gf) #[] lb) (eg : ∀ args w, (callFunc gf args).run P w = .ok (.enter gf args) w) {N : Nat} {enc : Nat → Array Value} {M0 : Nat → Prop} {w0 : World} (hseq : GivesN P n0 gf lb N enc M0 w0) (hb0 : Below w0.heap.size w0 w) (hM0 : InN n0 M0 w) (hps : ∀ k, (enc k).size = ps.size)
    (I : Nat → (Nat → Prop) → World → Prop) (hI : FreesN I) (h0 : I 0 M0 w) (a₁ : Nat → Act)
    (hassign : ∀ (l k : Nat) (W : World) (K : Act → World → Prop), K (a₁ k) W → assign.wpIn (Fence.wide.inRound l) 0 P (Exit.then K (fun _ _ _ => False)) { tmps := (ps.zip (enc k)).foldl (fun t (p, v) => t.setIfInBounds p v) a.tmps, defers := [] } W)
    (hbody : ∀ (l k : Nat) (M : Nat → Prop) (W : World), I k M W → InN n0 M W → k < N →
      body.wpIn (Fence.wide.inRound l) 0 P (Exit.then (fun _ W' => RndN I n0 k M W W') (fun _ _ _ => False)) (a₁ k) W)
    (hdone : ∀ (D : Nat) (W : World), w.heap.size ≤ D → I N M0 W → Below n0 w W → W.heap[D]? = some (.deferred (some [])) → Q .normal { a with defers := { target := .collected D, args := #[] } :: a.defers } W) :
    (Code.rangeFunc g ps assign body).wpIn Fence.wide 1 P Q a w := by
  refine wpIn_rangeFunc ?_
  intro fn hfn
  obtain ⟨rec, hrec⟩ : ∃ rec : LoopState → Option Code → Loop, rec = fun st pe => { state := st, pending := pe, fn, tmps := a.tmps, params := ps, assign, body, defers := w.heap.size } := ⟨_, rfl⟩
  obtain ⟨D, hD⟩ : ∃ D, D = w.heap.size := ⟨_, rfl⟩
  obtain ⟨W1, hW1⟩ : ∃ W1, (w.alloc (.deferred (some []))).alloc (.loop (rec .ready none)) = W1 := ⟨_, rfl⟩
  have hs1 : W1.heap.size = D + 2 := by rw [← hW1, hD]; simp
  have hL1 : W1.heap[D + 1]? = some (.loop (rec .ready none)) := by
    rw [← hW1, hD]; have := World.alloc_heap_new (w.alloc (.deferred (some []))) (.loop (rec .ready none)); rwa [World.size_alloc] at this
  have hK1 : W1.heap[D]? = some (.deferred (some [])) := by
    rw [← hW1, hD]; exact (Below.heap_alloc _ _ _ (by simp)).trans (World.alloc_heap_new w _)
  have hI1 : I 0 (fun r => M0 r ∨ r = D ∨ r = D + 1) W1 := by
    rw [← hW1]
    refine hI _ (fun r => M0 r ∨ r = D) _ _ _ none (hI _ _ _ _ _ none h0 (World.grownBy_alloc w _ none) (fun r e => by cases e) (fun b e => e.imp id (fun e => by omega))) (World.grownBy_alloc _ _ none) (fun r e => by cases e) (fun b e => ?_)
    rcases e with e | e | e
    · exact .inl (.inl e)
    · exact .inl (.inr e)
    · exact .inr (by simp; omega)
  have hb1 : Below w0.heap.size w0 W1 := by
    rw [← hW1]; exact hb0.trans ((((Below.refl _ w).alloc (Nat.le_refl _) _).alloc (by simp) _).mono hb0.size)
  have hB1 : Below n0 w W1 := by rw [← hW1]; exact ((Below.refl _ w).alloc hn0 _).alloc (by simp; omega) _
  refine ⟨D + 1, [{ target := .collected D, args := #[] }], W1, { target := .fn (.func gf) lb, args := #[.func (.yield (D + 1)) #[] #[]] }, W1, gf,
    #[.func (.yield (D + 1)) #[] #[]] ++ lb, W1, ?_, ?_, ?_, ?_, fun _ => by omega, ?_⟩
  · rw [← hW1, hrec, hD]; exact run_enterLoop_outer _ _ _ _ _
  · simp only [resolve, hg]
    simp [go_sem]
  · intro f' _; exact trivial
  · simp [invoke, go_sem, eg]
  · refine callsIn_wide.2 ((hseq (D + 1)
      (fun k M W => I k (fun r => M r ∨ r = D ∨ r = D + 1) W ∧ W.heap[D + 1]? = some (.loop (rec .ready none)) ∧ W.heap[D]? = some (.deferred (some [])) ∧ ∀ r, M r → r ≠ D ∧ r ≠ D + 1)
      M0 W1 hb1 ?fr (fun r e => ⟨(hM0 r e).1, by have := (hM0 r e).2; omega⟩) (fun r e => e) ?yl ⟨hI1, hL1, hK1, fun r e => by have := (hM0 r e).2; omega⟩).mono ?_)
    case fr =>
      rintro k M M' W W' row ⟨h1, h2, h3, h4⟩ hgr hrow hM
      have hlt : D + 1 < W.heap.size := (Array.getElem?_eq_some_iff.1 h2).1
      have hne : ∀ q, q = D ∨ q = D + 1 → some q ≠ row := fun q hq e => by have := h4 q (hrow q e.symm); omega
      refine ⟨hI _ _ _ _ _ row h1 hgr (fun r e => .inl (hrow r e)) (fun b e => ?_), (hgr.block _ hlt (hne _ (.inr rfl))).trans h2, (hgr.block _ (by omega) (hne _ (.inl rfl))).trans h3, fun r e => ?_⟩
      · rcases e with e | e
        · exact (hM b e).imp .inl id
        · exact .inl (.inr e)
      · rcases hM r e with e | e
        · exact h4 r e
        · omega
    case yl =>
      rintro k M W ⟨hi, hl, hk, hm⟩ hin hlen
      have hlt : D + 1 < W.heap.size := (Array.getElem?_eq_some_iff.1 hl).1
      have hrun := run_yield (P := P) (args := enc k) hl (by rw [hrec]; exact hps k)
      rw [hrec] at hrun
      refine ⟨fn, _, assign, body, hrun, roundIn_of_wpIn hfn (hassign _ k W _ ?_)⟩
      refine ⟨_, run_beginRound hl (by rw [hrec]), ?_⟩
      obtain ⟨W2, hW2⟩ : ∃ W2, W2 = W.putObj (D + 1) (.loop { rec .ready none with state := .busy }) := ⟨_, rfl⟩
      rw [← hW2]
      have hl2 : W2.heap[D + 1]? = some (.loop { rec .ready none with state := .busy }) := by rw [hW2]; exact World.putObj_heap_same hlt
      have hk2 : W2.heap[D]? = some (.deferred (some [])) := by rw [hW2]; exact (World.putObj_heap_other (by omega)).trans hk
      have hs2 : W2.heap.size = W.heap.size := by rw [hW2]; simp
      have hB2 : Below n0 W W2 := by rw [hW2]; exact below_put W _ (by omega) hlt
      refine wpIn_mono (hbody _ k (fun r => M r ∨ r = D ∨ r = D + 1) W2 (by rw [hW2]; exact hI _ _ _ _ _ (some (D + 1)) hi (grownBy_putObj' W _ _) (fun r e => by cases e; exact .inr (.inr rfl)) (fun r e => .inl e)) (fun r e => ?_) hlen) ?_
      · rw [hs2]
        rcases e with e | rfl | rfl
        · exact hin r e
        · omega
        · omega
      · rintro e a3 W3 hp
        cases e with
        | normal =>
          obtain ⟨hi3, hk3, hB3⟩ := hp
          have hl3 : W3.heap[D + 1]? = some (.loop { rec .ready none with state := .busy }) := (hk3 _ (.inr (.inr rfl))).trans hl2
          have hlt3 : D + 1 < W3.heap.size := (Array.getElem?_eq_some_iff.1 hl3).1
          have hend := run_endRound (P := P) none hl3
          rw [hrec] at hend
          refine ⟨_, _, hend, rfl, ?_⟩
          refine ⟨⟨hI _ _ _ _ _ (some (D + 1)) hi3 (grownBy_putObj' W3 _ _) (fun r e => by cases e; exact .inr (.inr rfl)) (fun b e => .inl e), ?_, (World.putObj_heap_other (by omega)).trans ((hk3 _ (.inr (.inl rfl))).trans hk2), hm⟩, fun r e => ?_, (hB2.trans hB3).trans (below_put W3 _ (by omega) hlt3)⟩
          · rw [hrec]; exact World.putObj_heap_same hlt3
          · have := hm r e
            exact (World.putObj_heap_other (by omega)).trans ((hk3 r (.inl e)).trans (by rw [hW2]; exact World.putObj_heap_other (by omega)))
        | ret => exact hp.elim
        | exit id => exact hp.elim
        | goto t => exact hp.elim
        | panic ch => exact hp.elim
        | outgrown => exact hp.elim
    · rintro e W2 ⟨⟨v, rfl⟩, ⟨hi, hl, hk, _⟩, hB⟩
      have hlt : D + 1 < W2.heap.size := (Array.getElem?_eq_some_iff.1 hl).1
      have hend := run_endLoop (P := P) hl (by rw [hrec]; simp)
      rw [hrec] at hend
      refine ⟨none, _, hend, hdone D _ (by omega) (hI _ _ _ _ _ (some (D + 1)) hi (grownBy_putObj' W2 _ _) (fun r e => by cases e; exact .inr (.inr rfl)) (fun b e => .inl (.inl e))) ((hB1.trans hB).trans (below_put W2 _ (by omega) hlt)) ((World.putObj_heap_other (by omega)).trans hk)⟩

end Go.Proofs.Ytgkkeejhfofcaaa

/- Contracts (BckI). -/
namespace Go.Proofs.Ytgkkeejhfofcaaa
open Go.RowKit Go.Shelf
set_option linter.unusedVariables false
attribute [local go_sem] Oper.semAt_some

set_option maxHeartbeats 800000 in
set_option maxRecDepth 100000 in
theorem slBackward_any (A : Option Addr) (n c : Nat) (w : World) :
    Calls Try.prog 144 #[.slice A n c] w fun e w' => e = .returned (.func (.func 166) #[] #[.pointer (some ⟨w.heap.size, 0, none⟩)]) ∧ w' = w.alloc (.cells #[.slice A n c] 29) := by
  go_enter Try.func144, Try.ntmps144
  go_wp2
  go_ret
  exact ⟨rfl, rfl⟩
set_option maxHeartbeats 1600000 in
set_option maxRecDepth 100000 in
/-- the library's iterator over a row of ints, from its end -/
theorem backward_gives {A : Option Addr} {n c n0 : Nat} {zs : List Int} (b : Nat) (w0 : World) (hz : IntIn w0 n0 A n zs) (hn : n ≤ 1048576) (hn0 : n0 ≤ w0.heap.size) (h1 : w0.cell? ⟨b, 0, none⟩ = some (.slice A n c)) :
    GivesN Try.prog n0 166 #[.pointer (some ⟨b, 0, none⟩)] n (fun k => #[.int .i64 ((n - 1 - k : Nat) : Int), .int .i64 (Zs.at zs (n - 1 - k))]) (fun r => r = b) w0 := by
  intro l J M W hW hJ hI hM hY hj
  have lb : b < w0.heap.size := World.block_lt_of_cell? _ _ h1
  have HZ := Lib.hid (hz.below (hW.mono hn0))
  have HG := Lib.hid ((hW.cell (p := ⟨b, 0, none⟩) lb).trans h1)
  have HJ := Lib.hid hj
  have HY := Lib.hid hY
  have HI := Lib.hid hI
  have HMb := Lib.hid (hM b rfl)
  clear hj hW hJ hI hM hY hz h1
  show Calls Try.prog 166 #[.func (.yield l) #[] #[], .pointer (some ⟨b, 0, none⟩)] W _
  have a1 : IntKind.i64.wrap ((n : Int) - 1) = (n : Int) - 1 := Kit.w64 (by omega) (by omega)
  have g0 := HG.out
  refine (callsIn_wide (n := 1)).1 ?_
  refine callsIn_of_wp Try.func166 rfl trivial ?_ rfl
  simp only [Try.ntmps166, List.size_toArray, List.length_cons, List.length_nil, Nat.reduceAdd, Nat.reduceSub, Array.replicate_succ, Array.replicate_zero, List.push_toArray, List.append_toArray, List.nil_append, List.cons_append]
  gi_wp2
  clear g0
  gi_loopw [3] (fun iv wr => ∃ t : Nat, t ≤ n ∧ iv = .int .i64 ((t : Int) - 1) ∧ J (n - t) M wr ∧ wr.cell? ⟨b, 0, none⟩ = some (.slice A n c) ∧ Below n0 W wr) (fun i _ => (intOf i + 1).toNat)
  case atStart => exact ⟨n, Nat.le_refl _, by go_num, by rw [Nat.sub_self]; exact HJ.out, HG.out, Below.refl _ _⟩
  case round =>
    obtain ⟨t, ht, rfl, hj, hg, hB⟩ := hrel
    have HB := Lib.hid hB
    have HJ := Lib.hid hj
    clear hB hj
    cases t with
    | zero =>
      have HE := Lib.hid (show J n M wr from HJ.out)
      have hq : decide ((0 : Int) ≤ ((0 : Nat) : Int) - 1) = false := by decide
      gi_wp2
      go_end0
      exact ⟨⟨_, rfl⟩, HE.out, HB.out⟩
    | succ s =>
      have e1 : (((s + 1 : Nat) : Int) - 1) = (s : Int) := by omega
      rw [e1]
      obtain ⟨ad, rfl, hb, hl⟩ := (HZ.out.below HB.out).at_ (k := s) (by omega)
      obtain ⟨fn, tmps, assign, body, hy, hR⟩ := HY.out (n - (s + 1)) M wr HJ.out (fun r e => ⟨(HI.out r e).1, Nat.lt_of_lt_of_le (HI.out r e).2 HB.out.size⟩) (by omega)
      have e2 : n - 1 - (n - (s + 1)) = s := by omega
      dsimp only at hy
      rw [e2] at hy
      have e3 : n - (s + 1) + 1 = n - s := by omega
      have E3 := Lib.hid e3
      have HR := Lib.hid hR
      clear hR e1 e2 e3
      have b0 : (0 : Int) ≤ (s : Int) := by omega
      have b1 : (s : Int) < (n : Int) := by omega
      have a2 : IntKind.i64.wrap ((s : Int) - 1) = (s : Int) - 1 := Kit.w64 (by omega) (by omega)
      gi_wp2
      refine HR.out.mono ?_
      rintro e W3 ⟨rfl, hJ3, hk3, hB3⟩
      have g3 : W3.cell? ⟨b, 0, none⟩ = some (.slice (some ad) n c) := (World.cell?_of_block (a := ⟨b, 0, none⟩) (hk3 b HMb.out)).trans hg
      have HJ3 := Lib.hid (show J (n - s) M W3 by rw [← E3.out]; exact hJ3)
      have HB3 := Lib.hid (HB.out.trans hB3)
      clear hJ3 hk3 hB3
      gi_wp2
      go_roundw
      case rel => exact ⟨s, by omega, by go_num, HJ3.out, g3, HB3.out⟩
      case measure => simp [intOf]

end Go.Proofs.Ytgkkeejhfofcaaa

/- Contracts (GroI). -/
namespace Go.Proofs.Ytgkkeejhfofcaaa
open Go.RowKit
set_option linter.unusedVariables false

set_option maxHeartbeats 800000 in
set_option maxRecDepth 100000 in
theorem growNodes_any (n : Nat) (w : World) (h0 : 0 < n) (hn : n ≤ 1048576) :
    Calls Try.prog 165 #[.slice none 0 0, .int .i64 (n : Int)] w fun e w' => ∃ G, e = .returned (.slice (some ⟨w.heap.size, 0, none⟩) 0 G) ∧ w'.ownsRow w.heap.size 47 2 (.slice (some ⟨w.heap.size, 0, none⟩) 0 G) 0 [] ∧ Below w.heap.size w w' := by
  obtain ⟨i0, hi0, hz0, hz1, hz2⟩ := info_parts info_ndC
  have hrz : ∀ ty, (Builtin.append_ #[24, 3] ty #[.slice none 0 0, .int .i64 (n : Int)]).run Try.prog w =
      .ok (.slice (some ⟨w.heap.size, 0, none⟩) n (grownCap w n 0 47)) (w.drew.alloc (.cells (#[] ++ Builtin.zeroCells (Value.agg #[.int .i64 0, .int .i64 0]).cells n ++ Builtin.zeroCells (Value.agg #[.int .i64 0, .int .i64 0]).cells (grownCap w n 0 47 - n)) 47)) := fun ty => by
    have h := Lib.run_append_grow_zeros w 24 3 ty 47 i0 (.agg #[.int .i64 0, .int .i64 0]) .i64 .i64 Try.underlying24 Try.underlying3 hi0 hz0 none 0 0 [] (run_firstCells_none w.drew i0.size 0 0 0) n h0 (by omega) (by omega) (by omega) (by rw [hz2]; omega) (growslice_fits (by omega) (by rw [hz2]; omega))
    simpa using h
  have hGn : n ≤ grownCap w n 0 47 := grownCap_ge w _ _ _
  have hGm := grownCap_le_maxLen w n 0 47 (by unfold maxLen; omega)
  obtain ⟨G, hG⟩ : ∃ G, G = grownCap w n 0 47 := ⟨_, rfl⟩
  rw [← hG] at hrz hGn hGm
  have hG63 : G ≤ 9223372036854775807 := by unfold maxLen at hGm; omega
  clear hG
  obtain ⟨cs, hcs⟩ : ∃ cs : Array Value, cs = #[] ++ Builtin.zeroCells (Value.agg #[.int .i64 0, .int .i64 0]).cells n ++ Builtin.zeroCells (Value.agg #[.int .i64 0, .int .i64 0]).cells (G - n) := ⟨_, rfl⟩
  rw [← hcs] at hrz
  have hsz : cs.size = G * 2 := by
    have h2 : (Value.agg #[.int .i64 0, .int .i64 0]).cells.size = 2 := rfl
    rw [hcs]; simp [Builtin.zeroCells]; rw [h2]; omega
  have h1 : ¬ ((n : Int) < 0) := by omega
  have h2 : IntKind.i64.wrap ((n : Int) - 0) = (n : Int) := by rw [Int.sub_zero]; exact Kit.w64 (by omega) (by omega)
  have HS := Lib.hid hsz
  have HM := Lib.hid hGm
  clear hcs hsz hGm
  go_enter Try.func165, Try.ntmps165
  go_wp2_with (at_builtin; refine Lib.wpList_append_run _ rfl _ _ _ _ rfl _ _ rfl rfl _ _ (hrz _) ?_)
  go_ret
  exact ⟨G, rfl, ⟨rfl, .inr ⟨_, G, cs, rfl, Nat.le_refl _, heap_alloc_new _ _, Nat.zero_le _, HM.out, HS.out, by simp⟩⟩, (Drawn.refl _).drew.toBelow.alloc (Nat.le_refl _) _⟩

end Go.Proofs.Ytgkkeejhfofcaaa

/- Contracts (ConI). -/
namespace Go.Proofs.Ytgkkeejhfofcaaa
open Go.RowKit
set_option linter.unusedVariables false

/-- the i-th of some slices of nodes that stand in a row reads as the i-th list -/
def SlsIn (w : World) (b m : Nat) (vs : List Value) (xss : List Tr) : Prop :=
  xss.length = m ∧ ∀ i, i < m → w.cell? ⟨b, i, none⟩ = some (vs.getD i undef) ∧ ∃ A c, vs.getD i undef = .slice A (xss.getD i []).length c ∧ NdIn w w.heap.size A (xss.getD i []).length (xss.getD i []) ∧ (A = none → (xss.getD i []).length = 0 ∧ c = 0)
theorem SlsIn.to_below {w w' : World} {b m : Nat} {vs : List Value} {xss : List Tr} (h : SlsIn w b m vs xss) (hb : Below w.heap.size w w') : SlsIn w' b m vs xss := by
  refine ⟨h.1, fun i hi => ?_⟩
  obtain ⟨c1, A, c, e, hn, h0⟩ := h.2 i hi
  exact ⟨(hb.cell (World.block_lt_of_cell? _ _ c1)).trans c1, A, c, e, hn.to_below hb, h0⟩
theorem flat_step (xss : List Tr) (k : Nat) (hk : k < xss.length) : (xss.take (k + 1)).flatten = (xss.take k).flatten ++ xss.getD k [] := by
  rw [List.take_succ_eq_append_getElem hk, List.flatten_append]
  simp [List.getD_eq_getElem?_getD, hk]
theorem flat_le (xss : List Tr) (k : Nat) : (xss.take k).flatten.length ≤ xss.flatten.length := by
  conv => rhs; rw [← List.take_append_drop k xss, List.flatten_append, List.length_append]
  omega
set_option maxHeartbeats 800000 in
set_option maxRecDepth 100000 in
theorem concatNodes_any (b m : Nat) (c : Nat) (vs : List Value) (xss : List Tr) (w : World) (h : SlsIn w b m vs xss) (hm : m ≤ 1000) (h0 : 0 < xss.flatten.length) (hl : xss.flatten.length ≤ 1048576) :
    Calls Try.prog 134 #[.slice (some ⟨b, 0, none⟩) m c] w (OwnNodes 47 xss.flatten w) := by
  have H := Lib.hid h
  have HM := Lib.hid h.1
  obtain ⟨P, hP⟩ : ∃ P : Nat → Tr, P = fun k => (xss.take k).flatten := ⟨_, rfl⟩
  obtain ⟨R, hR⟩ : ∃ R : Tr, R = xss.flatten := ⟨_, rfl⟩
  have HF := Lib.hid (show ∀ k, k < m → P (k + 1) = P k ++ xss.getD k [] from fun k hk => by rw [hP]; exact flat_step xss k (by rw [h.1]; exact hk))
  have HFL := Lib.hid (show ∀ k, (P k).length ≤ R.length from fun k => by rw [hP, hR]; exact flat_le xss k)
  have HFA := Lib.hid (show P m = R by rw [hP, hR]; show (xss.take m).flatten = _; rw [List.take_of_length_le (by rw [h.1]; exact Nat.le_refl _)])
  have HF0 := Lib.hid (show P 0 = [] by rw [hP]; rfl)
  rw [← hR] at h0 hl ⊢
  clear hP hR
  obtain ⟨i0, hi, hz0, hz1, hz2⟩ := info_parts info_ndC
  clear h
  go_enter Try.func134, Try.ntmps134
  go_wp2
  go_loop [11, 3] (fun kv sv => ∃ k : Nat, k ≤ m ∧ kv = .int .i64 k ∧ sv = .int .i64 (((P k).length : Nat) : Int)) (fun k _ => m - (intOf k).toNat)
  case atStart => exact ⟨0, by omega, by go_num, by rw [HF0.out]; rfl⟩
  case round =>
    obtain ⟨k, hk, rfl, rfl⟩ := hrel
    by_cases hlt : k < m
    · obtain ⟨c1, A, cc, e, hn, hz⟩ := H.out.2 k hlt
      rw [e] at c1
      have hs := HF.out k hlt
      have hls := HFL.out (k + 1)
      have k0 : (0 : Int) ≤ (k : Int) := by omega
      have k1 : (k : Int) < (m : Int) := by omega
      obtain ⟨s, hs'⟩ : ∃ s, s = (P k).length := ⟨_, rfl⟩
      obtain ⟨z, hz'⟩ : ∃ z, z = (xss.getD k []).length := ⟨_, rfl⟩
      rw [hs, List.length_append, ← hs', ← hz'] at hls
      have Hs := Lib.hid (show (((P (k + 1)).length : Nat) : Int) = (s : Int) + (z : Int) by rw [hs, List.length_append, ← hs', ← hz']; omega)
      rw [← hs']
      rw [← hz'] at c1
      have a5 : IntKind.i64.wrap ((s : Int) + (z : Int)) = (s : Int) + (z : Int) := Kit.w64 (by omega) (by omega)
      have q : decide ((s : Int) + (z : Int) < 0) = false := decide_eq_false (by omega)
      clear hs hs' hz' hn hz e
      go_wp2
      go_round
      case rel => exact ⟨k + 1, by omega, by go_num, by rw [Hs.out]⟩
      case measure => simp [intOf]; omega
    · obtain rfl : k = m := by omega
      rw [HFA.out]
      go_wp2_with fail
      refine (growNodes_any _ _ h0 hl).mono ?_
      rintro e w2 ⟨G, rfl, ho2, hb2⟩
      have Ho2 := Lib.hid ho2
      have Hb2 := Lib.hid hb2
      clear ho2 hb2
      go_wp2
      go_loopw [27, 6] (fun kv sv wq => ∃ j : Nat, j ≤ k ∧ kv = .int .i64 j ∧ wq.ownsRow w.heap.size 47 2 sv (P j).length (Tr.cells (P j)) ∧ Below w.heap.size w wq) (fun j _ _ => k - (intOf j).toNat)
      case atStart => exact ⟨0, by omega, by go_num, by rw [HF0.out]; exact Ho2.out, Hb2.out⟩
      case round =>
        obtain ⟨j, hj, rfl, hown, hB⟩ := hrel
        have Ho := Lib.hid hown
        have HB := Lib.hid hB
        have hsz := hB.size
        clear hown hB
        by_cases hlt : j < k
        · obtain ⟨c1, A, cc, e, hn, hz⟩ := (H.out.to_below HB.out).2 j hlt
          rw [e] at c1
          have k0 : (0 : Int) ≤ (j : Int) := by omega
          have k1 : (j : Int) < (k : Int) := by omega
          have hs := HF.out j hlt
          have hls := HFL.out (j + 1)
          rw [hs, List.length_append] at hls
          have Hs := Lib.hid hs
          have Hn := Lib.hid hn
          obtain ⟨z, hz'⟩ : ∃ z, z = (xss.getD j []).length := ⟨_, rfl⟩
          rw [← hz'] at c1 hls hz
          have Hz' := Lib.hid hz'
          have Hz := Lib.hid hz
          clear hs hn hz' e hz
          cases A with
          | none =>
            obtain ⟨hz0', rfl⟩ := Hz.out rfl
            subst hz0'
            have hnil := Lib.hid (show xss.getD j [] = [] from List.length_eq_zero_iff.1 Hz'.out.symm)
            go_wp2_with (at_builtin; go_loud (refine wpList_append_own_none rfl _ _ 24 rfl w.heap.size 47 i0 2 Try.underlying24 hi u6 (P j).length (Tr.cells (P j)) rfl Ho.out rfl ?_))
            go_roundw
            case rel => exact ⟨j + 1, by omega, by go_num, by rw [Hs.out, hnil.out, List.append_nil]; exact Ho.out, HB.out⟩
            case measure => simp [intOf]; omega
          | some ad =>
            have HC := Lib.hid (show (Tr.cells (xss.getD j [])).length = z * 2 by rw [Tr.cells_length, ← Hz'.out])
            have HN2 := Lib.hid (Hn.out.cells_at)
            go_wp2_with (at_builtin; go_loud (refine wpList_append_own _ rfl _ _ 24 rfl w.heap.size 47 i0 (.agg #[.int .i64 0, .int .i64 0]) 2 16 Try.underlying24 hi hz0 hz1 hz2 rfl (by decide) u6 (P j).length (Tr.cells (P j)) rfl Ho.out ad z cc (Tr.cells (xss.getD j [])) rfl HC.out HN2.out (Tr.cells_cell _) (by unfold maxLen; omega) (by omega) hsz ?_; intro v3 w3 hown3 hgr3 _))
            have Ho3 := Lib.hid hown3
            have hb3 := HB.out.grown hgr3 hsz (fun g hg => (Ho.out.lt g hg).1)
            have HB3 := Lib.hid hb3
            clear hown3 hgr3 hb3
            go_roundw
            case rel => exact ⟨j + 1, by omega, by go_num, by rw [Hs.out, List.length_append, ← Hz'.out, Tr.cells_append]; exact Ho3.out, HB3.out⟩
            case measure => simp [intOf]; omega
        · obtain rfl : j = k := by omega
          rw [HFA.out] at Ho
          obtain ⟨A', c', rfl⟩ := own_slice Ho.out
          go_wp2
          go_ret
          exact ⟨A', c', rfl, Ho.out, HB.out⟩

end Go.Proofs.Ytgkkeejhfofcaaa

/- Contracts (Bxc). -/
namespace Go.Proofs.Ytgkkeejhfofcaaa
open Go.RowKit
set_option linter.unusedVariables false

/-- below a world's blocks nothing has turned -/
def BelA (w wq : World) : Prop := Below w.heap.size w wq
section
variable {wa wx wy : World} {b : Nat} {v0 v1 v2 : Value}
end

end Go.Proofs.Ytgkkeejhfofcaaa

/- Contracts (RmI). -/
namespace Go.Proofs.Ytgkkeejhfofcaaa
open Go.RowKit
set_option linter.unusedVariables false

theorem Tr.sh_cut (xs : Tr) {f m : Nat} (h : f + m ≤ xs.length) : (xs.drop f).take m = Tr.sh xs f (f + m) 0 := by
  rw [← Tr.up_none ((xs.drop f).take m) 0]
  unfold Tr.up Tr.sh
  have hl : ((xs.drop f).take m).length = m := by simp; omega
  rw [hl, show f + m - f = m by omega]
  refine List.map_congr_left fun t ht => ?_
  have ht := List.mem_range.1 ht
  have hg : ((xs.drop f).take m).getD t (0, 0) = xs.getD (f + t) (0, 0) := by simp [List.getD_eq_getElem?_getD, ht]
  rw [if_neg (by omega)]
  simp only [Tr.l, Tr.d, hg, Int.add_zero]
theorem Tr.sh_up (xs : Tr) (dd : Int) {f m : Nat} (h : f + m ≤ xs.length) : Tr.up ((xs.drop f).take m) dd m = Tr.sh xs f (f + m) dd := by
  rw [Tr.up_cut xs dd h]
  unfold Tr.sh
  rw [show f + m - f = m by omega]
theorem NdIn.none {w : World} {B : Nat} {A : Option Addr} : NdIn w B A 0 [] := ⟨rfl, fun h => absurd h (Nat.lt_irrefl 0), fun ad _ k hk => absurd hk (Nat.not_lt_zero k)⟩
end Go.Proofs.Ytgkkeejhfofcaaa
