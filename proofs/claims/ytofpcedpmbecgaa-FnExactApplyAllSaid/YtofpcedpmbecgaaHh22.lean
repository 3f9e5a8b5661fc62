/- Texts of one claim laid into one file, in build order: SubS, ShS, NatS, Draw, Draw2, DrawX, DrawK, TreeD, AnyD, NearD. -/
import Derived.Test.YtofpcedpmbecgaaHh1
import Derived.Test.YtofpcedpmbecgaaHh14
import Derived.Test.YtofpcedpmbecgaaHh2
import Derived.Test.YtofpcedpmbecgaaHh3
import Derived.Test.YtofpcedpmbecgaaHh5
import Derived.Test.YtofpcedpmbecgaaHh6
import Derived.Test.YtofpcedpmbecgaaHh7
import Derived.BigQuiet
import Derived.Deep.QuietTactic
import Derived.Deep.RegionHeld3
import Derived.Deep.RegionLaw
import Derived.Laws.AppendOwn
import Derived.Laws.OwnMore
import Derived.Maps.Range
import Derived.Outline
import Derived.Test.YtofpcedpmbecgaaRows
/- Contracts (SubS). -/
namespace Go.Proofs.Ytofpcedpmbecgaa
open Go.RowKit
set_option linter.unusedVariables false

theorem info_ndS : (Try.prog.info? 40).map (fun i => (i.zero, i.size, i.bytes)) = some (some (.agg #[.int .i64 0, .int .i64 0]), 2, 16) := by kernel_rfl

end Go.Proofs.Ytofpcedpmbecgaa

/- Contracts (ShS). -/
namespace Go.Proofs.Ytofpcedpmbecgaa
open Go.RowKit
set_option linter.unusedVariables false

set_option maxHeartbeats 800000 in
set_option maxRecDepth 100000 in
theorem l13Shift_any (A : Option Addr) (n c : Nat) (xs : Tr) (f t : Nat) (dd : Int) (w : World) (h : NdIn w w.heap.size A n xs) (hn : n ≤ 1048576) (hok : Tr.ok xs = true) (hft : f ≤ t) (ht : t ≤ n) (hd : -4000 ≤ dd ∧ dd ≤ 4000) :
    Calls Try.prog 71 #[.slice A n c, .int .i64 (f : Int), .int .i64 (t : Int), .int .i64 dd] w (OwnNodes 40 (Tr.sh xs f t dd) w) := by
  have H := Lib.hid h
  clear h
  have HL := Lib.hid H.out.1
  have hbd := Lib.hid fun k => Tr.ok_at (xs := xs) hok (k := k)
  have HS := Lib.hid (fun (k : Nat) (h : f ≤ k) => Tr.sh_succ xs (f := f) (t := k) dd h)
  clear hok
  obtain ⟨i0, hi, hz0, hz1, hz2⟩ := info_parts info_ndS
  go_enter Try.func71, Try.ntmps71
  go_wp2
  go_loopw [10, 9] (fun kv ov wr => ∃ k : Nat, f ≤ k ∧ k ≤ t ∧ kv = .int .i64 k ∧ wr.ownsRow w.heap.size 40 2 ov (Tr.sh xs f k dd).length (Tr.cells (Tr.sh xs f k dd)) ∧ Below w.heap.size w wr) (fun k _ _ => n - (intOf k).toNat)
  case atStart => exact ⟨f, by omega, by omega, rfl, by rw [Tr.sh_nil]; exact World.ownsRow_lit w #[] 0 (Nat.le_refl _) (Nat.zero_le _) rfl, (Below.refl _ _).alloc (Nat.le_refl _) _⟩
  case round =>
    obtain ⟨k, hjk, hk, rfl, hown, hB⟩ := hrel
    have hz := Lib.hid (H.out.to_below hB)
    have Ho := Lib.hid hown
    have HB := Lib.hid hB
    have hsz2 := HB.out.size
    clear hown hB
    by_cases hlt : k < t
    · obtain ⟨ad, rfl, hb, hl, hd⟩ := hz.out.at_ (k := k) (by omega)
      have Hs := Lib.hid (HS.out k hjk)
      have Hlen := Lib.hid (Tr.sh_len xs f k dd)
      have hk0 : (0 : Int) ≤ (k : Int) := by omega
      have hbk := (hbd.out k (by rw [HL.out]; omega)).2.1
      have hklt : (k : Int) < (n : Int) := by omega
      have a5 : IntKind.i64.wrap (Tr.d xs k + dd) = Tr.d xs k + dd := Kit.w64 (by omega) (by omega)
      go_wp2
      go_region_law ((refine step_append_node wr.drew rfl _ _ 24 rfl w.heap.size 40 i0 Try.underlying24 hi hz0 hz1 hz2 u9 (Tr.sh xs f k dd).length (Tr.sh xs f k dd) rfl Ho.out.drew rfl (Tr.l xs k) (Tr.d xs k + dd) rfl (by rw [Hlen.out]; omega) hsz2 ?_; intro v' w3 hown3 hgrow3))
      all_goals
        clear a5
        have hb3 := Kit.below_own HB.out.drew Ho.out.drew hgrow3
        go_wp2
        go_roundw
        case rel => exact ⟨k + 1, by omega, by omega, by go_num, by rw [Hs.out]; exact hown3, hb3⟩
        case measure => simp [intOf]; omega
    · obtain rfl : k = t := by omega
      obtain ⟨A', c', rfl⟩ := own_slice Ho.out
      go_wp2
      go_ret
      exact ⟨A', c', rfl, Ho.out, HB.out⟩

end Go.Proofs.Ytofpcedpmbecgaa

/- Contracts (NatS). -/
namespace Go.Proofs.Ytofpcedpmbecgaa
open Go.RowKit
set_option linter.unusedVariables false

set_option maxHeartbeats 800000 in
set_option maxRecDepth 100000 in
theorem specNodeAt_any (A A' : Option Addr) (n c n' c' : Nat) (xs : Tr) (p : List Int) (w : World) (h : NdIn w w.heap.size A n xs) (h' : IntIn w w.heap.size A' n' p) (hn : n ≤ 1048576) (hn' : n' ≤ 1048576) :
    Calls Try.prog 24 #[.slice A n c, .slice A' n' c'] w fun e w' => e = .returned (.int .i64 (Tr.nodeAt xs p)) ∧ Below w.heap.size w w' := by
  have H := Lib.hid h
  have I := Lib.hid h'
  clear h h'
  have HL := Lib.hid H.out.1
  have IL := Lib.hid I.out.1
  rcases hok : Tr.ok xs with _ | _
  · have Hf := Lib.hid (show Tr.nodeAt xs p = -1 by unfold Tr.nodeAt; rw [hok]; rfl)
    have Hok := Lib.hid hok
    clear hok
    go_enter Try.func24, Try.ntmps24
    go_wp2_with fail
    refine (specTreeOk_any _ _ _ xs _ H.out hn).mono ?_
    rintro e w1 ⟨rfl, hd1⟩
    have HB := Lib.hid (show Below w.heap.size w w1 from hd1.toBelow)
    clear hd1
    rw [Hok.out]
    go_wp2
    go_ret
    exact ⟨Kit.ret_int Hf.out.symm, HB.out⟩
  · have Hf := Lib.hid (show Tr.nodeAt xs p = Tr.walk xs 0 p by unfold Tr.nodeAt; rw [if_pos hok])
    have HS := Lib.hid (fun (i k : Nat) (hi : i < xs.length) (hk : k < p.length) => Tr.walk_step (p := p) hok hi hk)
    have n1 := Tr.len24 hok
    have HK := Lib.hid (fun i : Int => Tr.kidsI_len xs i)
    have Hok := Lib.hid hok
    clear hok
    go_enter Try.func24, Try.ntmps24
    go_wp2_with fail
    refine (specTreeOk_any _ _ _ xs _ H.out hn).mono ?_
    rintro e w1 ⟨rfl, hd1⟩
    have HB := Lib.hid (show Below w.heap.size w w1 from hd1.toBelow)
    clear hd1
    rw [Hok.out]
    go_wp2
    go_loopw [5, 6] (fun iv kv wr => ∃ i k : Nat, i < xs.length ∧ k ≤ n' ∧ iv = .int .i64 i ∧ kv = .int .i64 k ∧ Tr.walk xs 0 p = Tr.walk xs i (p.drop k) ∧ Below w.heap.size w wr) (fun _ k _ => n' - (intOf k).toNat)
    case atStart => exact ⟨0, 0, by omega, by omega, by go_num, by go_num, rfl, HB.out⟩
    case round =>
      obtain ⟨i, k, hi, hk, rfl, rfl, hwalk, hB⟩ := hrel
      have HW := Lib.hid hwalk
      have HB := Lib.hid hB
      have Hz := Lib.hid (H.out.to_below hB)
      have Iz := Lib.hid (I.out.to_below hB)
      clear hwalk hB
      by_cases hlt : k < n'
      · have hs := HS.out i k hi (by rw [IL.out]; exact hlt)
        obtain ⟨ad, rfl, _, c1⟩ := Iz.out.at_ hlt
        have k0 : (0 : Int) ≤ (k : Int) := by omega
        have k1 : (k : Int) < (n' : Int) := by omega
        have hkl := HK.out (i : Int)
        obtain ⟨x, hx⟩ : ∃ x, x = Zs.at p k := ⟨_, rfl⟩
        rw [← hx] at c1 hs
        have Hs := Lib.hid hs
        clear hs hx
        go_wp2_with fail
        refine (specKidsOf_any _ _ _ xs _ _ Hz.out hn).mono ?_
        rintro e w2 ⟨A2, c2, rfl, ho2, hb2⟩
        have HB2 := Lib.hid (HB.out.trans (hb2.mono HB.out.size))
        have c1 := (hb2.cell (World.block_lt_of_cell? _ _ c1)).trans c1
        obtain ⟨m, hm⟩ : ∃ m, m = (Tr.kidsI xs (i : Int)).length := ⟨_, rfl⟩
        rw [← hm] at ho2 hkl ⊢
        have I2 := Lib.hid (IntIn.of_own ho2)
        have Hm := Lib.hid hm
        clear ho2 hb2 hm
        have a5 : IntKind.i64.wrap ((m : Int) - 1) = (m : Int) - 1 := Kit.w64 (by omega) (by omega)
        by_cases hc : 0 ≤ x ∧ x < m
        · have hs := Hs.out
          rw [← Hm.out, if_pos hc] at hs
          obtain ⟨j, hj, hat, hw2⟩ := hs
          have q : decide (0 ≤ x ∧ x ≤ (m : Int) - 1) = true := decide_eq_true (by omega)
          obtain ⟨y, rfl⟩ := Int.eq_ofNat_of_zero_le hc.1
          have hy : y < m := by omega
          obtain ⟨ad2, rfl, _, c2⟩ := I2.out.at_ hy
          rw [show ((y : Int)).toNat = y by omega] at hat
          rw [hat] at c2
          have y0 : (0 : Int) ≤ (y : Int) := by omega
          have y1 : (y : Int) < (m : Int) := by omega
          have HW2 := Lib.hid (HW.out.trans hw2)
          clear hat hw2 hc
          go_wp2_with (go_at_call 57; refine (l1In_any _ _ _ _).mono ?_; rintro e w' ⟨rfl, rfl⟩; rw [q])
          go_roundw
          case rel => exact ⟨j, k + 1, hj, by omega, by go_num, by go_num, HW2.out, HB2.out⟩
          case measure => simp [intOf]; omega
        · have hs := Hs.out
          rw [← Hm.out, if_neg hc] at hs
          have q : decide (0 ≤ x ∧ x ≤ (m : Int) - 1) = false := decide_eq_false (by omega)
          have HW2 := Lib.hid (HW.out.trans hs)
          clear hs hc
          go_wp2_with (go_at_call 57; refine (l1In_any _ _ _ _).mono ?_; rintro e w' ⟨rfl, rfl⟩; rw [q])
          go_ret
          exact ⟨Kit.ret_int (by rw [Hf.out, HW2.out]), HB2.out⟩
      · obtain rfl : k = n' := by omega
        have HW2 := Lib.hid (show Tr.walk xs 0 p = (i : Int) by rw [HW.out, List.drop_eq_nil_of_le (by rw [IL.out]; exact Nat.le_refl _)]; rfl)
        go_wp2
        go_ret
        exact ⟨Kit.ret_int (by rw [Hf.out, HW2.out]), HB.out⟩

end Go.Proofs.Ytofpcedpmbecgaa

/- The contracts of the model's draws: a cursor over the bytes of a code; each draw is a function of the code and of where the cursor stands. -/
namespace Go.Proofs.Ytofpcedpmbecgaa
open Go.RowKit
set_option linter.unusedVariables false

/-- the cursor in block B: the code v, how many of its bytes are used, the mixed number -/
def Cur (w : World) (B : Nat) (v : Value) (i : Nat) (h : Int) : Prop := w.heap[B]? = some (.cells #[v, .int .i64 i, .int .i64 h] 92 (0, 0))
/-- the code: a slice of bytes that came in, below block B -/
def CodeIn (w : World) (B : Nat) (a : Option Addr) (cs : List Int) : Prop :=
  ∀ j, j < cs.length → ∃ b off, a = some ⟨b, off, none⟩ ∧ b < B ∧ w.cell? ⟨b, off + j, none⟩ = some (.int .u8 (cs.getD j 0)) ∧ 0 ≤ cs.getD j 0 ∧ cs.getD j 0 < 256

theorem Cur.free {w : World} {B : Nat} {v : Value} {i : Nat} {h : Int} (c : Cur w B v i h) (o : Nat) : w.frozen? ⟨B, o, none⟩ = false := by
  unfold Cur at c; simp [World.frozen?, c]
theorem Cur.drewN {w : World} {B : Nat} {v : Value} {i : Nat} {h : Int} (c : Cur w B v i h) (n : Nat) : Cur (w.drewN n) B v i h := c

/-- a code: where it lies, its bytes, the slice's capacity -/
structure Code where
  a : Option Addr
  cs : List Int
  cap : Nat
def CurAt (w : World) (B : Nat) (k : Code) (s : Nat × Int) : Prop := Cur w B (.slice k.a k.cs.length k.cap) s.1 s.2 ∧ CodeIn w B k.a k.cs ∧ k.cs.length ≤ 1048576
theorem CodeIn.grown {w w' : World} {B : Nat} {a : Option Addr} {cs : List Int} {r : Option Nat} (h : CodeIn w B a cs) (hg : w.grownBy w' r) (hr : ∀ k, r = some k → B ≤ k) : CodeIn w' B a cs := by
  intro j hj
  obtain ⟨b, off, h1, h2, h3, h4⟩ := h j hj
  refine ⟨b, off, h1, h2, ?_, h4⟩
  have hlt : b < w.heap.size := by
    rcases Nat.lt_or_ge b w.heap.size with h' | h'
    · exact h'
    · simp [World.cell?, Array.getElem?_eq_none h'] at h3
  rw [World.cell?_of_block (w := w) (hg.block b hlt (by intro e; have := hr b e.symm; omega))]
  exact h3
/-- what others do leaves the cursor alone -/
theorem CurAt.kept {w w' : World} {B : Nat} {k : Code} {s : Nat × Int} {r : Option Nat} (h : CurAt w B k s) (hg : w.grownBy w' r) (hr : ∀ g, r = some g → B < g) : CurAt w' B k s := by
  refine ⟨?_, h.2.1.grown hg (fun g hg => Nat.le_of_lt (hr g hg)), h.2.2⟩
  have hc := h.1
  unfold Cur at hc ⊢
  have hlt : B < w.heap.size := by
    rcases Nat.lt_or_ge B w.heap.size with h' | h'
    · exact h'
    · rw [Array.getElem?_eq_none h'] at hc; cases hc
  rw [hg.block B hlt (by intro e; have := hr B e.symm; omega), hc]
theorem CurAt.lt {w : World} {B : Nat} {k : Code} {s : Nat × Int} (h : CurAt w B k s) : B < w.heap.size := by
  have hc := h.1
  unfold Cur at hc
  rcases Nat.lt_or_ge B w.heap.size with h' | h'
  · exact h'
  · rw [Array.getElem?_eq_none h'] at hc; cases hc
theorem CurAt.alloc {w : World} {B : Nat} {k : Code} {s : Nat × Int} (h : CurAt w B k s) (o : Obj) : CurAt (w.alloc o) B k s :=
  h.kept (r := none) ⟨rfl, rfl, rfl, by simp, fun k hk _ => Below.heap_alloc _ _ _ hk⟩ (fun _ h => by cases h)

/-- the next mixed number, and the byte that it gives by itself -/
def Draw.mix (h : Int) : Int := wrap64 (wrap64 (h * 6364136223846793005) + 1442695040888963407)
def Draw.hi (h : Int) : Int := bits .and .i64 (bits .xor .i64 (Draw.mix h / 8589934592) (Draw.mix h / 35184372088832)) 255
/-- the next byte of a draw, and where the cursor stands then -/
def Draw.byte (cs : List Int) (s : Nat × Int) : Int × (Nat × Int) :=
  if s.1 < cs.length then (bits .and .i64 (Draw.hi s.2 + cs.getD s.1 0) 255, (s.1 + 1, Draw.mix s.2)) else (Draw.hi s.2, (s.1, Draw.mix s.2))
/-- a number from 0 to n-1 -/
def Draw.below (cs : List Int) (n : Int) (s : Nat × Int) : Int × (Nat × Int) :=
  if n ≤ 0 then (0, s) else if n ≤ 256 then ((Draw.byte cs s).1 % n, (Draw.byte cs s).2) else
    let x := Draw.byte cs s
    let y := Draw.byte cs x.2
    let z := Draw.byte cs y.2
    let t := Draw.byte cs z.2
    ((x.1 * 16777216 + y.1 * 65536 + z.1 * 256 + t.1) % n, t.2)
end Go.Proofs.Ytofpcedpmbecgaa

/- More draws of the model: a new cursor, a number, a text. -/
namespace Go.Proofs.Ytofpcedpmbecgaa
open Go.RowKit
set_option linter.unusedVariables false

def Draw.newStep (h x : Int) : Int := (h * 131 + x + 7) % 1073741824
/-- the mixed number with which a cursor begins -/
def Draw.newH (cs : List Int) (m : Nat) : Int := (cs.take m).foldl Draw.newStep (10101 + cs.length)
def Draw.start (cs : List Int) : Nat × Int := (0, Draw.newH cs 4000)

end Go.Proofs.Ytofpcedpmbecgaa

/- Contracts (DrawX). -/
namespace Go.Proofs.Ytofpcedpmbecgaa
open Go.RowKit
set_option linter.unusedVariables false

/-- the cursor stands somewhere -/
def CurX (w : World) (B : Nat) (k : Code) : Prop := ∃ s, CurAt w B k s
theorem CurX.lt {w : World} {B : Nat} {k : Code} (h : CurX w B k) : B < w.heap.size := by obtain ⟨s, h⟩ := h; exact h.lt
theorem CurX.alloc {w : World} {B : Nat} {k : Code} (h : CurX w B k) (o : Obj) : CurX (w.alloc o) B k := by obtain ⟨s, h⟩ := h; exact ⟨s, h.alloc o⟩
theorem CurX.drewN {w : World} {B : Nat} {k : Code} (h : CurX w B k) (n : Nat) : CurX (w.drewN n) B k := h
theorem CurX.kept {w w' : World} {B : Nat} {k : Code} {r : Option Nat} (h : CurX w B k) (hg : w.grownBy w' r) (hr : ∀ g, r = some g → B < g) : CurX w' B k := by obtain ⟨s, h⟩ := h; exact ⟨s, h.kept hg hr⟩
end Go.Proofs.Ytofpcedpmbecgaa

/- Draws: what a call that moves the cursor leaves of rows of the caller's own. -/
namespace Go.Proofs.Ytofpcedpmbecgaa
open Go.RowKit
set_option linter.unusedVariables false

theorem Kit.grown_alloc (w : World) (o : Obj) (r : Option Nat) : w.grownBy (w.alloc o) r := ⟨rfl, rfl, rfl, by simp, fun k hk _ => Below.heap_alloc _ _ _ hk⟩
end Go.Proofs.Ytofpcedpmbecgaa

/- Contracts (TreeD). -/
namespace Go.Proofs.Ytofpcedpmbecgaa
open Go.RowKit
set_option linter.unusedVariables false

theorem info_ndD : (Try.prog.info? 40).map (fun i => (i.zero, i.size, i.bytes)) = some (some (.agg #[.int .i64 0, .int .i64 0]), 2, 16) := by kernel_rfl
end Go.Proofs.Ytofpcedpmbecgaa

/- Contracts (AnyD). -/
namespace Go.Proofs.Ytofpcedpmbecgaa
open Go.RowKit
set_option linter.unusedVariables false

theorem Tr.cells_set_even (xs : Tr) (k : Nat) (a : Int) : (Tr.cells xs).set (k * 2) (.int .i64 a) = Tr.cells (xs.set k (a, Tr.d xs k)) := by
  induction xs generalizing k with
  | nil => simp [Tr.cells]
  | cons x l ih =>
    cases k with
    | zero => simp [Tr.cells, Tr.d]
    | succ k =>
      have := ih k
      simp only [Tr.cells, Tr.d] at this ⊢
      simpa [show (k + 1) * 2 = k * 2 + 1 + 1 by omega] using this
/-- a slice of nodes, readable, in a block of the call's own (from B0 on) -/
def NdAt (w : World) (B0 : Nat) (A : Option Addr) (n : Nat) (xs : Tr) : Prop := NdIn w w.heap.size A n xs ∧ ∀ ad, A = some ad → B0 ≤ ad.block
theorem NdAt.of_own {w : World} {base n : Nat} {e : TypeId} {A : Option Addr} {c : Nat} {xs : Tr} (h : w.ownsRow base e 2 (.slice A n c) n (Tr.cells xs)) : NdAt w base A n xs := by
  refine ⟨NdIn.of_own h, fun ad he => ?_⟩
  rcases h.2 with ⟨h1, h2⟩ | ⟨g, cap, cur, hv, hb, _⟩
  · injection h1 with h1
    rw [h1] at he
    cases he
  · injection hv with hv
    rw [hv] at he
    injection he with he
    rw [← he]
    exact hb
theorem NdAt.cur {w w' : World} {B B0 n : Nat} {A : Option Addr} {xs : Tr} (h : NdAt w B0 A n xs) (hB : B < B0) (hg : w.grownBy w' (some B)) : NdAt w' B0 A n xs := by
  refine ⟨⟨h.1.1, fun hn => ?_, fun ad e k hk => ?_⟩, h.2⟩
  · obtain ⟨ad, e, hb⟩ := h.1.2.1 hn
    exact ⟨ad, e, Nat.lt_of_lt_of_le hb hg.size⟩
  · obtain ⟨ad', e', hb⟩ := h.1.2.1 (by omega)
    obtain rfl : ad' = ad := by rw [e'] at e; injection e
    have hne := h.2 _ e'
    have := h.1.2.2 _ e k hk
    have q : ∀ p : Addr, p.block = ad'.block → w'.cell? p = w.cell? p := fun p hp => World.cell?_of_block (hg.block p.block (by omega) (by intro e; injection e with e; omega))
    rw [q _ (block_of_add _ _), q _ (block_of_add _ _)]
    exact this
end Go.Proofs.Ytofpcedpmbecgaa

/- Contracts (NearD). -/
namespace Go.Proofs.Ytofpcedpmbecgaa
open Go.RowKit
set_option linter.unusedVariables false

theorem CurX.drawn {w1 w2 : World} {B : Nat} {k : Code} (h : CurX w1 B k) (hd : Drawn w1 w2) : CurX w2 B k := by obtain ⟨m, rfl⟩ := hd; exact h.drewN m
set_option maxHeartbeats 800000 in
set_option maxRecDepth 100000 in
theorem l3Copy_ex (ad : Addr) (n c : Nat) (xs : Tr) (w : World) (h : NdIn w w.heap.size (some ad) n xs) (hn : n ≤ 1048576) :
    Calls Try.prog 68 #[.slice (some ad) n c] w fun e w' => ∃ A' c', e = .returned (.slice A' n c') ∧ w'.ownsRow w.heap.size 40 2 (.slice A' n c') n (Tr.cells xs) ∧ w.grownBy w' none := by
  have H := Lib.hid h
  clear h
  have HL := Lib.hid H.out.1
  obtain ⟨i0, hi, hz0, hz1, hz2⟩ := info_parts info_ndD
  go_enter Try.func68, Try.ntmps68
  go_wp2_with (at_builtin; refine wpList_append_own (World.alloc w (.cells #[] 40)) rfl _ _ 24 rfl w.heap.size 40 i0 (.agg #[.int .i64 0, .int .i64 0]) 2 16 Try.underlying24 hi hz0 hz1 hz2 rfl (by omega) (.slice (some ⟨w.heap.size, 0, none⟩) 0 0) 0 [] rfl (World.ownsRow_lit w #[] 0 (Nat.le_refl _) (Nat.zero_le _) rfl) ad n c (Tr.cells xs) rfl (by rw [Tr.cells_length, HL.out]) (NdIn.cells_at (H.out.to_below ((Below.refl _ _).alloc (Nat.le_refl _) _))) (Tr.cells_cell xs) (by unfold maxLen; omega) (by omega) (by simp) ?_; intro v' w1 hown1 hgrow1 hnil1)
  clear hnil1
  have hown2 : w1.ownsRow w.heap.size 40 2 v' n (Tr.cells xs) := by simpa using hown1
  obtain ⟨A', c', rfl⟩ := own_slice hown2
  have hg : w.grownBy w1 none := (Kit.grown_alloc w (.cells #[] 40) none).andThen hgrow1 (fun j hj => .inl (by simp [Value.ownBlock] at hj; omega))
  go_ret
  exact ⟨A', c', rfl, hown2, hg⟩
section
variable {B b0 m cp g2 : Nat} {k : Code} {ys : Tr} {w0 wx wq : World}
end
section
variable {B b0 m cp g2 o : Nat} {k : Code} {ys : Tr} {w0 wx wq : World} {u : Option Value}
end
theorem step_append_nodes {P : Program} {ops : Array Oper} {o : Oper} {a : Act} (w : World) {K : Act → World → Prop} {Q : Exit → Act → World → Prop} {E : Prop} (hgd : o.guard = none) (s x : Operand) (t : TypeId)
    (ho : o.op = .call { callee := .builtin .append, args := #[s, x], argTypes := #[t, t] })
    (base : Nat) (e : TypeId) (i : TypeInfo) (ht : P.underlying t = some (.slice e)) (hi : P.info? e = some i) (hz : i.zero = some (.agg #[.int .i64 0, .int .i64 0]))
    (hsize : i.size = 2) (hby : i.bytes = 16) (v : Value) (n m N : Nat) (l zs : Tr) (hs : a.eval s = v) (hown : w.ownsRow base e 2 v n (Tr.cells l))
    {B : Nat} (ad : Addr) (c : Nat) (hx : a.eval x = .slice (some ad) m c) (hin : NdIn w B (some ad) m zs) (hN : n + m = N)
    (h63 : N ≤ 1073741824) (hbase : base ≤ w.heap.size)
    (h : ∀ v' w', w'.ownsRow base e 2 v' N (Tr.cells (l ++ zs)) → w.grownBy w' v.ownBlock → K (a.put o.dst v') w') :
    if Region.wanted o (yielded ops a.tmps) = true then Oper.wp P o a w K Q else E := by
  have hw : Region.wanted o (yielded ops a.tmps) = true := by simp [Region.wanted, hgd]
  rw [if_pos hw]
  subst hN
  refine wp_append_own _ s x t ho base e i (.agg #[.int .i64 0, .int .i64 0]) 2 16 ht hi hz hsize hby rfl (by decide) v n (Tr.cells l) hs hown ad m c (Tr.cells zs) hx (by rw [Tr.cells_length, hin.1]) hin.cells_at (Tr.cells_cell _) (by unfold maxLen; omega) (by omega) hbase ?_
  intro v' w' h2 h3 _
  refine h v' w' ?_ h3
  rw [Tr.cells_append]
  exact h2
end Go.Proofs.Ytofpcedpmbecgaa
