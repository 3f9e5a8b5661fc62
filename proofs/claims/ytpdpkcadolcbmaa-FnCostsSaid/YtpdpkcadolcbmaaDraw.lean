/- The contracts of the model's draws: a cursor over the bytes of a code; each draw is a function of the code and of where the cursor stands. -/
import Derived.Test.YtpdpkcadolcbmaaKit
import Derived.Test.YtpdpkcadolcbmaaGrow
import Derived.Deep.QuietTactic
import Derived.BigQuiet
import Derived.Test.YtpdpkcadolcbmaaRows
namespace Go.Proofs.Ytpdpkcadolcbmaa
open Go.RowKit
set_option linter.unusedVariables false

/-- the cursor in block B: the code v, how many of its bytes are used, the mixed number -/
def Cur (w : World) (B : Nat) (v : Value) (i : Nat) (h : Int) : Prop := w.heap[B]? = some (.cells #[v, .int .i64 i, .int .i64 h] 65 (0, 0))
/-- the code: a slice of bytes that came in, below block B -/
def CodeIn (w : World) (B : Nat) (a : Option Addr) (cs : List Int) : Prop :=
  ∀ j, j < cs.length → ∃ b off, a = some ⟨b, off, none⟩ ∧ b < B ∧ w.cell? ⟨b, off + j, none⟩ = some (.int .u8 (cs.getD j 0)) ∧ 0 ≤ cs.getD j 0 ∧ cs.getD j 0 < 256

theorem Cur.at0 {w : World} {B : Nat} {v : Value} {i : Nat} {h : Int} (c : Cur w B v i h) : w.cell? ⟨B, 0, none⟩ = some v := by
  unfold Cur at c; simp [World.cell?, c]
theorem Cur.at1 {w : World} {B : Nat} {v : Value} {i : Nat} {h : Int} (c : Cur w B v i h) : w.cell? ⟨B, 1, none⟩ = some (.int .i64 i) := by
  unfold Cur at c; simp [World.cell?, c]
theorem Cur.at2 {w : World} {B : Nat} {v : Value} {i : Nat} {h : Int} (c : Cur w B v i h) : w.cell? ⟨B, 2, none⟩ = some (.int .i64 h) := by
  unfold Cur at c; simp [World.cell?, c]
theorem Cur.free {w : World} {B : Nat} {v : Value} {i : Nat} {h : Int} (c : Cur w B v i h) (o : Nat) : w.frozen? ⟨B, o, none⟩ = false := by
  unfold Cur at c; simp [World.frozen?, c]
theorem Cur.set2 {w : World} {B : Nat} {v : Value} {i : Nat} {h : Int} (c : Cur w B v i h) (h' : Int) : Cur (w.setCell ⟨B, 2, none⟩ (.int .i64 h')) B v i h' := by
  unfold Cur at c ⊢; simp [World.setCell, Array.getElem?_modify, c]
theorem Cur.set1 {w : World} {B : Nat} {v : Value} {i : Nat} {h : Int} (c : Cur w B v i h) (i' : Nat) : Cur (w.setCell ⟨B, 1, none⟩ (.int .i64 i')) B v i' h := by
  unfold Cur at c ⊢; simp [World.setCell, Array.getElem?_modify, c]
theorem Cur.drewN {w : World} {B : Nat} {v : Value} {i : Nat} {h : Int} (c : Cur w B v i h) (n : Nat) : Cur (w.drewN n) B v i h := c

/-- a code: where it lies, its bytes, the slice's capacity -/
structure Code where
  a : Option Addr
  cs : List Int
  cap : Nat
def CurAt (w : World) (B : Nat) (k : Code) (s : Nat × Int) : Prop := Cur w B (.slice k.a k.cs.length k.cap) s.1 s.2 ∧ CodeIn w B k.a k.cs ∧ k.cs.length ≤ 1048576
theorem CodeIn.grown {w w' : World} {B : Nat} {a : Option Addr} {cs : List Int} {r : Option Nat} (h : CodeIn w B a cs) (hg : w.grownBy w' r) (hr : ∀ k, r = some k → B ≤ k) : CodeIn w' B a cs := by
  intro j hj
  obtain ⟨b, off, h1, h2, h3, h4⟩ := h j hj
  refine ⟨b, off, h1, h2, ?_, h4⟩
  have hlt : b < w.heap.size := by
    rcases Nat.lt_or_ge b w.heap.size with h' | h'
    · exact h'
    · simp [World.cell?, Array.getElem?_eq_none h'] at h3
  rw [World.cell?_of_block (w := w) (hg.block b hlt (by intro e; have := hr b e.symm; omega))]
  exact h3
/-- what others do leaves the cursor alone -/
theorem CurAt.kept {w w' : World} {B : Nat} {k : Code} {s : Nat × Int} {r : Option Nat} (h : CurAt w B k s) (hg : w.grownBy w' r) (hr : ∀ g, r = some g → B < g) : CurAt w' B k s := by
  refine ⟨?_, h.2.1.grown hg (fun g hg => Nat.le_of_lt (hr g hg)), h.2.2⟩
  have hc := h.1
  unfold Cur at hc ⊢
  have hlt : B < w.heap.size := by
    rcases Nat.lt_or_ge B w.heap.size with h' | h'
    · exact h'
    · rw [Array.getElem?_eq_none h'] at hc; cases hc
  rw [hg.block B hlt (by intro e; have := hr B e.symm; omega), hc]
theorem CurAt.lt {w : World} {B : Nat} {k : Code} {s : Nat × Int} (h : CurAt w B k s) : B < w.heap.size := by
  have hc := h.1
  unfold Cur at hc
  rcases Nat.lt_or_ge B w.heap.size with h' | h'
  · exact h'
  · rw [Array.getElem?_eq_none h'] at hc; cases hc
theorem CurAt.alloc {w : World} {B : Nat} {k : Code} {s : Nat × Int} (h : CurAt w B k s) (o : Obj) : CurAt (w.alloc o) B k s :=
  h.kept (r := none) ⟨rfl, rfl, rfl, by simp, fun k hk _ => Below.heap_alloc _ _ _ hk⟩ (fun _ h => by cases h)

/-- the next mixed number, and the byte that it gives by itself -/
def Draw.mix (h : Int) : Int := wrap64 (wrap64 (h * 6364136223846793005) + 1442695040888963407)
def Draw.hi (h : Int) : Int := bits .and .i64 (bits .xor .i64 (Draw.mix h / 8589934592) (Draw.mix h / 35184372088832)) 255
theorem Draw.hi_bd (h : Int) : 0 ≤ Draw.hi h ∧ Draw.hi h ≤ 255 := by unfold Draw.hi; rw [Kit.i64_and255]; omega
/-- the next byte of a draw, and where the cursor stands then -/
def Draw.byte (cs : List Int) (s : Nat × Int) : Int × (Nat × Int) :=
  if s.1 < cs.length then (bits .and .i64 (Draw.hi s.2 + cs.getD s.1 0) 255, (s.1 + 1, Draw.mix s.2)) else (Draw.hi s.2, (s.1, Draw.mix s.2))
theorem Draw.byte_bd (cs : List Int) (s : Nat × Int) : 0 ≤ (Draw.byte cs s).1 ∧ (Draw.byte cs s).1 ≤ 255 := by
  unfold Draw.byte; split
  · simp only [Kit.i64_and255]; omega
  · exact Draw.hi_bd _

set_option maxHeartbeats 400000 in
theorem l1Byte_any (w : World) (B : Nat) (k : Code) (s : Nat × Int) (c : CurAt w B k s) :
    Calls Try.prog 63 #[.pointer (some ⟨B, 0, none⟩)] w fun e w' => e = .returned (.int .i64 (Draw.byte k.cs s).1) ∧ CurAt w' B k (Draw.byte k.cs s).2 ∧ w.grownBy w' (some B) := by
  obtain ⟨c, hcode, hlen⟩ := c
  obtain ⟨a, cs, cap⟩ := k
  obtain ⟨i, h⟩ := s
  simp only at c hcode hlen ⊢
  have c0 := c.at0
  have c1 := c.at1
  have c2 := c.at2
  have f1 := c.free 1
  have f2 := c.free 2
  by_cases hi : i < cs.length
  · obtain ⟨b, off, rfl, hbB, hcell, hx0, hx1⟩ := hcode i hi
    have hb : Draw.byte cs (i, h) = (bits .and .i64 (Draw.hi h + cs.getD i 0) 255, (i + 1, Draw.mix h)) := by unfold Draw.byte; rw [if_pos (by exact hi)]
    have Hb := Lib.hid hb
    have hbd := Draw.hi_bd h
    unfold Draw.hi Draw.mix at hbd
    obtain ⟨x, hx⟩ : ∃ x, x = cs.getD i 0 := ⟨_, rfl⟩
    rw [← hx] at hcell hx0 hx1 Hb
    have Hc := Lib.hid c
    have Hcode := Lib.hid hcode
    clear hb hx c hcode
    go_enter Try.func63, Try.ntmps63
    go_wp2
    go_quiet (fail)
    go_wp2
    go_quiet (fail)
    go_wp2
    go_quiet (fail)
    go_wp2
    go_ret
    rw [Hb.out]
    have hg : ∀ r, r = some B → ∀ k, r = some k → B ≤ k := fun r h k hk => by rw [h] at hk; injection hk with hk; omega
    refine ⟨rfl, ⟨((Hc.out.set2 (Draw.mix h)).drewN _).set1 (i + 1), ?_, hlen⟩, ?_⟩
    · refine CodeIn.grown (r := some B) Hcode.out ?_ (hg _ rfl)
      repeat (first | exact Kit.grown_refl _ _ | apply Kit.grown_then_drewN | apply Kit.grown_then_set)
    · repeat (first | exact Kit.grown_refl _ _ | apply Kit.grown_then_drewN | apply Kit.grown_then_set)
  · have hb : Draw.byte cs (i, h) = (Draw.hi h, (i, Draw.mix h)) := by unfold Draw.byte; rw [if_neg (by exact hi)]
    have Hb := Lib.hid hb
    have Hc := Lib.hid c
    have Hcode := Lib.hid hcode
    clear hb c hcode
    go_enter Try.func63, Try.ntmps63
    go_wp2
    go_quiet (fail)
    go_wp2
    go_quiet (fail)
    go_wp2
    go_ret
    rw [Hb.out]
    have hg : ∀ r, r = some B → ∀ k, r = some k → B ≤ k := fun r h k hk => by rw [h] at hk; injection hk with hk; omega
    refine ⟨rfl, ⟨((Hc.out.set2 (Draw.mix h)).drewN _).drewN _, ?_, hlen⟩, ?_⟩
    · refine CodeIn.grown (r := some B) Hcode.out ?_ (hg _ rfl)
      repeat (first | exact Kit.grown_refl _ _ | apply Kit.grown_then_drewN | apply Kit.grown_then_set)
    · repeat (first | exact Kit.grown_refl _ _ | apply Kit.grown_then_drewN | apply Kit.grown_then_set)

/-- a number from 0 to n-1 -/
def Draw.below (cs : List Int) (n : Int) (s : Nat × Int) : Int × (Nat × Int) :=
  if n ≤ 0 then (0, s) else if n ≤ 256 then ((Draw.byte cs s).1 % n, (Draw.byte cs s).2) else
    let x := Draw.byte cs s
    let y := Draw.byte cs x.2
    let z := Draw.byte cs y.2
    let t := Draw.byte cs z.2
    ((x.1 * 16777216 + y.1 * 65536 + z.1 * 256 + t.1) % n, t.2)
theorem Draw.below_bd (cs : List Int) (n : Int) (s : Nat × Int) (hn : 0 < n) : 0 ≤ (Draw.below cs n s).1 ∧ (Draw.below cs n s).1 < n := by
  unfold Draw.below
  rw [if_neg (by omega)]
  split
  · exact ⟨Int.emod_nonneg _ (by omega), Int.emod_lt_of_pos _ hn⟩
  · exact ⟨Int.emod_nonneg _ (by omega), Int.emod_lt_of_pos _ hn⟩
theorem Draw.below_zero (cs : List Int) (n : Int) (s : Nat × Int) (hn : n ≤ 0) : Draw.below cs n s = (0, s) := by unfold Draw.below; rw [if_pos hn]

set_option maxHeartbeats 400000 in
theorem l1Below_any (w : World) (B : Nat) (k : Code) (n : Int) (s : Nat × Int) (c : CurAt w B k s) :
    Calls Try.prog 57 #[.pointer (some ⟨B, 0, none⟩), .int .i64 n] w fun e w' => e = .returned (.int .i64 (Draw.below k.cs n s).1) ∧ CurAt w' B k (Draw.below k.cs n s).2 ∧ w.grownBy w' (some B) := by
  have Hc := Lib.hid c
  clear c
  by_cases h0 : n ≤ 0
  · have Hb := Lib.hid (Draw.below_zero k.cs n s h0)
    go_enter Try.func57, Try.ntmps57
    go_wp2
    go_ret
    rw [Hb.out]
    exact ⟨rfl, Hc.out, Kit.grown_refl _ _⟩
  · by_cases h256 : n ≤ 256
    · have hb : Draw.below k.cs n s = ((Draw.byte k.cs s).1 % n, (Draw.byte k.cs s).2) := by unfold Draw.below; rw [if_neg h0, if_pos h256]
      have Hb := Lib.hid hb
      clear hb
      have hbd := Draw.byte_bd k.cs s
      go_enter Try.func57, Try.ntmps57
      go_wp2_with fail
      refine (l1Byte_any _ B k s Hc.out).mono ?_
      rintro e w1 ⟨rfl, c1, g1⟩
      have C1 := Lib.hid c1
      clear c1
      go_wp2
      go_ret
      rw [Hb.out]
      exact ⟨rfl, C1.out, g1⟩
    · obtain ⟨X, hX⟩ : ∃ X, X = Draw.byte k.cs s := ⟨_, rfl⟩
      obtain ⟨Y, hY⟩ : ∃ Y, Y = Draw.byte k.cs X.2 := ⟨_, rfl⟩
      obtain ⟨Z, hZ⟩ : ∃ Z, Z = Draw.byte k.cs Y.2 := ⟨_, rfl⟩
      obtain ⟨T, hT⟩ : ∃ T, T = Draw.byte k.cs Z.2 := ⟨_, rfl⟩
      have hb : Draw.below k.cs n s = ((X.1 * 16777216 + Y.1 * 65536 + Z.1 * 256 + T.1) % n, T.2) := by
        subst hT hZ hY hX
        unfold Draw.below; rw [if_neg h0, if_neg h256]
      have Hb := Lib.hid hb
      have bX := Draw.byte_bd k.cs s
      have bY := Draw.byte_bd k.cs X.2
      have bZ := Draw.byte_bd k.cs Y.2
      have bT := Draw.byte_bd k.cs Z.2
      rw [← hX] at bX
      rw [← hY] at bY
      rw [← hZ] at bZ
      rw [← hT] at bT
      have HX := Lib.hid hX
      have HY := Lib.hid hY
      have HZ := Lib.hid hZ
      have HT := Lib.hid hT
      clear hX hY hZ hT hb
      go_enter Try.func57, Try.ntmps57
      go_wp2_with fail
      refine (l1Byte_any _ B k s Hc.out).mono ?_
      rintro e w1 ⟨rfl, c1, g1⟩
      rw [← HX.out] at c1 ⊢
      have C1 := Lib.hid c1
      clear c1
      go_wp2_with fail
      refine (l1Byte_any _ B k X.2 C1.out).mono ?_
      rintro e w2 ⟨rfl, c2, g2⟩
      rw [← HY.out] at c2 ⊢
      have C2 := Lib.hid c2
      clear c2
      go_wp2_with fail
      refine (l1Byte_any _ B k Y.2 C2.out).mono ?_
      rintro e w3 ⟨rfl, c3, g3⟩
      rw [← HZ.out] at c3 ⊢
      have C3 := Lib.hid c3
      clear c3
      go_wp2_with fail
      refine (l1Byte_any _ B k Z.2 C3.out).mono ?_
      rintro e w4 ⟨rfl, c4, g4⟩
      rw [← HT.out] at c4 ⊢
      have C4 := Lib.hid c4
      clear c4
      go_wp2
      go_ret
      rw [Hb.out]
      exact ⟨rfl, C4.out, Kit.grown_trans g1 (Kit.grown_trans g2 (Kit.grown_trans g3 g4))⟩

end Go.Proofs.Ytpdpkcadolcbmaa
