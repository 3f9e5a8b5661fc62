/- Texts of one claim laid into one file, in build order: Draw, Draw2, DrawX, DrawOnce, DrawOnceX, DrawLab, DrawK, Mem2, TreeD, DrawL2, AnyD. -/
import Derived.Test.YtlndaflhlkbedaaMg12
import Derived.BigQuiet
import Derived.Deep.QuietTactic
import Derived.Deep.RegionLaw
import Derived.Laws.AppendOwn
import Derived.Laws.OwnMore
import Derived.Maps.Range
import Derived.Outline
import Derived.Test.YtlndaflhlkbedaaRows
/- The contracts of the model's draws: a cursor over the bytes of a code; each draw is a function of the code and of where the cursor stands. -/
namespace Go.Proofs.Ytlndaflhlkbedaa
open Go.RowKit
set_option linter.unusedVariables false

/-- the cursor in block B: the code v, how many of its bytes are used, the mixed number -/
def Cur (w : World) (B : Nat) (v : Value) (i : Nat) (h : Int) : Prop := w.heap[B]? = some (.cells #[v, .int .i64 i, .int .i64 h] 132 (0, 0))
/-- the code: a slice of bytes that came in, below block B -/
def CodeIn (w : World) (B : Nat) (a : Option Addr) (cs : List Int) : Prop :=
  ∀ j, j < cs.length → ∃ b off, a = some ⟨b, off, none⟩ ∧ b < B ∧ w.cell? ⟨b, off + j, none⟩ = some (.int .u8 (cs.getD j 0)) ∧ 0 ≤ cs.getD j 0 ∧ cs.getD j 0 < 256

theorem Cur.at0 {w : World} {B : Nat} {v : Value} {i : Nat} {h : Int} (c : Cur w B v i h) : w.cell? ⟨B, 0, none⟩ = some v := by
  unfold Cur at c; simp [World.cell?, c]
theorem Cur.at1 {w : World} {B : Nat} {v : Value} {i : Nat} {h : Int} (c : Cur w B v i h) : w.cell? ⟨B, 1, none⟩ = some (.int .i64 i) := by
  unfold Cur at c; simp [World.cell?, c]
theorem Cur.at2 {w : World} {B : Nat} {v : Value} {i : Nat} {h : Int} (c : Cur w B v i h) : w.cell? ⟨B, 2, none⟩ = some (.int .i64 h) := by
  unfold Cur at c; simp [World.cell?, c]
theorem Cur.free {w : World} {B : Nat} {v : Value} {i : Nat} {h : Int} (c : Cur w B v i h) (o : Nat) : w.frozen? ⟨B, o, none⟩ = false := by
  unfold Cur at c; simp [World.frozen?, c]
theorem Cur.set2 {w : World} {B : Nat} {v : Value} {i : Nat} {h : Int} (c : Cur w B v i h) (h' : Int) : Cur (w.setCell ⟨B, 2, none⟩ (.int .i64 h')) B v i h' := by
  unfold Cur at c ⊢; simp [World.setCell, Array.getElem?_modify, c]
theorem Cur.set1 {w : World} {B : Nat} {v : Value} {i : Nat} {h : Int} (c : Cur w B v i h) (i' : Nat) : Cur (w.setCell ⟨B, 1, none⟩ (.int .i64 i')) B v i' h := by
  unfold Cur at c ⊢; simp [World.setCell, Array.getElem?_modify, c]
theorem Cur.drewN {w : World} {B : Nat} {v : Value} {i : Nat} {h : Int} (c : Cur w B v i h) (n : Nat) : Cur (w.drewN n) B v i h := c

/-- a code: where it lies, its bytes, the slice's capacity -/
structure Code where
  a : Option Addr
  cs : List Int
  cap : Nat
def CurAt (w : World) (B : Nat) (k : Code) (s : Nat × Int) : Prop := Cur w B (.slice k.a k.cs.length k.cap) s.1 s.2 ∧ CodeIn w B k.a k.cs ∧ k.cs.length ≤ 1048576
theorem CodeIn.grown {w w' : World} {B : Nat} {a : Option Addr} {cs : List Int} {r : Option Nat} (h : CodeIn w B a cs) (hg : w.grownBy w' r) (hr : ∀ k, r = some k → B ≤ k) : CodeIn w' B a cs := by
  intro j hj
  obtain ⟨b, off, h1, h2, h3, h4⟩ := h j hj
  refine ⟨b, off, h1, h2, ?_, h4⟩
  have hlt : b < w.heap.size := by
    rcases Nat.lt_or_ge b w.heap.size with h' | h'
    · exact h'
    · simp [World.cell?, Array.getElem?_eq_none h'] at h3
  rw [World.cell?_of_block (w := w) (hg.block b hlt (by intro e; have := hr b e.symm; omega))]
  exact h3
/-- what others do leaves the cursor alone -/
theorem CurAt.kept {w w' : World} {B : Nat} {k : Code} {s : Nat × Int} {r : Option Nat} (h : CurAt w B k s) (hg : w.grownBy w' r) (hr : ∀ g, r = some g → B < g) : CurAt w' B k s := by
  refine ⟨?_, h.2.1.grown hg (fun g hg => Nat.le_of_lt (hr g hg)), h.2.2⟩
  have hc := h.1
  unfold Cur at hc ⊢
  have hlt : B < w.heap.size := by
    rcases Nat.lt_or_ge B w.heap.size with h' | h'
    · exact h'
    · rw [Array.getElem?_eq_none h'] at hc; cases hc
  rw [hg.block B hlt (by intro e; have := hr B e.symm; omega), hc]
theorem CurAt.lt {w : World} {B : Nat} {k : Code} {s : Nat × Int} (h : CurAt w B k s) : B < w.heap.size := by
  have hc := h.1
  unfold Cur at hc
  rcases Nat.lt_or_ge B w.heap.size with h' | h'
  · exact h'
  · rw [Array.getElem?_eq_none h'] at hc; cases hc
theorem CurAt.alloc {w : World} {B : Nat} {k : Code} {s : Nat × Int} (h : CurAt w B k s) (o : Obj) : CurAt (w.alloc o) B k s :=
  h.kept (r := none) ⟨rfl, rfl, rfl, by simp, fun k hk _ => Below.heap_alloc _ _ _ hk⟩ (fun _ h => by cases h)

/-- the next mixed number, and the byte that it gives by itself -/
def Draw.mix (h : Int) : Int := wrap64 (wrap64 (h * 6364136223846793005) + 1442695040888963407)
def Draw.hi (h : Int) : Int := bits .and .i64 (bits .xor .i64 (Draw.mix h / 8589934592) (Draw.mix h / 35184372088832)) 255
theorem Draw.hi_bd (h : Int) : 0 ≤ Draw.hi h ∧ Draw.hi h ≤ 255 := by unfold Draw.hi; rw [Kit.i64_and255]; omega
/-- the next byte of a draw, and where the cursor stands then -/
def Draw.byte (cs : List Int) (s : Nat × Int) : Int × (Nat × Int) :=
  if s.1 < cs.length then (bits .and .i64 (Draw.hi s.2 + cs.getD s.1 0) 255, (s.1 + 1, Draw.mix s.2)) else (Draw.hi s.2, (s.1, Draw.mix s.2))
theorem Draw.byte_bd (cs : List Int) (s : Nat × Int) : 0 ≤ (Draw.byte cs s).1 ∧ (Draw.byte cs s).1 ≤ 255 := by
  unfold Draw.byte; split
  · simp only [Kit.i64_and255]; omega
  · exact Draw.hi_bd _

set_option maxHeartbeats 400000 in
theorem l1Byte_any (w : World) (B : Nat) (k : Code) (s : Nat × Int) (c : CurAt w B k s) :
    Calls Try.prog 129 #[.pointer (some ⟨B, 0, none⟩)] w fun e w' => e = .returned (.int .i64 (Draw.byte k.cs s).1) ∧ CurAt w' B k (Draw.byte k.cs s).2 ∧ w.grownBy w' (some B) := by
  obtain ⟨c, hcode, hlen⟩ := c
  obtain ⟨a, cs, cap⟩ := k
  obtain ⟨i, h⟩ := s
  simp only at c hcode hlen ⊢
  have c0 := c.at0
  have c1 := c.at1
  have c2 := c.at2
  have f1 := c.free 1
  have f2 := c.free 2
  by_cases hi : i < cs.length
  · obtain ⟨b, off, rfl, hbB, hcell, hx0, hx1⟩ := hcode i hi
    have hb : Draw.byte cs (i, h) = (bits .and .i64 (Draw.hi h + cs.getD i 0) 255, (i + 1, Draw.mix h)) := by unfold Draw.byte; rw [if_pos (by exact hi)]
    have Hb := Lib.hid hb
    have hbd := Draw.hi_bd h
    unfold Draw.hi Draw.mix at hbd
    obtain ⟨x, hx⟩ : ∃ x, x = cs.getD i 0 := ⟨_, rfl⟩
    rw [← hx] at hcell hx0 hx1 Hb
    have Hc := Lib.hid c
    have Hcode := Lib.hid hcode
    clear hb hx c hcode
    go_enter Try.func129, Try.ntmps129
    go_wp2
    go_quiet (fail)
    go_wp2
    go_quiet (fail)
    go_wp2
    go_quiet (fail)
    go_wp2
    go_ret
    rw [Hb.out]
    have hg : ∀ r, r = some B → ∀ k, r = some k → B ≤ k := fun r h k hk => by rw [h] at hk; injection hk with hk; omega
    refine ⟨rfl, ⟨((Hc.out.set2 (Draw.mix h)).drewN _).set1 (i + 1), ?_, hlen⟩, ?_⟩
    · refine CodeIn.grown (r := some B) Hcode.out ?_ (hg _ rfl)
      repeat (first | exact Kit.grown_refl _ _ | apply Kit.grown_then_drewN | apply Kit.grown_then_set)
    · repeat (first | exact Kit.grown_refl _ _ | apply Kit.grown_then_drewN | apply Kit.grown_then_set)
  · have hb : Draw.byte cs (i, h) = (Draw.hi h, (i, Draw.mix h)) := by unfold Draw.byte; rw [if_neg (by exact hi)]
    have Hb := Lib.hid hb
    have Hc := Lib.hid c
    have Hcode := Lib.hid hcode
    clear hb c hcode
    go_enter Try.func129, Try.ntmps129
    go_wp2
    go_quiet (fail)
    go_wp2
    go_quiet (fail)
    go_wp2
    go_ret
    rw [Hb.out]
    have hg : ∀ r, r = some B → ∀ k, r = some k → B ≤ k := fun r h k hk => by rw [h] at hk; injection hk with hk; omega
    refine ⟨rfl, ⟨((Hc.out.set2 (Draw.mix h)).drewN _).drewN _, ?_, hlen⟩, ?_⟩
    · refine CodeIn.grown (r := some B) Hcode.out ?_ (hg _ rfl)
      repeat (first | exact Kit.grown_refl _ _ | apply Kit.grown_then_drewN | apply Kit.grown_then_set)
    · repeat (first | exact Kit.grown_refl _ _ | apply Kit.grown_then_drewN | apply Kit.grown_then_set)

/-- a number from 0 to n-1 -/
def Draw.below (cs : List Int) (n : Int) (s : Nat × Int) : Int × (Nat × Int) :=
  if n ≤ 0 then (0, s) else if n ≤ 256 then ((Draw.byte cs s).1 % n, (Draw.byte cs s).2) else
    let x := Draw.byte cs s
    let y := Draw.byte cs x.2
    let z := Draw.byte cs y.2
    let t := Draw.byte cs z.2
    ((x.1 * 16777216 + y.1 * 65536 + z.1 * 256 + t.1) % n, t.2)
theorem Draw.below_bd (cs : List Int) (n : Int) (s : Nat × Int) (hn : 0 < n) : 0 ≤ (Draw.below cs n s).1 ∧ (Draw.below cs n s).1 < n := by
  unfold Draw.below
  rw [if_neg (by omega)]
  split
  · exact ⟨Int.emod_nonneg _ (by omega), Int.emod_lt_of_pos _ hn⟩
  · exact ⟨Int.emod_nonneg _ (by omega), Int.emod_lt_of_pos _ hn⟩
theorem Draw.below_zero (cs : List Int) (n : Int) (s : Nat × Int) (hn : n ≤ 0) : Draw.below cs n s = (0, s) := by unfold Draw.below; rw [if_pos hn]

set_option maxHeartbeats 400000 in
theorem l1Below_any (w : World) (B : Nat) (k : Code) (n : Int) (s : Nat × Int) (c : CurAt w B k s) :
    Calls Try.prog 87 #[.pointer (some ⟨B, 0, none⟩), .int .i64 n] w fun e w' => e = .returned (.int .i64 (Draw.below k.cs n s).1) ∧ CurAt w' B k (Draw.below k.cs n s).2 ∧ w.grownBy w' (some B) := by
  have Hc := Lib.hid c
  clear c
  by_cases h0 : n ≤ 0
  · have Hb := Lib.hid (Draw.below_zero k.cs n s h0)
    go_enter Try.func87, Try.ntmps87
    go_wp2
    go_ret
    rw [Hb.out]
    exact ⟨rfl, Hc.out, Kit.grown_refl _ _⟩
  · by_cases h256 : n ≤ 256
    · have hb : Draw.below k.cs n s = ((Draw.byte k.cs s).1 % n, (Draw.byte k.cs s).2) := by unfold Draw.below; rw [if_neg h0, if_pos h256]
      have Hb := Lib.hid hb
      clear hb
      have hbd := Draw.byte_bd k.cs s
      go_enter Try.func87, Try.ntmps87
      go_wp2_with fail
      refine (l1Byte_any _ B k s Hc.out).mono ?_
      rintro e w1 ⟨rfl, c1, g1⟩
      have C1 := Lib.hid c1
      clear c1
      go_wp2
      go_ret
      rw [Hb.out]
      exact ⟨rfl, C1.out, g1⟩
    · obtain ⟨X, hX⟩ : ∃ X, X = Draw.byte k.cs s := ⟨_, rfl⟩
      obtain ⟨Y, hY⟩ : ∃ Y, Y = Draw.byte k.cs X.2 := ⟨_, rfl⟩
      obtain ⟨Z, hZ⟩ : ∃ Z, Z = Draw.byte k.cs Y.2 := ⟨_, rfl⟩
      obtain ⟨T, hT⟩ : ∃ T, T = Draw.byte k.cs Z.2 := ⟨_, rfl⟩
      have hb : Draw.below k.cs n s = ((X.1 * 16777216 + Y.1 * 65536 + Z.1 * 256 + T.1) % n, T.2) := by
        subst hT hZ hY hX
        unfold Draw.below; rw [if_neg h0, if_neg h256]
      have Hb := Lib.hid hb
      have bX := Draw.byte_bd k.cs s
      have bY := Draw.byte_bd k.cs X.2
      have bZ := Draw.byte_bd k.cs Y.2
      have bT := Draw.byte_bd k.cs Z.2
      rw [← hX] at bX
      rw [← hY] at bY
      rw [← hZ] at bZ
      rw [← hT] at bT
      have HX := Lib.hid hX
      have HY := Lib.hid hY
      have HZ := Lib.hid hZ
      have HT := Lib.hid hT
      clear hX hY hZ hT hb
      go_enter Try.func87, Try.ntmps87
      go_wp2_with fail
      refine (l1Byte_any _ B k s Hc.out).mono ?_
      rintro e w1 ⟨rfl, c1, g1⟩
      rw [← HX.out] at c1 ⊢
      have C1 := Lib.hid c1
      clear c1
      go_wp2_with fail
      refine (l1Byte_any _ B k X.2 C1.out).mono ?_
      rintro e w2 ⟨rfl, c2, g2⟩
      rw [← HY.out] at c2 ⊢
      have C2 := Lib.hid c2
      clear c2
      go_wp2_with fail
      refine (l1Byte_any _ B k Y.2 C2.out).mono ?_
      rintro e w3 ⟨rfl, c3, g3⟩
      rw [← HZ.out] at c3 ⊢
      have C3 := Lib.hid c3
      clear c3
      go_wp2_with fail
      refine (l1Byte_any _ B k Z.2 C3.out).mono ?_
      rintro e w4 ⟨rfl, c4, g4⟩
      rw [← HT.out] at c4 ⊢
      have C4 := Lib.hid c4
      clear c4
      go_wp2
      go_ret
      rw [Hb.out]
      exact ⟨rfl, C4.out, Kit.grown_trans g1 (Kit.grown_trans g2 (Kit.grown_trans g3 g4))⟩

end Go.Proofs.Ytlndaflhlkbedaa

/- More draws of the model: a new cursor, a number, a text. -/
namespace Go.Proofs.Ytlndaflhlkbedaa
open Go.RowKit
set_option linter.unusedVariables false

theorem Kit.i64_and30 (n : Int) : bits .and .i64 n 1073741823 = n % 1073741824 := by
  have h255 : (BitVec.ofInt 64 1073741823).toNat = 2 ^ 30 - 1 := by decide
  have key : (BitVec.ofInt 64 n &&& BitVec.ofInt 64 1073741823).toNat = (n % ((2 ^ 64 : Nat) : Int)).toNat % 2 ^ 30 := by
    rw [BitVec.toNat_and, BitVec.toNat_ofInt, h255, Nat.and_two_pow_sub_one_eq_mod]
  show IntKind.i64.wrap ((BitVec.ofInt 64 n &&& BitVec.ofInt 64 1073741823).toNat : Nat) = n % 1073741824
  rw [key, IntKind.wrap_i64]
  omega

def Draw.newStep (h x : Int) : Int := (h * 131 + x + 7) % 1073741824
/-- the mixed number with which a cursor begins -/
def Draw.newH (cs : List Int) (m : Nat) : Int := (cs.take m).foldl Draw.newStep (10101 + cs.length)
theorem Draw.newH_succ (cs : List Int) (m : Nat) (h : m < cs.length) : Draw.newH cs (m + 1) = Draw.newStep (Draw.newH cs m) (cs.getD m 0) := by
  unfold Draw.newH
  rw [List.take_succ_eq_append_getElem h, List.foldl_append]
  simp [List.getD, h]
theorem Draw.newH_bd (cs : List Int) (m : Nat) (h : cs.length ≤ 1048576) : 0 ≤ Draw.newH cs m ∧ Draw.newH cs m < 1073741824 := by
  unfold Draw.newH
  have key : ∀ (l : List Int) (a : Int), 0 ≤ a ∧ a < 1073741824 → 0 ≤ l.foldl Draw.newStep a ∧ l.foldl Draw.newStep a < 1073741824 := by
    intro l
    induction l with
    | nil => intro a h; exact h
    | cons x l ih => intro a h; exact ih _ (by unfold Draw.newStep; omega)
  exact key _ _ (by omega)
theorem Draw.newH_min (cs : List Int) (m : Nat) (hm : m ≤ 4000) (h : m = 4000 ∨ cs.length ≤ m) : Draw.newH cs m = Draw.newH cs 4000 := by
  rcases h with rfl | h
  · rfl
  · unfold Draw.newH; rw [List.take_of_length_le h, List.take_of_length_le (by omega)]
def Draw.start (cs : List Int) : Nat × Int := (0, Draw.newH cs 4000)

set_option maxHeartbeats 400000 in
set_option maxRecDepth 100000 in
theorem l1New_any (w : World) (k : Code) (hcode : CodeIn w w.heap.size k.a k.cs) (hlen : k.cs.length ≤ 1048576) :
    Calls Try.prog 69 #[.slice k.a k.cs.length k.cap] w fun e w' => e = .returned (.pointer (some ⟨w.heap.size, 0, none⟩)) ∧ CurAt w' w.heap.size k (Draw.start k.cs) ∧ w.grownBy w' none := by
  obtain ⟨a, cs, cap⟩ := k
  simp only at hcode hlen ⊢
  have Hcode := Lib.hid hcode
  clear hcode
  go_enter Try.func69, Try.ntmps69
  go_wp2
  go_loop [3, 4] (fun hv iv => ∃ m : Nat, (m : Int) ≤ 4000 ∧ m ≤ cs.length ∧ iv = .int .i64 m ∧ hv = .int .i64 (Draw.newH cs m)) (fun _ i => 4000 - (intOf i).toNat)
  case atStart => exact ⟨0, by omega, by omega, rfl, rfl⟩
  case round =>
    obtain ⟨m, hm1, hm2, rfl, rfl⟩ := hrel
    obtain ⟨b0, b1⟩ := Draw.newH_bd cs m hlen
    by_cases hlt : m < cs.length
    · by_cases hlt4 : (m : Int) < 4000
      · obtain ⟨b, off, rfl, hbB, hcell, hx0, hx1⟩ := Hcode.out m hlt
        have Hs := Lib.hid (Draw.newH_succ cs m hlt)
        obtain ⟨x, hx⟩ : ∃ x, x = cs.getD m 0 := ⟨_, rfl⟩
        rw [← hx] at hcell hx0 hx1 Hs
        clear hx
        have hand := Kit.i64_and30 (Draw.newH cs m * 131 + x + 7)
        go_wp2
        go_round
        case rel => exact ⟨m + 1, by omega, by omega, by go_num, by rw [Hs.out]; rfl⟩
        case measure => simp [intOf]; omega
      · have Hm := Lib.hid (Draw.newH_min cs m (by omega) (Or.inl (by omega)))
        go_wp2
        go_ret
        refine ⟨rfl, ⟨?_, ?_, hlen⟩, ?_⟩
        · unfold Cur Draw.start
          rw [← Hm.out]
          exact heap_alloc_new w _
        · intro j hj
          obtain ⟨b, off, h1, h2, h3, h4⟩ := Hcode.out j hj
          exact ⟨b, off, h1, h2, by rw [World.cell?_of_block (w := w) (Below.heap_alloc _ _ _ h2)]; exact h3, h4⟩
        · exact ⟨rfl, rfl, rfl, by simp, fun k hk _ => Below.heap_alloc _ _ _ hk⟩
    · have Hm := Lib.hid (Draw.newH_min cs m (by omega) (Or.inr (by omega)))
      go_wp2
      go_ret
      refine ⟨rfl, ⟨?_, ?_, hlen⟩, ?_⟩
      · unfold Cur Draw.start
        rw [← Hm.out]
        exact heap_alloc_new w _
      · intro j hj
        obtain ⟨b, off, h1, h2, h3, h4⟩ := Hcode.out j hj
        exact ⟨b, off, h1, h2, by rw [World.cell?_of_block (w := w) (Below.heap_alloc _ _ _ h2)]; exact h3, h4⟩
      · exact ⟨rfl, rfl, rfl, by simp, fun k hk _ => Below.heap_alloc _ _ _ hk⟩

set_option maxHeartbeats 400000 in
theorem l1PickInt_any (w : World) (B g : Nat) (k : Code) (s : Nat × Int) (c : CurAt w B k s) (xs : List Int) (n : Nat) (hn : n = xs.length) (hpos : 0 < (n : Int)) (hn2 : (n : Int) ≤ 1000) (hg : B < g) (hg2 : g < w.heap.size)
    (hcells : ∀ j, j < xs.length → w.cell? ⟨g, j, none⟩ = some (.int .i64 (xs.getD j 0))) :
    Calls Try.prog 89 #[.pointer (some ⟨B, 0, none⟩), .slice (some ⟨g, 0, none⟩) n n] w fun e w' => e = .returned (.int .i64 (xs.getD (Draw.below k.cs n s).1.toNat 0)) ∧ CurAt w' B k (Draw.below k.cs n s).2 ∧ w.grownBy w' (some B) := by
  have Hcells := Lib.hid hcells
  have Hn := Lib.hid hn
  clear hcells hn
  obtain ⟨d0, d1⟩ := Draw.below_bd k.cs n s hpos
  go_enter Try.func89, Try.ntmps89
  go_wp2_with fail
  refine (l1Below_any _ B k n s c).mono ?_
  rintro e w1 ⟨rfl, c1, g1⟩
  have C1 := Lib.hid c1
  obtain ⟨D, hD⟩ : ∃ D : Nat, (D : Int) = (Draw.below k.cs n s).1 := ⟨_, Int.toNat_of_nonneg d0⟩
  rw [← hD] at d1 ⊢
  have hcell : w1.cell? ⟨g, D, none⟩ = some (.int .i64 (xs.getD D 0)) := by
    rw [World.cell?_of_block (w := w) (g1.block g hg2 (by intro e; injection e with e; omega))]
    exact Hcells.out D (by have := Hn.out; omega)
  have HD := Lib.hid hD
  clear hD c1 c
  go_wp2
  go_ret
  exact ⟨by rw [← HD.out]; simp, C1.out, g1⟩

end Go.Proofs.Ytlndaflhlkbedaa

/- Contracts (DrawX). -/
namespace Go.Proofs.Ytlndaflhlkbedaa
open Go.RowKit
set_option linter.unusedVariables false

/-- the cursor stands somewhere -/
def CurX (w : World) (B : Nat) (k : Code) : Prop := ∃ s, CurAt w B k s
theorem CurX.lt {w : World} {B : Nat} {k : Code} (h : CurX w B k) : B < w.heap.size := by obtain ⟨s, h⟩ := h; exact h.lt
theorem CurX.alloc {w : World} {B : Nat} {k : Code} (h : CurX w B k) (o : Obj) : CurX (w.alloc o) B k := by obtain ⟨s, h⟩ := h; exact ⟨s, h.alloc o⟩
theorem CurX.drewN {w : World} {B : Nat} {k : Code} (h : CurX w B k) (n : Nat) : CurX (w.drewN n) B k := h
theorem CurX.kept {w w' : World} {B : Nat} {k : Code} {r : Option Nat} (h : CurX w B k) (hg : w.grownBy w' r) (hr : ∀ g, r = some g → B < g) : CurX w' B k := by obtain ⟨s, h⟩ := h; exact ⟨s, h.kept hg hr⟩
theorem l1New_ex (w : World) (k : Code) (hcode : CodeIn w w.heap.size k.a k.cs) (hlen : k.cs.length ≤ 1048576) :
    Calls Try.prog 69 #[.slice k.a k.cs.length k.cap] w fun e w' => e = .returned (.pointer (some ⟨w.heap.size, 0, none⟩)) ∧ CurX w' w.heap.size k ∧ w.grownBy w' none :=
  (l1New_any w k hcode hlen).mono fun e w' ⟨h1, h2, h3⟩ => ⟨h1, ⟨_, h2⟩, h3⟩
theorem l1Below_ex (w : World) (B : Nat) (k : Code) (n : Int) (c : CurX w B k) :
    Calls Try.prog 87 #[.pointer (some ⟨B, 0, none⟩), .int .i64 n] w fun e w' => ∃ v : Nat, e = .returned (.int .i64 v) ∧ ((v : Int) < n ∨ v = 0) ∧ CurX w' B k ∧ w.grownBy w' (some B) := by
  obtain ⟨s, c⟩ := c
  refine (l1Below_any w B k n s c).mono fun e w' ⟨h1, h2, h3⟩ => ?_
  by_cases hn : n ≤ 0
  · exact ⟨0, by rw [h1, Draw.below_zero _ _ _ hn]; rfl, .inr rfl, ⟨_, h2⟩, h3⟩
  · have hb := Draw.below_bd k.cs n s (by omega)
    obtain ⟨v, hv⟩ := Int.eq_ofNat_of_zero_le hb.1
    exact ⟨v, by rw [h1, hv], .inl (by omega), ⟨_, h2⟩, h3⟩
theorem l1PickInt_ex (w : World) (B g : Nat) (k : Code) (c : CurX w B k) (xs : List Int) (n : Nat) (hn : n = xs.length) (hpos : 0 < (n : Int)) (hn2 : (n : Int) ≤ 1000) (hg : B < g) (hg2 : g < w.heap.size)
    (hcells : ∀ j, j < xs.length → w.cell? ⟨g, j, none⟩ = some (.int .i64 (xs.getD j 0))) :
    Calls Try.prog 89 #[.pointer (some ⟨B, 0, none⟩), .slice (some ⟨g, 0, none⟩) n n] w fun e w' => ∃ v : Int, e = .returned (.int .i64 v) ∧ CurX w' B k ∧ w.grownBy w' (some B) := by
  obtain ⟨s, c⟩ := c
  exact (l1PickInt_any w B g k s c xs n hn hpos hn2 hg hg2 hcells).mono fun e w' ⟨h1, h2, h3⟩ => ⟨_, h1, ⟨_, h2⟩, h3⟩

end Go.Proofs.Ytlndaflhlkbedaa

/- A draw of one in n. -/
namespace Go.Proofs.Ytlndaflhlkbedaa
open Go.RowKit
set_option linter.unusedVariables false

set_option maxHeartbeats 400000 in
theorem l1Once_any (w : World) (B : Nat) (k : Code) (n : Int) (s : Nat × Int) (c : CurAt w B k s) :
    Calls Try.prog 88 #[.pointer (some ⟨B, 0, none⟩), .int .i64 n] w fun e w' => e = .returned (.bool ((Draw.below k.cs n s).1 == 0)) ∧ CurAt w' B k (Draw.below k.cs n s).2 ∧ w.grownBy w' (some B) := by
  go_enter Try.func88, Try.ntmps88
  go_wp2_with fail
  refine (l1Below_any _ B k n s c).mono ?_
  rintro e w1 ⟨rfl, c1, g1⟩
  have C1 := Lib.hid c1
  clear c1 c
  go_wp2
  go_ret
  exact ⟨rfl, C1.out, g1⟩

end Go.Proofs.Ytlndaflhlkbedaa

/- A draw of one in n, wherever the cursor stands. -/
namespace Go.Proofs.Ytlndaflhlkbedaa
open Go.RowKit
set_option linter.unusedVariables false

theorem l1Once_ex (w : World) (B : Nat) (k : Code) (n : Int) (c : CurX w B k) :
    Calls Try.prog 88 #[.pointer (some ⟨B, 0, none⟩), .int .i64 n] w fun e w' => ∃ b : Bool, e = .returned (.bool b) ∧ CurX w' B k ∧ w.grownBy w' (some B) := by
  obtain ⟨s, c⟩ := c
  exact (l1Once_any w B k n s c).mono fun e w' ⟨h1, h2, h3⟩ => ⟨_, h1, ⟨_, h2⟩, h3⟩

end Go.Proofs.Ytlndaflhlkbedaa

/- A draw of a label. -/
namespace Go.Proofs.Ytlndaflhlkbedaa
open Go.RowKit
set_option linter.unusedVariables false

set_option maxHeartbeats 400000 in
theorem l2Label_ex (w : World) (B : Nat) (k : Code) (c : CurX w B k) :
    Calls Try.prog 137 #[.pointer (some ⟨B, 0, none⟩)] w fun e w' => ∃ v : Nat, e = .returned (.int .i64 v) ∧ CurX w' B k ∧ w.grownBy w' (some B) := by
  have Hc := Lib.hid c
  clear c
  go_enter Try.func137, Try.ntmps137
  go_wp2_with fail
  refine (l1Below_ex _ B k 4 Hc.out).mono ?_
  rintro e w1 ⟨v, rfl, _, c1, g1⟩
  go_wp2
  go_ret
  exact ⟨v, rfl, c1, g1⟩

end Go.Proofs.Ytlndaflhlkbedaa

/- Draws: what a call that moves the cursor leaves of rows of the caller's own. -/
namespace Go.Proofs.Ytlndaflhlkbedaa
open Go.RowKit
set_option linter.unusedVariables false

theorem Kit.grown_alloc (w : World) (o : Obj) (r : Option Nat) : w.grownBy (w.alloc o) r := ⟨rfl, rfl, rfl, by simp, fun k hk _ => Below.heap_alloc _ _ _ hk⟩
theorem Kit.keptRow {w w' : World} {base e n size B : Nat} {v : Value} {xs : List Value} (h : w.ownsRow base e size v n xs) (hB : B < base) (hg : w.grownBy w' (some B)) : w'.ownsRow base e size v n xs := by
  refine h.kept hg (Or.inr ?_)
  intro he
  have := h.lt B (by rw [he])
  omega
/-- what an append of the call's own leaves, seen from the call's beginning -/
theorem Kit.grown_own {w0 wr w1 : World} {B base e n size : Nat} {o : Obj} {v : Value} {xs : List Value} (hg : w0.grownBy wr (some B)) (hb : w0.heap.size ≤ base) (hown : wr.ownsRow base e size v n xs)
    (h : (wr.alloc o).grownBy w1 v.ownBlock) : w0.grownBy w1 (some B) := by
  have h1 : w0.grownBy (wr.alloc o) (some B) := Kit.grown_trans hg ⟨rfl, rfl, rfl, by simp, fun k hk _ => Below.heap_alloc _ _ _ hk⟩
  exact h1.andThen h (fun j hj => Or.inl (by have := (hown.lt j hj).1; omega))

end Go.Proofs.Ytlndaflhlkbedaa

/- Contracts (Mem2). -/
namespace Go.Proofs.Ytlndaflhlkbedaa
open Go.RowKit
set_option linter.unusedVariables false

theorem append_node {P : Program} (w : World) {ops : Array Oper} {rest : List Oper} {o : Oper} {a : Act} {Q : Exit → Act → World → Prop} (hgd : o.guard = none) (s x : Operand) (t : TypeId)
    (ho : o.op = .call { callee := .builtin .append, args := #[s, x], argTypes := #[t, t] })
    (base : Nat) (e : TypeId) (i : TypeInfo) (ht : P.underlying t = some (.slice e)) (hi : P.info? e = some i) (hz : i.zero = some (.agg #[.int .i64 0, .int .i64 0]))
    (hsize : i.size = 2) (hby : i.bytes = 16) (v : Value) (n : Nat) (l : Tr) (hs : a.eval s = v) (hown : w.ownsRow base e 2 v n (Tr.cells l)) (hn : n = l.length)
    (b1 b2 : Int) (hx : a.eval x = .slice (some ⟨w.heap.size, 0, none⟩) 1 1)
    (h63 : l.length + 1 ≤ 1073741824) (hbase : base ≤ w.heap.size)
    (h : ∀ v' w', w'.ownsRow base e 2 v' (l ++ [(b1, b2)]).length (Tr.cells (l ++ [(b1, b2)])) → (w.alloc (.cells #[.int .i64 b1, .int .i64 b2] e)).grownBy w' v.ownBlock → wpList P ops Q rest (a.put o.dst v') w') :
    wpList P ops Q (o :: rest) a (w.alloc (.cells #[.int .i64 b1, .int .i64 b2] e)) := by
  subst hn
  refine wpList_append_own _ hgd s x t ho base e i (.agg #[.int .i64 0, .int .i64 0]) 2 16 ht hi hz hsize hby rfl (by decide) v l.length (Tr.cells l) hs (hown.alloc _) ⟨w.heap.size, 0, none⟩ 1 1 (Tr.cells [(b1, b2)]) hx (by simp [Tr.cells]) ?_ (Tr.cells_cell _) (by unfold maxLen; omega) (by omega) (by simp; omega) ?_
  · intro j u hj
    have hj2 : j < 2 := by
      have := (List.getElem?_eq_some_iff.1 hj).1
      simpa [Tr.cells] using this
    have : j = 0 ∨ j = 1 := by omega
    rcases this with rfl | rfl <;> (simp [Tr.cells] at hj; subst hj; simp [Addr.add])
  · intro v' w' h2 h3 _
    refine h v' w' ?_ h3
    rw [Tr.cells_append, List.length_append]
    exact h2

end Go.Proofs.Ytlndaflhlkbedaa

/- Contracts (TreeD). -/
namespace Go.Proofs.Ytlndaflhlkbedaa
open Go.RowKit
set_option linter.unusedVariables false

theorem info_ndD : (Try.prog.info? 42).map (fun i => (i.zero, i.size, i.bytes)) = some (some (.agg #[.int .i64 0, .int .i64 0]), 2, 16) := by kernel_rfl
theorem Tr.dsnoc {xs : Tr} {x : Int × Int} (h : ∀ j, j < xs.length → 0 ≤ Tr.d xs j ∧ Tr.d xs j ≤ 12) (h2 : 0 ≤ x.2 ∧ x.2 ≤ 12) : ∀ j, j < (xs ++ [x]).length → 0 ≤ Tr.d (xs ++ [x]) j ∧ Tr.d (xs ++ [x]) j ≤ 12 := by
  intro j hj
  rw [List.length_append, List.length_singleton] at hj
  by_cases e : j < xs.length
  · have := h j e
    unfold Tr.d at this ⊢
    rw [List.getD_eq_getElem?_getD, List.getElem?_append_left e, ← List.getD_eq_getElem?_getD]
    exact this
  · obtain rfl : j = xs.length := by omega
    unfold Tr.d
    simpa [List.getD_eq_getElem?_getD] using h2
set_option maxHeartbeats 1600000 in
set_option maxRecDepth 100000 in
theorem l3Tree_ex (w : World) (B : Nat) (k : Code) (most : Int) (hm : most ≤ 30) (c : CurX w B k) :
    Calls Try.prog 111 #[.pointer (some ⟨B, 0, none⟩), .int .i64 most] w fun e w' => ∃ (xs : Tr) (A : Option Addr) (cp : Nat), e = .returned (.slice A xs.length cp) ∧ w'.ownsRow w.heap.size 42 2 (.slice A xs.length cp) xs.length (Tr.cells xs) ∧
      (1 ≤ xs.length ∧ ((xs.length : Int) ≤ most ∨ xs.length = 1)) ∧ (∀ j, j < xs.length → 0 ≤ Tr.d xs j ∧ Tr.d xs j ≤ 12) ∧ CurX w' B k ∧ w.grownBy w' (some B) := by
  have HC := Lib.hid c
  have hBB := c.lt
  have HG := Lib.hid (Kit.grown_refl w (some B))
  clear c
  obtain ⟨i0, hi, hz0, hz1, hz2⟩ := info_parts info_ndD
  have Hi := Lib.hid hi
  clear hi
  go_enter Try.func111, Try.ntmps111
  go_wp2_with fail
  refine (l2Label_ex _ B k HC.out).mono ?_
  rintro e w1 ⟨v, rfl, c, g⟩
  have HC := Lib.hid c
  have HG := Lib.hid (Kit.grown_trans HG.out g)
  have hsx := HG.out.size
  have Ho := Lib.hid (World.ownsRow_lit (base := w.heap.size) (e := 42) (size := 2) w1 #[.int .i64 v, .int .i64 0] 1 hsx (by decide) rfl)
  have HC := Lib.hid (HC.out.alloc (.cells #[.int .i64 v, .int .i64 0] 42))
  have HG := Lib.hid (Kit.grown_trans HG.out (Kit.grown_alloc w1 (.cells #[.int .i64 v, .int .i64 0] 42) (some B)))
  clear c g
  go_wp2_with fail
  refine (l1Below_ex _ B k most HC.out).mono ?_
  rintro e w2 ⟨n, rfl, hn, c, g⟩
  have HC := Lib.hid c
  have HG := Lib.hid (Kit.grown_trans HG.out g)
  have Ho := Lib.hid (Kit.keptRow Ho.out hBB g)
  clear c g
  go_wp2
  go_loopw [6, 5] (fun nv lv wr => ∃ (r : Nat) (xs : Tr), nv = .int .i64 r ∧ ((r + xs.length : Nat) : Int) ≤ max 1 most ∧ wr.ownsRow w.heap.size 42 2 lv xs.length (Tr.cells xs) ∧ 1 ≤ xs.length ∧ (∀ j, j < xs.length → 0 ≤ Tr.d xs j ∧ Tr.d xs j ≤ 12) ∧ CurX wr B k ∧ w.grownBy wr (some B)) (fun n _ _ => (intOf n).toNat)
  case atStart =>
    refine ⟨n, [((v : Nat), 0)], rfl, by simp; omega, Ho.out, by simp, fun j hj => ?_, HC.out, HG.out⟩
    obtain rfl : j = 0 := by simpa using hj
    simp [Tr.d]
  case round =>
    clear Ho HC HG hn hsx
    obtain ⟨r, xs, rfl, hr, hown, hlen, hbd, hc, hg⟩ := hrel
    have Ho := Lib.hid hown
    have HC := Lib.hid hc
    have HG := Lib.hid hg
    have Hbd := Lib.hid hbd
    clear hown hc hg hbd
    obtain ⟨A', c', rfl⟩ := own_slice Ho.out
    have hl31 : xs.length ≤ 31 := by omega
    by_cases h0 : r = 0
    · subst h0
      go_wp2
      go_ret
      exact ⟨xs, A', c', rfl, Ho.out, ⟨hlen, by omega⟩, Hbd.out, HC.out, HG.out⟩
    · have e0 : decide (0 < r) = true := by simp; omega
      obtain ⟨gk, rfl, _, _⟩ := own_form Ho.out (by omega)
      have hl := own_odd Ho.out (k := xs.length - 1) (by omega)
      have hdb := Hbd.out (xs.length - 1) (by omega)
      obtain ⟨d, hd⟩ : ∃ d, d = Tr.d xs (xs.length - 1) := ⟨_, rfl⟩
      rw [← hd] at hl hdb
      clear hd
      have a1 : IntKind.i64.wrap ((xs.length : Int) - 1) = (xs.length : Int) - 1 := Kit.w64 (by omega) (by omega)
      have a2 : ((xs.length : Int) - 1).toNat = xs.length - 1 := by omega
      have a3 : (1 : Int) ≤ (xs.length : Int) := by omega
      have a4 : (xs.length : Int) - 1 < (xs.length : Int) := by omega
      have a5 : IntKind.i64.wrap (d + 1) = d + 1 := Kit.w64 (by omega) (by omega)
      go_wp2_with fail
      refine (l1Below_ex _ B k (d + 1) HC.out).mono ?_
      rintro e w3 ⟨t, rfl, ht, c, g⟩
      have HC := Lib.hid c
      have HG := Lib.hid (Kit.grown_trans HG.out g)
      have Ho := Lib.hid (Kit.keptRow Ho.out hBB g)
      clear c g
      have a6 : IntKind.i64.wrap (1 + (t : Int)) = 1 + (t : Int) := Kit.w64 (by omega) (by omega)
      go_wp2_with fail
      refine (l1Once_ex _ B k 2 HC.out).mono ?_
      rintro e w4 ⟨b, rfl, c, g⟩
      have HC := Lib.hid c
      have HG := Lib.hid (Kit.grown_trans HG.out g)
      have Ho := Lib.hid (Kit.keptRow Ho.out hBB g)
      clear c g
      cases b with
      | true =>
        by_cases h12 : 12 < d + 1
        · have e12 : decide (12 < d + 1) = true := by simpa using h12
          go_wp2_with fail
          refine (l2Label_ex _ B k HC.out).mono ?_
          rintro e w5 ⟨q, rfl, c, g⟩
          have HC := Lib.hid c
          have HG := Lib.hid (Kit.grown_trans HG.out g)
          have Ho := Lib.hid (Kit.keptRow Ho.out hBB g)
          clear c g
          have hsx := HG.out.size
          go_wp2_with (at_builtin; go_loud (refine append_node w5 rfl _ _ 24 rfl w.heap.size 42 i0 Try.underlying24 Hi.out hz0 hz1 hz2 (.slice (some ⟨gk, 0, none⟩) xs.length c') xs.length xs rfl Ho.out rfl (q : Int) (1) rfl (by omega) hsx ?_); intro v' w6 hown hgrow)
          have hg6 := Kit.grown_own HG.out (Nat.le_refl _) Ho.out hgrow
          have hc6 := (HC.out.alloc (.cells #[.int .i64 (q : Int), .int .i64 (1)] 42)).kept hgrow (fun j hj => by have := (Ho.out.lt j hj).1; omega)
          go_roundw
          case rel => exact ⟨r - 1, xs ++ [((q : Int), 1)], by go_num, by simp; omega, hown, by simp, Tr.dsnoc Hbd.out (by constructor <;> simp <;> omega), hc6, hg6⟩
          case measure => simp [intOf]; omega
        · have e12 : decide (12 < d + 1) = false := by simpa using h12
          go_wp2_with fail
          refine (l2Label_ex _ B k HC.out).mono ?_
          rintro e w5 ⟨q, rfl, c, g⟩
          have HC := Lib.hid c
          have HG := Lib.hid (Kit.grown_trans HG.out g)
          have Ho := Lib.hid (Kit.keptRow Ho.out hBB g)
          clear c g
          have hsx := HG.out.size
          go_wp2_with (at_builtin; go_loud (refine append_node w5 rfl _ _ 24 rfl w.heap.size 42 i0 Try.underlying24 Hi.out hz0 hz1 hz2 (.slice (some ⟨gk, 0, none⟩) xs.length c') xs.length xs rfl Ho.out rfl (q : Int) ((d + 1)) rfl (by omega) hsx ?_); intro v' w6 hown hgrow)
          have hg6 := Kit.grown_own HG.out (Nat.le_refl _) Ho.out hgrow
          have hc6 := (HC.out.alloc (.cells #[.int .i64 (q : Int), .int .i64 ((d + 1))] 42)).kept hgrow (fun j hj => by have := (Ho.out.lt j hj).1; omega)
          go_roundw
          case rel => exact ⟨r - 1, xs ++ [((q : Int), (d + 1))], by go_num, by simp; omega, hown, by simp, Tr.dsnoc Hbd.out (by constructor <;> simp <;> omega), hc6, hg6⟩
          case measure => simp [intOf]; omega
      | false =>
        by_cases h12 : 12 < 1 + (t : Int)
        · have e12 : decide (12 < 1 + (t : Int)) = true := by simpa using h12
          go_wp2_with fail
          refine (l2Label_ex _ B k HC.out).mono ?_
          rintro e w5 ⟨q, rfl, c, g⟩
          have HC := Lib.hid c
          have HG := Lib.hid (Kit.grown_trans HG.out g)
          have Ho := Lib.hid (Kit.keptRow Ho.out hBB g)
          clear c g
          have hsx := HG.out.size
          go_wp2_with (at_builtin; go_loud (refine append_node w5 rfl _ _ 24 rfl w.heap.size 42 i0 Try.underlying24 Hi.out hz0 hz1 hz2 (.slice (some ⟨gk, 0, none⟩) xs.length c') xs.length xs rfl Ho.out rfl (q : Int) (1) rfl (by omega) hsx ?_); intro v' w6 hown hgrow)
          have hg6 := Kit.grown_own HG.out (Nat.le_refl _) Ho.out hgrow
          have hc6 := (HC.out.alloc (.cells #[.int .i64 (q : Int), .int .i64 (1)] 42)).kept hgrow (fun j hj => by have := (Ho.out.lt j hj).1; omega)
          go_roundw
          case rel => exact ⟨r - 1, xs ++ [((q : Int), 1)], by go_num, by simp; omega, hown, by simp, Tr.dsnoc Hbd.out (by constructor <;> simp <;> omega), hc6, hg6⟩
          case measure => simp [intOf]; omega
        · have e12 : decide (12 < 1 + (t : Int)) = false := by simpa using h12
          go_wp2_with fail
          refine (l2Label_ex _ B k HC.out).mono ?_
          rintro e w5 ⟨q, rfl, c, g⟩
          have HC := Lib.hid c
          have HG := Lib.hid (Kit.grown_trans HG.out g)
          have Ho := Lib.hid (Kit.keptRow Ho.out hBB g)
          clear c g
          have hsx := HG.out.size
          go_wp2_with (at_builtin; go_loud (refine append_node w5 rfl _ _ 24 rfl w.heap.size 42 i0 Try.underlying24 Hi.out hz0 hz1 hz2 (.slice (some ⟨gk, 0, none⟩) xs.length c') xs.length xs rfl Ho.out rfl (q : Int) ((1 + (t : Int))) rfl (by omega) hsx ?_); intro v' w6 hown hgrow)
          have hg6 := Kit.grown_own HG.out (Nat.le_refl _) Ho.out hgrow
          have hc6 := (HC.out.alloc (.cells #[.int .i64 (q : Int), .int .i64 ((1 + (t : Int)))] 42)).kept hgrow (fun j hj => by have := (Ho.out.lt j hj).1; omega)
          go_roundw
          case rel => exact ⟨r - 1, xs ++ [((q : Int), (1 + (t : Int)))], by go_num, by simp; omega, hown, by simp, Tr.dsnoc Hbd.out (by constructor <;> simp <;> omega), hc6, hg6⟩
          case measure => simp [intOf]; omega

end Go.Proofs.Ytlndaflhlkbedaa

/- A draw of any label. -/
namespace Go.Proofs.Ytlndaflhlkbedaa
open Go.RowKit
set_option linter.unusedVariables false

theorem l1PickInt_lit (w : World) (B : Nat) (k : Code) (c : CurX w B k) (C : Array Value) (t : TypeId) (xs : List Int) (n : Nat) (hC : C = (xs.map (Value.int .i64)).toArray) (hn : n = xs.length) (hpos : 0 < (n : Int)) (hn2 : (n : Int) ≤ 1000) :
    Calls Try.prog 89 #[.pointer (some ⟨B, 0, none⟩), .slice (some ⟨w.heap.size, 0, none⟩) n n] (w.alloc (.cells C t)) fun e w' => ∃ v : Int, e = .returned (.int .i64 v) ∧ CurX w' B k ∧ w.grownBy w' (some B) := by
  refine (l1PickInt_ex _ B w.heap.size k (c.alloc _) xs n hn hpos hn2 c.lt (by simp) (fun j hj => ?_)).mono fun e w' ⟨v, h1, h2, h3⟩ => ⟨v, h1, h2, Kit.grown_trans (Kit.grown_alloc w _ (some B)) h3⟩
  rw [World.cell?_alloc_at (hn := rfl), hC]
  simp [List.getD_eq_getElem?_getD, hj]
set_option maxHeartbeats 800000 in
theorem l2Any_ex (w : World) (B : Nat) (k : Code) (c : CurX w B k) :
    Calls Try.prog 140 #[.pointer (some ⟨B, 0, none⟩)] w fun e w' => ∃ v : Int, e = .returned (.int .i64 v) ∧ CurX w' B k ∧ w.grownBy w' (some B) := by
  have HC := Lib.hid c
  clear c
  go_enter Try.func140, Try.ntmps140
  go_wp2_with fail
  refine (l1PickInt_lit w B k HC.out _ _ [0, 1, 2, 3, 5, 6, -1] 7 rfl rfl (by decide) (by decide)).mono ?_
  rintro e w4 ⟨x, rfl, c, g⟩
  go_wp2
  go_ret
  exact ⟨x, rfl, c, g⟩

end Go.Proofs.Ytlndaflhlkbedaa

/- Contracts (AnyD). -/
namespace Go.Proofs.Ytlndaflhlkbedaa
open Go.RowKit
set_option linter.unusedVariables false

theorem Tr.cells_set_even (xs : Tr) (k : Nat) (a : Int) : (Tr.cells xs).set (k * 2) (.int .i64 a) = Tr.cells (xs.set k (a, Tr.d xs k)) := by
  induction xs generalizing k with
  | nil => simp [Tr.cells]
  | cons x l ih =>
    cases k with
    | zero => simp [Tr.cells, Tr.d]
    | succ k =>
      have := ih k
      simp only [Tr.cells, Tr.d] at this ⊢
      simpa [show (k + 1) * 2 = k * 2 + 1 + 1 by omega] using this
theorem Tr.cells_set_odd' (xs : Tr) (k : Nat) (b : Int) : (Tr.cells xs).set (k * 2 + 1) (.int .i64 b) = Tr.cells (xs.set k (Tr.l xs k, b)) := by
  induction xs generalizing k with
  | nil => simp [Tr.cells]
  | cons x l ih =>
    cases k with
    | zero => simp [Tr.cells, Tr.l]
    | succ k =>
      have := ih k
      simp only [Tr.cells, Tr.l] at this ⊢
      simpa [show (k + 1) * 2 = k * 2 + 1 + 1 by omega] using this
theorem NdIn.tail {w : World} {B n g : Nat} {xs : Tr} (h : NdIn w B (some ⟨g, 0, none⟩) n xs) : NdIn w B (some ⟨g, 2, none⟩) (n - 1) (xs.drop 1) := by
  refine ⟨by have := h.1; simp; omega, fun hm => ⟨_, rfl, ?_⟩, fun ad' e k hk => ?_⟩
  · obtain ⟨ad', e, hb⟩ := h.2.1 (by omega)
    obtain rfl : (⟨g, 0, none⟩ : Addr) = ad' := by injection e
    exact hb
  · obtain rfl : (⟨g, 2, none⟩ : Addr) = ad' := by injection e
    have hc := h.2.2 _ rfl (k + 1) (by omega)
    have hg : (xs.drop 1).getD k (0, 0) = xs.getD (k + 1) (0, 0) := by
      simp [List.getD_eq_getElem?_getD]
    have e1 : (⟨g, 2, none⟩ : Addr) = (⟨g, 0, none⟩ : Addr).add 2 := by simp [Addr.add]
    rw [e1, add_of_add, add_of_add, show 2 + k * 2 = (k + 1) * 2 by omega, show 2 + (k * 2 + 1) = (k + 1) * 2 + 1 by omega]
    simp only [Tr.l, Tr.d] at hc ⊢
    rw [hg]
    exact hc
/-- a slice of nodes, readable, in a block of the call's own (from B0 on) -/
def NdAt (w : World) (B0 : Nat) (A : Option Addr) (n : Nat) (xs : Tr) : Prop := NdIn w w.heap.size A n xs ∧ ∀ ad, A = some ad → B0 ≤ ad.block
theorem NdAt.of_own {w : World} {base n : Nat} {e : TypeId} {A : Option Addr} {c : Nat} {xs : Tr} (h : w.ownsRow base e 2 (.slice A n c) n (Tr.cells xs)) : NdAt w base A n xs := by
  refine ⟨NdIn.of_own h, fun ad he => ?_⟩
  rcases h.2 with ⟨h1, h2⟩ | ⟨g, cap, cur, hv, hb, _⟩
  · injection h1 with h1
    rw [h1] at he
    cases he
  · injection hv with hv
    rw [hv] at he
    injection he with he
    rw [← he]
    exact hb
def vlen : Value → Nat
  | .slice _ n _ => n
  | _ => 0
theorem NdAt.cur {w w' : World} {B B0 n : Nat} {A : Option Addr} {xs : Tr} (h : NdAt w B0 A n xs) (hB : B < B0) (hg : w.grownBy w' (some B)) : NdAt w' B0 A n xs := by
  refine ⟨⟨h.1.1, fun hn => ?_, fun ad e k hk => ?_⟩, h.2⟩
  · obtain ⟨ad, e, hb⟩ := h.1.2.1 hn
    exact ⟨ad, e, Nat.lt_of_lt_of_le hb hg.size⟩
  · obtain ⟨ad', e', hb⟩ := h.1.2.1 (by omega)
    obtain rfl : ad' = ad := by rw [e'] at e; injection e
    have hne := h.2 _ e'
    have := h.1.2.2 _ e k hk
    have q : ∀ p : Addr, p.block = ad'.block → w'.cell? p = w.cell? p := fun p hp => World.cell?_of_block (hg.block p.block (by omega) (by intro e; injection e with e; omega))
    rw [q _ (block_of_add _ _), q _ (block_of_add _ _)]
    exact this
def AnyD (w : World) (B : Nat) (k : Code) (e : Ending) (w' : World) : Prop :=
  ∃ (xs : Tr) (A : Option Addr) (n cp : Nat), e = .returned (.slice A n cp) ∧ NdAt w' w.heap.size A n xs ∧ n ≤ cp ∧ n ≤ 31 ∧ CurX w' B k ∧ w.grownBy w' (some B)
set_option maxHeartbeats 3200000 in
set_option maxRecDepth 100000 in
theorem l3Any_ex (w : World) (B : Nat) (k : Code) (most : Int) (hm : most ≤ 30) (c : CurX w B k) :
    Calls Try.prog 114 #[.pointer (some ⟨B, 0, none⟩), .int .i64 most] w (AnyD w B k) := by
  have HC := Lib.hid c
  have hBB := c.lt
  have HG := Lib.hid (Kit.grown_refl w (some B))
  clear c
  obtain ⟨i0, hi, hz0, hz1, hz2⟩ := info_parts info_ndD
  have Hi := Lib.hid hi
  clear hi
  go_enter Try.func114, Try.ntmps114
  go_wp2_with fail
  refine (l3Tree_ex w B k most hm HC.out).mono ?_
  rintro e w1 ⟨xs, A, cp, rfl, ho, ⟨hl1, hl2⟩, hbd, c, g⟩
  have HC := Lib.hid c
  have HG := Lib.hid (Kit.grown_trans HG.out g)
  have Ho := Lib.hid ho
  have Hbd := Lib.hid hbd
  obtain ⟨gk, rfl, hgk, _⟩ := own_form ho (by omega)
  clear ho c g hbd
  go_wp2_with fail
  refine (l1Below_ex _ B k (xs.length : Int) HC.out).mono ?_
  rintro e w2 ⟨q, rfl, hq, c, g⟩
  have HC := Lib.hid c
  have HG := Lib.hid (Kit.grown_trans HG.out g)
  have Ho := Lib.hid (Kit.keptRow Ho.out hBB g)
  clear c g
  have hq' : q < xs.length := by omega
  go_wp2_with fail
  refine (l1Below_ex _ B k 18 HC.out).mono ?_
  rintro e w3 ⟨v, rfl, hv, c, g⟩
  have HC := Lib.hid c
  have HG := Lib.hid (Kit.grown_trans HG.out g)
  have Ho := Lib.hid (Kit.keptRow Ho.out hBB g)
  clear c g
  have q0 : (0 : Int) ≤ (q : Int) := by omega
  have q1 : (q : Int) < (xs.length : Int) := by omega
  by_cases h0 : v = 0
  · have e0 : ((v : Int) == 0) = true := by simp [h0]
    go_wp2_with fail
    refine (l2Any_ex _ B k HC.out).mono ?_
    rintro e w4 ⟨x, rfl, c, g⟩
    have HC := Lib.hid c
    have HG := Lib.hid (Kit.grown_trans HG.out g)
    have Ho := Lib.hid (Kit.keptRow Ho.out hBB g)
    clear c g
    have c0 := own_even Ho.out (k := q) hq'
    have f0 := Ho.out.frozenAt (q * 2)
    go_wp2
    go_ret
    have ho := (Ho.out.stored (q * 2) (.int .i64 x)).1
    rw [Tr.cells_set_even] at ho
    exact ⟨_, _, _, _, rfl, NdAt.of_own ho, own_cap Ho.out, by omega, HC.out.kept (Ho.out.stored (q * 2) (.int .i64 x)).2 (fun j hj => by have := (Ho.out.lt j hj).1; omega), HG.out.andThen (Ho.out.stored (q * 2) (.int .i64 x)).2 (fun j hj => .inl (by have := (Ho.out.lt j hj).1; omega))⟩
  · have e0 : ((v : Int) == 0) = false := beq_eq_false_iff_ne.2 (by omega)
    by_cases h1 : v = 1
    · have e1 : ((v : Int) == 1) = true := by simp [h1]
      have c0 := own_odd Ho.out (k := q) hq'
      have hdb := Hbd.out q hq'
      obtain ⟨d, hd⟩ : ∃ d, d = Tr.d xs q := ⟨_, rfl⟩
      rw [← hd] at c0 hdb
      clear hd
      have a5 : IntKind.i64.wrap (d + 1) = d + 1 := Kit.w64 (by omega) (by omega)
      go_wp2_with fail
      refine (l1PickInt_lit w3 B k HC.out _ _ [-1, 0, 1, 13, d + 1] 5 rfl rfl (by decide) (by decide)).mono ?_
      rintro e w4 ⟨x, rfl, c, g⟩
      have HC := Lib.hid c
      have HG := Lib.hid (Kit.grown_trans HG.out g)
      have Ho := Lib.hid (Kit.keptRow Ho.out hBB g)
      clear c g c0
      have c0 := own_odd Ho.out (k := q) hq'
      have f0 := Ho.out.frozenAt (q * 2 + 1)
      go_wp2
      go_ret
      have ho := (Ho.out.stored (q * 2 + 1) (.int .i64 x)).1
      rw [Tr.cells_set_odd'] at ho
      exact ⟨_, _, _, _, rfl, NdAt.of_own ho, own_cap Ho.out, by omega, HC.out.kept (Ho.out.stored (q * 2 + 1) (.int .i64 x)).2 (fun j hj => by have := (Ho.out.lt j hj).1; omega), HG.out.andThen (Ho.out.stored (q * 2 + 1) (.int .i64 x)).2 (fun j hj => .inl (by have := (Ho.out.lt j hj).1; omega))⟩
    · have e1 : ((v : Int) == 1) = false := beq_eq_false_iff_ne.2 (by omega)
      by_cases h2 : v = 2
      · have e2 : ((v : Int) == 2) = true := by simp [h2]
        have hcap := own_cap Ho.out
        have b1 : (1 : Int) ≤ (xs.length : Int) := by omega
        have b2 : (xs.length : Int) ≤ (cp : Int) := by omega
        by_cases hcp : cp = 1
        · subst hcp
          go_wp2
          go_ret
          exact ⟨[], _, _, _, rfl, ⟨⟨by first | rfl | (simp; omega), fun h => absurd h (by omega), fun ad e k hk => absurd hk (by omega)⟩, fun ad e => by injection e with e; rw [← e]; exact hgk⟩, by omega, by omega, HC.out, HG.out⟩
        · go_wp2
          go_ret
          exact ⟨_, _, _, _, rfl, ⟨NdIn.tail (NdIn.of_own Ho.out), fun ad e => by injection e with e; rw [← e]; exact hgk⟩, by omega, by omega, HC.out, HG.out⟩
      · have e2 : ((v : Int) == 2) = false := beq_eq_false_iff_ne.2 (by omega)
        by_cases h3 : v = 3
        · have e3 : ((v : Int) == 3) = true := by simp [h3]
          go_wp2
          go_loopw [5] (fun lv wr => ∃ ys : Tr, wr.ownsRow w.heap.size 42 2 lv ys.length (Tr.cells ys) ∧ ys.length ≤ 31 ∧ CurX wr B k ∧ w.grownBy wr (some B)) (fun lv _ => 40 - vlen lv)
          case atStart => exact ⟨xs, Ho.out, by first | omega | decide, HC.out, HG.out⟩
          case round =>
            clear Ho HC HG
            obtain ⟨ys, hown, hyl, hc, hg⟩ := hrel
            have Ho := Lib.hid hown
            have HC := Lib.hid hc
            have HG := Lib.hid hg
            clear hown hc hg
            obtain ⟨A2, c2, rfl⟩ := own_slice Ho.out
            go_wp2_with fail
            refine (l1Below_ex _ B k 2 HC.out).mono ?_
            rintro e w4 ⟨t, rfl, ht, c, g⟩
            have HC := Lib.hid c
            have HG := Lib.hid (Kit.grown_trans HG.out g)
            have Ho := Lib.hid (Kit.keptRow Ho.out hBB g)
            clear c g
            have a6 : IntKind.i64.wrap (24 + (t : Int)) = 24 + (t : Int) := Kit.w64 (by omega) (by omega)
            by_cases hlt : (ys.length : Int) < 24 + (t : Int)
            · have elt : decide ((ys.length : Int) < 24 + (t : Int)) = true := by simpa using hlt
              have hsx := HG.out.size
              go_wp2_with (at_builtin; go_loud (refine append_node w4 rfl _ _ 24 rfl w.heap.size 42 i0 Try.underlying24 Hi.out hz0 hz1 hz2 (.slice A2 ys.length c2) ys.length ys rfl Ho.out rfl 1 (1) rfl (by omega) hsx ?_); intro v' w6 hown hgrow)
              have hg6 := Kit.grown_own HG.out (Nat.le_refl _) Ho.out hgrow
              have hc6 := (HC.out.alloc (.cells #[.int .i64 1, .int .i64 (1)] 42)).kept hgrow (fun j hj => by have := (Ho.out.lt j hj).1; omega)
              obtain ⟨A6, c6, rfl⟩ := own_slice hown
              go_roundw
              case rel => exact ⟨ys ++ [(1, 1)], hown, by simp; omega, hc6, hg6⟩
              case measure => simp [vlen]; omega
            · have elt : decide ((ys.length : Int) < 24 + (t : Int)) = false := by simpa using hlt
              go_wp2
              go_ret
              exact ⟨_, _, _, _, rfl, NdAt.of_own Ho.out, own_cap Ho.out, by omega, HC.out, HG.out⟩
        · have e3 : ((v : Int) == 3) = false := beq_eq_false_iff_ne.2 (by omega)
          by_cases h4 : v = 4
          · have e4 : ((v : Int) == 4) = true := by simp [h4]
            have hsx := HG.out.size
            have Ho := Lib.hid (World.ownsRow_lit (base := w.heap.size) (e := 42) (size := 2) w3 #[.int .i64 0, .int .i64 0] 1 hsx (by decide) rfl)
            have HC := Lib.hid (HC.out.alloc (.cells #[.int .i64 0, .int .i64 0] 42))
            have HG := Lib.hid (Kit.grown_trans HG.out (Kit.grown_alloc w3 (.cells #[.int .i64 0, .int .i64 0] 42) (some B)))
            go_wp2
            go_loopw [5] (fun lv wr => ∃ ys : Tr, wr.ownsRow w.heap.size 42 2 lv ys.length (Tr.cells ys) ∧ ys.length ≤ 31 ∧ CurX wr B k ∧ w.grownBy wr (some B)) (fun lv _ => 40 - vlen lv)
            case atStart => exact ⟨[(0, 0)], Ho.out, by first | omega | decide, HC.out, HG.out⟩
            case round =>
              clear Ho HC HG
              obtain ⟨ys, hown, hyl, hc, hg⟩ := hrel
              have Ho := Lib.hid hown
              have HC := Lib.hid hc
              have HG := Lib.hid hg
              clear hown hc hg
              obtain ⟨A2, c2, rfl⟩ := own_slice Ho.out
              go_wp2_with fail
              refine (l1Below_ex _ B k 2 HC.out).mono ?_
              rintro e w4 ⟨t, rfl, ht, c, g⟩
              have HC := Lib.hid c
              have HG := Lib.hid (Kit.grown_trans HG.out g)
              have Ho := Lib.hid (Kit.keptRow Ho.out hBB g)
              clear c g
              have a6 : IntKind.i64.wrap (13 + (t : Int)) = 13 + (t : Int) := Kit.w64 (by omega) (by omega)
              by_cases hlt : (ys.length : Int) < 13 + (t : Int)
              · have elt : decide ((ys.length : Int) < 13 + (t : Int)) = true := by simpa using hlt
                have hsx := HG.out.size
                go_wp2_with (at_builtin; go_loud (refine append_node w4 rfl _ _ 24 rfl w.heap.size 42 i0 Try.underlying24 Hi.out hz0 hz1 hz2 (.slice A2 ys.length c2) ys.length ys rfl Ho.out rfl 0 ((ys.length : Int)) rfl (by omega) hsx ?_); intro v' w6 hown hgrow)
                have hg6 := Kit.grown_own HG.out (Nat.le_refl _) Ho.out hgrow
                have hc6 := (HC.out.alloc (.cells #[.int .i64 0, .int .i64 ((ys.length : Int))] 42)).kept hgrow (fun j hj => by have := (Ho.out.lt j hj).1; omega)
                obtain ⟨A6, c6, rfl⟩ := own_slice hown
                go_roundw
                case rel => exact ⟨ys ++ [(0, (ys.length : Int))], hown, by simp; omega, hc6, hg6⟩
                case measure => simp [vlen]; omega
              · have elt : decide ((ys.length : Int) < 13 + (t : Int)) = false := by simpa using hlt
                go_wp2
                go_ret
                exact ⟨_, _, _, _, rfl, NdAt.of_own Ho.out, own_cap Ho.out, by omega, HC.out, HG.out⟩
          · have e4 : ((v : Int) == 4) = false := beq_eq_false_iff_ne.2 (by omega)
            go_wp2
            go_ret
            exact ⟨_, _, _, _, rfl, NdAt.of_own Ho.out, own_cap Ho.out, by omega, HC.out, HG.out⟩

end Go.Proofs.Ytlndaflhlkbedaa
