/- Texts of one claim laid into one file, in build order: Draw, Draw2, DrawX, DrawK, DrawOnce, DrawOnceX, DrawLab, Mem2. -/
import Derived.Test.YtgkkeejhfofcaaaHf1
import Derived.Test.YtgkkeejhfofcaaaHf2
import Derived.BigQuiet
import Derived.Deep.QuietTactic
import Derived.Deep.RegionLaw
import Derived.Laws.AppendOwn
import Derived.Laws.OwnMore
import Derived.Maps.Range
import Derived.Test.YtgkkeejhfofcaaaRows
/- The contracts of the model's draws: a cursor over the bytes of a code; each draw is a function of the code and of where the cursor stands. -/
namespace Go.Proofs.Ytgkkeejhfofcaaa
open Go.RowKit
set_option linter.unusedVariables false

/-- the cursor in block B: the code v, how many of its bytes are used, the mixed number -/
def Cur (w : World) (B : Nat) (v : Value) (i : Nat) (h : Int) : Prop := w.heap[B]? = some (.cells #[v, .int .i64 i, .int .i64 h] 139 (0, 0))
/-- the code: a slice of bytes that came in, below block B -/
def CodeIn (w : World) (B : Nat) (a : Option Addr) (cs : List Int) : Prop :=
  ∀ j, j < cs.length → ∃ b off, a = some ⟨b, off, none⟩ ∧ b < B ∧ w.cell? ⟨b, off + j, none⟩ = some (.int .u8 (cs.getD j 0)) ∧ 0 ≤ cs.getD j 0 ∧ cs.getD j 0 < 256

theorem Cur.at0 {w : World} {B : Nat} {v : Value} {i : Nat} {h : Int} (c : Cur w B v i h) : w.cell? ⟨B, 0, none⟩ = some v := by
  unfold Cur at c; simp [World.cell?, c]
theorem Cur.at1 {w : World} {B : Nat} {v : Value} {i : Nat} {h : Int} (c : Cur w B v i h) : w.cell? ⟨B, 1, none⟩ = some (.int .i64 i) := by
  unfold Cur at c; simp [World.cell?, c]
theorem Cur.at2 {w : World} {B : Nat} {v : Value} {i : Nat} {h : Int} (c : Cur w B v i h) : w.cell? ⟨B, 2, none⟩ = some (.int .i64 h) := by
  unfold Cur at c; simp [World.cell?, c]
theorem Cur.free {w : World} {B : Nat} {v : Value} {i : Nat} {h : Int} (c : Cur w B v i h) (o : Nat) : w.frozen? ⟨B, o, none⟩ = false := by
  unfold Cur at c; simp [World.frozen?, c]
theorem Cur.set2 {w : World} {B : Nat} {v : Value} {i : Nat} {h : Int} (c : Cur w B v i h) (h' : Int) : Cur (w.setCell ⟨B, 2, none⟩ (.int .i64 h')) B v i h' := by
  unfold Cur at c ⊢; simp [World.setCell, Array.getElem?_modify, c]
theorem Cur.set1 {w : World} {B : Nat} {v : Value} {i : Nat} {h : Int} (c : Cur w B v i h) (i' : Nat) : Cur (w.setCell ⟨B, 1, none⟩ (.int .i64 i')) B v i' h := by
  unfold Cur at c ⊢; simp [World.setCell, Array.getElem?_modify, c]
theorem Cur.drewN {w : World} {B : Nat} {v : Value} {i : Nat} {h : Int} (c : Cur w B v i h) (n : Nat) : Cur (w.drewN n) B v i h := c

/-- a code: where it lies, its bytes, the slice's capacity -/
structure Code where
  a : Option Addr
  cs : List Int
  cap : Nat
def CurAt (w : World) (B : Nat) (k : Code) (s : Nat × Int) : Prop := Cur w B (.slice k.a k.cs.length k.cap) s.1 s.2 ∧ CodeIn w B k.a k.cs ∧ k.cs.length ≤ 1048576
theorem CodeIn.grown {w w' : World} {B : Nat} {a : Option Addr} {cs : List Int} {r : Option Nat} (h : CodeIn w B a cs) (hg : w.grownBy w' r) (hr : ∀ k, r = some k → B ≤ k) : CodeIn w' B a cs := by
  intro j hj
  obtain ⟨b, off, h1, h2, h3, h4⟩ := h j hj
  refine ⟨b, off, h1, h2, ?_, h4⟩
  have hlt : b < w.heap.size := by
    rcases Nat.lt_or_ge b w.heap.size with h' | h'
    · exact h'
    · simp [World.cell?, Array.getElem?_eq_none h'] at h3
  rw [World.cell?_of_block (w := w) (hg.block b hlt (by intro e; have := hr b e.symm; omega))]
  exact h3
/-- what others do leaves the cursor alone -/
theorem CurAt.kept {w w' : World} {B : Nat} {k : Code} {s : Nat × Int} {r : Option Nat} (h : CurAt w B k s) (hg : w.grownBy w' r) (hr : ∀ g, r = some g → B < g) : CurAt w' B k s := by
  refine ⟨?_, h.2.1.grown hg (fun g hg => Nat.le_of_lt (hr g hg)), h.2.2⟩
  have hc := h.1
  unfold Cur at hc ⊢
  have hlt : B < w.heap.size := by
    rcases Nat.lt_or_ge B w.heap.size with h' | h'
    · exact h'
    · rw [Array.getElem?_eq_none h'] at hc; cases hc
  rw [hg.block B hlt (by intro e; have := hr B e.symm; omega), hc]
theorem CurAt.lt {w : World} {B : Nat} {k : Code} {s : Nat × Int} (h : CurAt w B k s) : B < w.heap.size := by
  have hc := h.1
  unfold Cur at hc
  rcases Nat.lt_or_ge B w.heap.size with h' | h'
  · exact h'
  · rw [Array.getElem?_eq_none h'] at hc; cases hc
theorem CurAt.alloc {w : World} {B : Nat} {k : Code} {s : Nat × Int} (h : CurAt w B k s) (o : Obj) : CurAt (w.alloc o) B k s :=
  h.kept (r := none) ⟨rfl, rfl, rfl, by simp, fun k hk _ => Below.heap_alloc _ _ _ hk⟩ (fun _ h => by cases h)

/-- the next mixed number, and the byte that it gives by itself -/
def Draw.mix (h : Int) : Int := wrap64 (wrap64 (h * 6364136223846793005) + 1442695040888963407)
def Draw.hi (h : Int) : Int := bits .and .i64 (bits .xor .i64 (Draw.mix h / 8589934592) (Draw.mix h / 35184372088832)) 255
theorem Draw.hi_bd (h : Int) : 0 ≤ Draw.hi h ∧ Draw.hi h ≤ 255 := by unfold Draw.hi; rw [Kit.i64_and255]; omega
/-- the next byte of a draw, and where the cursor stands then -/
def Draw.byte (cs : List Int) (s : Nat × Int) : Int × (Nat × Int) :=
  if s.1 < cs.length then (bits .and .i64 (Draw.hi s.2 + cs.getD s.1 0) 255, (s.1 + 1, Draw.mix s.2)) else (Draw.hi s.2, (s.1, Draw.mix s.2))
theorem Draw.byte_bd (cs : List Int) (s : Nat × Int) : 0 ≤ (Draw.byte cs s).1 ∧ (Draw.byte cs s).1 ≤ 255 := by
  unfold Draw.byte; split
  · simp only [Kit.i64_and255]; omega
  · exact Draw.hi_bd _

set_option maxHeartbeats 400000 in
theorem l1Byte_any (w : World) (B : Nat) (k : Code) (s : Nat × Int) (c : CurAt w B k s) :
    Calls Try.prog 147 #[.pointer (some ⟨B, 0, none⟩)] w fun e w' => e = .returned (.int .i64 (Draw.byte k.cs s).1) ∧ CurAt w' B k (Draw.byte k.cs s).2 ∧ w.grownBy w' (some B) := by
  obtain ⟨c, hcode, hlen⟩ := c
  obtain ⟨a, cs, cap⟩ := k
  obtain ⟨i, h⟩ := s
  simp only at c hcode hlen ⊢
  have c0 := c.at0
  have c1 := c.at1
  have c2 := c.at2
  have f1 := c.free 1
  have f2 := c.free 2
  by_cases hi : i < cs.length
  · obtain ⟨b, off, rfl, hbB, hcell, hx0, hx1⟩ := hcode i hi
    have hb : Draw.byte cs (i, h) = (bits .and .i64 (Draw.hi h + cs.getD i 0) 255, (i + 1, Draw.mix h)) := by unfold Draw.byte; rw [if_pos (by exact hi)]
    have Hb := Lib.hid hb
    have hbd := Draw.hi_bd h
    unfold Draw.hi Draw.mix at hbd
    obtain ⟨x, hx⟩ : ∃ x, x = cs.getD i 0 := ⟨_, rfl⟩
    rw [← hx] at hcell hx0 hx1 Hb
    have Hc := Lib.hid c
    have Hcode := Lib.hid hcode
    clear hb hx c hcode
    go_enter Try.func147, Try.ntmps147
    go_wp2
    go_quiet (fail)
    go_wp2
    go_quiet (fail)
    go_wp2
    go_quiet (fail)
    go_wp2
    go_ret
    rw [Hb.out]
    have hg : ∀ r, r = some B → ∀ k, r = some k → B ≤ k := fun r h k hk => by rw [h] at hk; injection hk with hk; omega
    refine ⟨rfl, ⟨((Hc.out.set2 (Draw.mix h)).drewN _).set1 (i + 1), ?_, hlen⟩, ?_⟩
    · refine CodeIn.grown (r := some B) Hcode.out ?_ (hg _ rfl)
      repeat (first | exact Kit.grown_refl _ _ | apply Kit.grown_then_drewN | apply Kit.grown_then_set)
    · repeat (first | exact Kit.grown_refl _ _ | apply Kit.grown_then_drewN | apply Kit.grown_then_set)
  · have hb : Draw.byte cs (i, h) = (Draw.hi h, (i, Draw.mix h)) := by unfold Draw.byte; rw [if_neg (by exact hi)]
    have Hb := Lib.hid hb
    have Hc := Lib.hid c
    have Hcode := Lib.hid hcode
    clear hb c hcode
    go_enter Try.func147, Try.ntmps147
    go_wp2
    go_quiet (fail)
    go_wp2
    go_quiet (fail)
    go_wp2
    go_ret
    rw [Hb.out]
    have hg : ∀ r, r = some B → ∀ k, r = some k → B ≤ k := fun r h k hk => by rw [h] at hk; injection hk with hk; omega
    refine ⟨rfl, ⟨((Hc.out.set2 (Draw.mix h)).drewN _).drewN _, ?_, hlen⟩, ?_⟩
    · refine CodeIn.grown (r := some B) Hcode.out ?_ (hg _ rfl)
      repeat (first | exact Kit.grown_refl _ _ | apply Kit.grown_then_drewN | apply Kit.grown_then_set)
    · repeat (first | exact Kit.grown_refl _ _ | apply Kit.grown_then_drewN | apply Kit.grown_then_set)

/-- a number from 0 to n-1 -/
def Draw.below (cs : List Int) (n : Int) (s : Nat × Int) : Int × (Nat × Int) :=
  if n ≤ 0 then (0, s) else if n ≤ 256 then ((Draw.byte cs s).1 % n, (Draw.byte cs s).2) else
    let x := Draw.byte cs s
    let y := Draw.byte cs x.2
    let z := Draw.byte cs y.2
    let t := Draw.byte cs z.2
    ((x.1 * 16777216 + y.1 * 65536 + z.1 * 256 + t.1) % n, t.2)
theorem Draw.below_bd (cs : List Int) (n : Int) (s : Nat × Int) (hn : 0 < n) : 0 ≤ (Draw.below cs n s).1 ∧ (Draw.below cs n s).1 < n := by
  unfold Draw.below
  rw [if_neg (by omega)]
  split
  · exact ⟨Int.emod_nonneg _ (by omega), Int.emod_lt_of_pos _ hn⟩
  · exact ⟨Int.emod_nonneg _ (by omega), Int.emod_lt_of_pos _ hn⟩
theorem Draw.below_zero (cs : List Int) (n : Int) (s : Nat × Int) (hn : n ≤ 0) : Draw.below cs n s = (0, s) := by unfold Draw.below; rw [if_pos hn]

set_option maxHeartbeats 400000 in
theorem l1Below_any (w : World) (B : Nat) (k : Code) (n : Int) (s : Nat × Int) (c : CurAt w B k s) :
    Calls Try.prog 110 #[.pointer (some ⟨B, 0, none⟩), .int .i64 n] w fun e w' => e = .returned (.int .i64 (Draw.below k.cs n s).1) ∧ CurAt w' B k (Draw.below k.cs n s).2 ∧ w.grownBy w' (some B) := by
  have Hc := Lib.hid c
  clear c
  by_cases h0 : n ≤ 0
  · have Hb := Lib.hid (Draw.below_zero k.cs n s h0)
    go_enter Try.func110, Try.ntmps110
    go_wp2
    go_ret
    rw [Hb.out]
    exact ⟨rfl, Hc.out, Kit.grown_refl _ _⟩
  · by_cases h256 : n ≤ 256
    · have hb : Draw.below k.cs n s = ((Draw.byte k.cs s).1 % n, (Draw.byte k.cs s).2) := by unfold Draw.below; rw [if_neg h0, if_pos h256]
      have Hb := Lib.hid hb
      clear hb
      have hbd := Draw.byte_bd k.cs s
      go_enter Try.func110, Try.ntmps110
      go_wp2_with fail
      refine (l1Byte_any _ B k s Hc.out).mono ?_
      rintro e w1 ⟨rfl, c1, g1⟩
      have C1 := Lib.hid c1
      clear c1
      go_wp2
      go_ret
      rw [Hb.out]
      exact ⟨rfl, C1.out, g1⟩
    · obtain ⟨X, hX⟩ : ∃ X, X = Draw.byte k.cs s := ⟨_, rfl⟩
      obtain ⟨Y, hY⟩ : ∃ Y, Y = Draw.byte k.cs X.2 := ⟨_, rfl⟩
      obtain ⟨Z, hZ⟩ : ∃ Z, Z = Draw.byte k.cs Y.2 := ⟨_, rfl⟩
      obtain ⟨T, hT⟩ : ∃ T, T = Draw.byte k.cs Z.2 := ⟨_, rfl⟩
      have hb : Draw.below k.cs n s = ((X.1 * 16777216 + Y.1 * 65536 + Z.1 * 256 + T.1) % n, T.2) := by
        subst hT hZ hY hX
        unfold Draw.below; rw [if_neg h0, if_neg h256]
      have Hb := Lib.hid hb
      have bX := Draw.byte_bd k.cs s
      have bY := Draw.byte_bd k.cs X.2
      have bZ := Draw.byte_bd k.cs Y.2
      have bT := Draw.byte_bd k.cs Z.2
      rw [← hX] at bX
      rw [← hY] at bY
      rw [← hZ] at bZ
      rw [← hT] at bT
      have HX := Lib.hid hX
      have HY := Lib.hid hY
      have HZ := Lib.hid hZ
      have HT := Lib.hid hT
      clear hX hY hZ hT hb
      go_enter Try.func110, Try.ntmps110
      go_wp2_with fail
      refine (l1Byte_any _ B k s Hc.out).mono ?_
      rintro e w1 ⟨rfl, c1, g1⟩
      rw [← HX.out] at c1 ⊢
      have C1 := Lib.hid c1
      clear c1
      go_wp2_with fail
      refine (l1Byte_any _ B k X.2 C1.out).mono ?_
      rintro e w2 ⟨rfl, c2, g2⟩
      rw [← HY.out] at c2 ⊢
      have C2 := Lib.hid c2
      clear c2
      go_wp2_with fail
      refine (l1Byte_any _ B k Y.2 C2.out).mono ?_
      rintro e w3 ⟨rfl, c3, g3⟩
      rw [← HZ.out] at c3 ⊢
      have C3 := Lib.hid c3
      clear c3
      go_wp2_with fail
      refine (l1Byte_any _ B k Z.2 C3.out).mono ?_
      rintro e w4 ⟨rfl, c4, g4⟩
      rw [← HT.out] at c4 ⊢
      have C4 := Lib.hid c4
      clear c4
      go_wp2
      go_ret
      rw [Hb.out]
      exact ⟨rfl, C4.out, Kit.grown_trans g1 (Kit.grown_trans g2 (Kit.grown_trans g3 g4))⟩

end Go.Proofs.Ytgkkeejhfofcaaa

/- More draws of the model: a new cursor, a number, a text. -/
namespace Go.Proofs.Ytgkkeejhfofcaaa
open Go.RowKit
set_option linter.unusedVariables false

theorem Kit.i64_and30 (n : Int) : bits .and .i64 n 1073741823 = n % 1073741824 := by
  have h255 : (BitVec.ofInt 64 1073741823).toNat = 2 ^ 30 - 1 := by decide
  have key : (BitVec.ofInt 64 n &&& BitVec.ofInt 64 1073741823).toNat = (n % ((2 ^ 64 : Nat) : Int)).toNat % 2 ^ 30 := by
    rw [BitVec.toNat_and, BitVec.toNat_ofInt, h255, Nat.and_two_pow_sub_one_eq_mod]
  show IntKind.i64.wrap ((BitVec.ofInt 64 n &&& BitVec.ofInt 64 1073741823).toNat : Nat) = n % 1073741824
  rw [key, IntKind.wrap_i64]
  omega

def Draw.newStep (h x : Int) : Int := (h * 131 + x + 7) % 1073741824
/-- the mixed number with which a cursor begins -/
def Draw.newH (cs : List Int) (m : Nat) : Int := (cs.take m).foldl Draw.newStep (10101 + cs.length)
theorem Draw.newH_succ (cs : List Int) (m : Nat) (h : m < cs.length) : Draw.newH cs (m + 1) = Draw.newStep (Draw.newH cs m) (cs.getD m 0) := by
  unfold Draw.newH
  rw [List.take_succ_eq_append_getElem h, List.foldl_append]
  simp [List.getD, h]
theorem Draw.newH_bd (cs : List Int) (m : Nat) (h : cs.length ≤ 1048576) : 0 ≤ Draw.newH cs m ∧ Draw.newH cs m < 1073741824 := by
  unfold Draw.newH
  have key : ∀ (l : List Int) (a : Int), 0 ≤ a ∧ a < 1073741824 → 0 ≤ l.foldl Draw.newStep a ∧ l.foldl Draw.newStep a < 1073741824 := by
    intro l
    induction l with
    | nil => intro a h; exact h
    | cons x l ih => intro a h; exact ih _ (by unfold Draw.newStep; omega)
  exact key _ _ (by omega)
theorem Draw.newH_min (cs : List Int) (m : Nat) (hm : m ≤ 4000) (h : m = 4000 ∨ cs.length ≤ m) : Draw.newH cs m = Draw.newH cs 4000 := by
  rcases h with rfl | h
  · rfl
  · unfold Draw.newH; rw [List.take_of_length_le h, List.take_of_length_le (by omega)]
def Draw.start (cs : List Int) : Nat × Int := (0, Draw.newH cs 4000)

set_option maxHeartbeats 400000 in
set_option maxRecDepth 100000 in
theorem l1New_any (w : World) (k : Code) (hcode : CodeIn w w.heap.size k.a k.cs) (hlen : k.cs.length ≤ 1048576) :
    Calls Try.prog 50 #[.slice k.a k.cs.length k.cap] w fun e w' => e = .returned (.pointer (some ⟨w.heap.size, 0, none⟩)) ∧ CurAt w' w.heap.size k (Draw.start k.cs) ∧ w.grownBy w' none := by
  obtain ⟨a, cs, cap⟩ := k
  simp only at hcode hlen ⊢
  have Hcode := Lib.hid hcode
  clear hcode
  go_enter Try.func50, Try.ntmps50
  go_wp2
  go_loop [3, 4] (fun hv iv => ∃ m : Nat, (m : Int) ≤ 4000 ∧ m ≤ cs.length ∧ iv = .int .i64 m ∧ hv = .int .i64 (Draw.newH cs m)) (fun _ i => 4000 - (intOf i).toNat)
  case atStart => exact ⟨0, by omega, by omega, rfl, rfl⟩
  case round =>
    obtain ⟨m, hm1, hm2, rfl, rfl⟩ := hrel
    obtain ⟨b0, b1⟩ := Draw.newH_bd cs m hlen
    by_cases hlt : m < cs.length
    · by_cases hlt4 : (m : Int) < 4000
      · obtain ⟨b, off, rfl, hbB, hcell, hx0, hx1⟩ := Hcode.out m hlt
        have Hs := Lib.hid (Draw.newH_succ cs m hlt)
        obtain ⟨x, hx⟩ : ∃ x, x = cs.getD m 0 := ⟨_, rfl⟩
        rw [← hx] at hcell hx0 hx1 Hs
        clear hx
        have hand := Kit.i64_and30 (Draw.newH cs m * 131 + x + 7)
        go_wp2
        go_round
        case rel => exact ⟨m + 1, by omega, by omega, by go_num, by rw [Hs.out]; rfl⟩
        case measure => simp [intOf]; omega
      · have Hm := Lib.hid (Draw.newH_min cs m (by omega) (Or.inl (by omega)))
        go_wp2
        go_ret
        refine ⟨rfl, ⟨?_, ?_, hlen⟩, ?_⟩
        · unfold Cur Draw.start
          rw [← Hm.out]
          exact heap_alloc_new w _
        · intro j hj
          obtain ⟨b, off, h1, h2, h3, h4⟩ := Hcode.out j hj
          exact ⟨b, off, h1, h2, by rw [World.cell?_of_block (w := w) (Below.heap_alloc _ _ _ h2)]; exact h3, h4⟩
        · exact ⟨rfl, rfl, rfl, by simp, fun k hk _ => Below.heap_alloc _ _ _ hk⟩
    · have Hm := Lib.hid (Draw.newH_min cs m (by omega) (Or.inr (by omega)))
      go_wp2
      go_ret
      refine ⟨rfl, ⟨?_, ?_, hlen⟩, ?_⟩
      · unfold Cur Draw.start
        rw [← Hm.out]
        exact heap_alloc_new w _
      · intro j hj
        obtain ⟨b, off, h1, h2, h3, h4⟩ := Hcode.out j hj
        exact ⟨b, off, h1, h2, by rw [World.cell?_of_block (w := w) (Below.heap_alloc _ _ _ h2)]; exact h3, h4⟩
      · exact ⟨rfl, rfl, rfl, by simp, fun k hk _ => Below.heap_alloc _ _ _ hk⟩

set_option maxHeartbeats 400000 in
theorem l1PickInt_any (w : World) (B g : Nat) (k : Code) (s : Nat × Int) (c : CurAt w B k s) (xs : List Int) (n : Nat) (hn : n = xs.length) (hpos : 0 < (n : Int)) (hn2 : (n : Int) ≤ 1000) (hg : B < g) (hg2 : g < w.heap.size)
    (hcells : ∀ j, j < xs.length → w.cell? ⟨g, j, none⟩ = some (.int .i64 (xs.getD j 0))) :
    Calls Try.prog 112 #[.pointer (some ⟨B, 0, none⟩), .slice (some ⟨g, 0, none⟩) n n] w fun e w' => e = .returned (.int .i64 (xs.getD (Draw.below k.cs n s).1.toNat 0)) ∧ CurAt w' B k (Draw.below k.cs n s).2 ∧ w.grownBy w' (some B) := by
  have Hcells := Lib.hid hcells
  have Hn := Lib.hid hn
  clear hcells hn
  obtain ⟨d0, d1⟩ := Draw.below_bd k.cs n s hpos
  go_enter Try.func112, Try.ntmps112
  go_wp2_with fail
  refine (l1Below_any _ B k n s c).mono ?_
  rintro e w1 ⟨rfl, c1, g1⟩
  have C1 := Lib.hid c1
  obtain ⟨D, hD⟩ : ∃ D : Nat, (D : Int) = (Draw.below k.cs n s).1 := ⟨_, Int.toNat_of_nonneg d0⟩
  rw [← hD] at d1 ⊢
  have hcell : w1.cell? ⟨g, D, none⟩ = some (.int .i64 (xs.getD D 0)) := by
    rw [World.cell?_of_block (w := w) (g1.block g hg2 (by intro e; injection e with e; omega))]
    exact Hcells.out D (by have := Hn.out; omega)
  have HD := Lib.hid hD
  clear hD c1 c
  go_wp2
  go_ret
  exact ⟨by rw [← HD.out]; simp, C1.out, g1⟩

end Go.Proofs.Ytgkkeejhfofcaaa

/- Contracts (DrawX). -/
namespace Go.Proofs.Ytgkkeejhfofcaaa
open Go.RowKit
set_option linter.unusedVariables false

/-- the cursor stands somewhere -/
def CurX (w : World) (B : Nat) (k : Code) : Prop := ∃ s, CurAt w B k s
theorem CurX.lt {w : World} {B : Nat} {k : Code} (h : CurX w B k) : B < w.heap.size := by obtain ⟨s, h⟩ := h; exact h.lt
theorem CurX.alloc {w : World} {B : Nat} {k : Code} (h : CurX w B k) (o : Obj) : CurX (w.alloc o) B k := by obtain ⟨s, h⟩ := h; exact ⟨s, h.alloc o⟩
theorem CurX.drewN {w : World} {B : Nat} {k : Code} (h : CurX w B k) (n : Nat) : CurX (w.drewN n) B k := h
theorem CurX.kept {w w' : World} {B : Nat} {k : Code} {r : Option Nat} (h : CurX w B k) (hg : w.grownBy w' r) (hr : ∀ g, r = some g → B < g) : CurX w' B k := by obtain ⟨s, h⟩ := h; exact ⟨s, h.kept hg hr⟩
theorem l1New_ex (w : World) (k : Code) (hcode : CodeIn w w.heap.size k.a k.cs) (hlen : k.cs.length ≤ 1048576) :
    Calls Try.prog 50 #[.slice k.a k.cs.length k.cap] w fun e w' => e = .returned (.pointer (some ⟨w.heap.size, 0, none⟩)) ∧ CurX w' w.heap.size k ∧ w.grownBy w' none :=
  (l1New_any w k hcode hlen).mono fun e w' ⟨h1, h2, h3⟩ => ⟨h1, ⟨_, h2⟩, h3⟩
theorem l1Below_ex (w : World) (B : Nat) (k : Code) (n : Int) (c : CurX w B k) :
    Calls Try.prog 110 #[.pointer (some ⟨B, 0, none⟩), .int .i64 n] w fun e w' => ∃ v : Nat, e = .returned (.int .i64 v) ∧ ((v : Int) < n ∨ v = 0) ∧ CurX w' B k ∧ w.grownBy w' (some B) := by
  obtain ⟨s, c⟩ := c
  refine (l1Below_any w B k n s c).mono fun e w' ⟨h1, h2, h3⟩ => ?_
  by_cases hn : n ≤ 0
  · exact ⟨0, by rw [h1, Draw.below_zero _ _ _ hn]; rfl, .inr rfl, ⟨_, h2⟩, h3⟩
  · have hb := Draw.below_bd k.cs n s (by omega)
    obtain ⟨v, hv⟩ := Int.eq_ofNat_of_zero_le hb.1
    exact ⟨v, by rw [h1, hv], .inl (by omega), ⟨_, h2⟩, h3⟩
theorem l1PickInt_ex (w : World) (B g : Nat) (k : Code) (c : CurX w B k) (xs : List Int) (n : Nat) (hn : n = xs.length) (hpos : 0 < (n : Int)) (hn2 : (n : Int) ≤ 1000) (hg : B < g) (hg2 : g < w.heap.size)
    (hcells : ∀ j, j < xs.length → w.cell? ⟨g, j, none⟩ = some (.int .i64 (xs.getD j 0))) :
    Calls Try.prog 112 #[.pointer (some ⟨B, 0, none⟩), .slice (some ⟨g, 0, none⟩) n n] w fun e w' => ∃ v : Int, e = .returned (.int .i64 v) ∧ CurX w' B k ∧ w.grownBy w' (some B) := by
  obtain ⟨s, c⟩ := c
  exact (l1PickInt_any w B g k s c xs n hn hpos hn2 hg hg2 hcells).mono fun e w' ⟨h1, h2, h3⟩ => ⟨_, h1, ⟨_, h2⟩, h3⟩

end Go.Proofs.Ytgkkeejhfofcaaa

/- Draws: what a call that moves the cursor leaves of rows of the caller's own. -/
namespace Go.Proofs.Ytgkkeejhfofcaaa
open Go.RowKit
set_option linter.unusedVariables false

theorem Kit.grown_alloc (w : World) (o : Obj) (r : Option Nat) : w.grownBy (w.alloc o) r := ⟨rfl, rfl, rfl, by simp, fun k hk _ => Below.heap_alloc _ _ _ hk⟩
theorem Kit.keptRow {w w' : World} {base e n size B : Nat} {v : Value} {xs : List Value} (h : w.ownsRow base e size v n xs) (hB : B < base) (hg : w.grownBy w' (some B)) : w'.ownsRow base e size v n xs := by
  refine h.kept hg (Or.inr ?_)
  intro he
  have := h.lt B (by rw [he])
  omega
/-- what an append of the call's own leaves, seen from the call's beginning -/
theorem Kit.grown_own {w0 wr w1 : World} {B base e n size : Nat} {o : Obj} {v : Value} {xs : List Value} (hg : w0.grownBy wr (some B)) (hb : w0.heap.size ≤ base) (hown : wr.ownsRow base e size v n xs)
    (h : (wr.alloc o).grownBy w1 v.ownBlock) : w0.grownBy w1 (some B) := by
  have h1 : w0.grownBy (wr.alloc o) (some B) := Kit.grown_trans hg ⟨rfl, rfl, rfl, by simp, fun k hk _ => Below.heap_alloc _ _ _ hk⟩
  exact h1.andThen h (fun j hj => Or.inl (by have := (hown.lt j hj).1; omega))

end Go.Proofs.Ytgkkeejhfofcaaa

/- A draw of one in n. -/
namespace Go.Proofs.Ytgkkeejhfofcaaa
open Go.RowKit
set_option linter.unusedVariables false

set_option maxHeartbeats 400000 in
theorem l1Once_any (w : World) (B : Nat) (k : Code) (n : Int) (s : Nat × Int) (c : CurAt w B k s) :
    Calls Try.prog 52 #[.pointer (some ⟨B, 0, none⟩), .int .i64 n] w fun e w' => e = .returned (.bool ((Draw.below k.cs n s).1 == 0)) ∧ CurAt w' B k (Draw.below k.cs n s).2 ∧ w.grownBy w' (some B) := by
  go_enter Try.func52, Try.ntmps52
  go_wp2_with fail
  refine (l1Below_any _ B k n s c).mono ?_
  rintro e w1 ⟨rfl, c1, g1⟩
  have C1 := Lib.hid c1
  clear c1 c
  go_wp2
  go_ret
  exact ⟨rfl, C1.out, g1⟩

end Go.Proofs.Ytgkkeejhfofcaaa

/- A draw of one in n, wherever the cursor stands. -/
namespace Go.Proofs.Ytgkkeejhfofcaaa
open Go.RowKit
set_option linter.unusedVariables false

theorem l1Once_ex (w : World) (B : Nat) (k : Code) (n : Int) (c : CurX w B k) :
    Calls Try.prog 52 #[.pointer (some ⟨B, 0, none⟩), .int .i64 n] w fun e w' => ∃ b : Bool, e = .returned (.bool b) ∧ CurX w' B k ∧ w.grownBy w' (some B) := by
  obtain ⟨s, c⟩ := c
  exact (l1Once_any w B k n s c).mono fun e w' ⟨h1, h2, h3⟩ => ⟨_, h1, ⟨_, h2⟩, h3⟩

end Go.Proofs.Ytgkkeejhfofcaaa

/- A draw of a label. -/
namespace Go.Proofs.Ytgkkeejhfofcaaa
open Go.RowKit
set_option linter.unusedVariables false

set_option maxHeartbeats 400000 in
theorem l2Label_ex (w : World) (B : Nat) (k : Code) (c : CurX w B k) :
    Calls Try.prog 113 #[.pointer (some ⟨B, 0, none⟩)] w fun e w' => ∃ v : Nat, e = .returned (.int .i64 v) ∧ CurX w' B k ∧ w.grownBy w' (some B) := by
  have Hc := Lib.hid c
  clear c
  go_enter Try.func113, Try.ntmps113
  go_wp2_with fail
  refine (l1Below_ex _ B k 4 Hc.out).mono ?_
  rintro e w1 ⟨v, rfl, _, c1, g1⟩
  go_wp2
  go_ret
  exact ⟨v, rfl, c1, g1⟩

end Go.Proofs.Ytgkkeejhfofcaaa

/- Contracts (Mem2). -/
namespace Go.Proofs.Ytgkkeejhfofcaaa
open Go.RowKit
set_option linter.unusedVariables false

theorem append_node {P : Program} (w : World) {ops : Array Oper} {rest : List Oper} {o : Oper} {a : Act} {Q : Exit → Act → World → Prop} (hgd : o.guard = none) (s x : Operand) (t : TypeId)
    (ho : o.op = .call { callee := .builtin .append, args := #[s, x], argTypes := #[t, t] })
    (base : Nat) (e : TypeId) (i : TypeInfo) (ht : P.underlying t = some (.slice e)) (hi : P.info? e = some i) (hz : i.zero = some (.agg #[.int .i64 0, .int .i64 0]))
    (hsize : i.size = 2) (hby : i.bytes = 16) (v : Value) (n : Nat) (l : Tr) (hs : a.eval s = v) (hown : w.ownsRow base e 2 v n (Tr.cells l)) (hn : n = l.length)
    (b1 b2 : Int) (hx : a.eval x = .slice (some ⟨w.heap.size, 0, none⟩) 1 1)
    (h63 : l.length + 1 ≤ 1073741824) (hbase : base ≤ w.heap.size)
    (h : ∀ v' w', w'.ownsRow base e 2 v' (l ++ [(b1, b2)]).length (Tr.cells (l ++ [(b1, b2)])) → (w.alloc (.cells #[.int .i64 b1, .int .i64 b2] e)).grownBy w' v.ownBlock → wpList P ops Q rest (a.put o.dst v') w') :
    wpList P ops Q (o :: rest) a (w.alloc (.cells #[.int .i64 b1, .int .i64 b2] e)) := by
  subst hn
  refine wpList_append_own _ hgd s x t ho base e i (.agg #[.int .i64 0, .int .i64 0]) 2 16 ht hi hz hsize hby rfl (by decide) v l.length (Tr.cells l) hs (hown.alloc _) ⟨w.heap.size, 0, none⟩ 1 1 (Tr.cells [(b1, b2)]) hx (by simp [Tr.cells]) ?_ (Tr.cells_cell _) (by unfold maxLen; omega) (by omega) (by simp; omega) ?_
  · intro j u hj
    have hj2 : j < 2 := by
      have := (List.getElem?_eq_some_iff.1 hj).1
      simpa [Tr.cells] using this
    have : j = 0 ∨ j = 1 := by omega
    rcases this with rfl | rfl <;> (simp [Tr.cells] at hj; subst hj; simp [Addr.add])
  · intro v' w' h2 h3 _
    refine h v' w' ?_ h3
    rw [Tr.cells_append, List.length_append]
    exact h2

end Go.Proofs.Ytgkkeejhfofcaaa
