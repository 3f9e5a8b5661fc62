/- Texts of one claim laid into one file, in build order: DisI. -/
import Derived.Test.YtgkkeejhfofcaaaHd30
import Derived.Deep.RegionHeld3
import Derived.StillTailTactics
/- Contracts (DisI). -/
namespace Go.Proofs.Ytgkkeejhfofcaaa
open Go.RowKit
set_option linter.unusedVariables false

/-- dist of ranges that hold fewer than s places together -/
def SaysD (D : D10) (xs ys : Tr) (k : Co) (s : Nat) : Prop :=
  ∀ (i j p q : Nat) (w : World), i ≤ j → j ≤ xs.length → p ≤ q → q ≤ ys.length → (j - i) + (q - p) < s → PT D xs ys k w →
    Calls Try.prog 162 #[.pointer (some ⟨D.g, 0, none⟩), (.agg #[.int .i64 (i : Int), .int .i64 (j : Int), .int .i64 (p : Int), .int .i64 (q : Int)])] w fun e w' => e = .returned (.int .i64 (RR xs ys k i j p q)) ∧ PG D xs ys k w w'
section
variable {D : D10} {xs ys : Tr} {k : Co} {w0 wx wy : World} {b0 b1 b2 i j p q P Q j1 q1 : Nat}
theorem r8_pg (h : (wx.cell? ⟨b0, 0, none⟩ = some (.int .i64 (i : Int)) ∧ wx.cell? ⟨b0, 1, none⟩ = some (.int .i64 (j : Int)) ∧ wx.cell? ⟨b0, 2, none⟩ = some (.int .i64 (p : Int)) ∧ wx.cell? ⟨b0, 3, none⟩ = some (.int .i64 (q : Int))) ∧ (wx.cell? ⟨b1, 0, none⟩ = some (.int .i64 (i : Int)) ∧ wx.cell? ⟨b1, 1, none⟩ = some (.int .i64 (P : Int)) ∧ wx.cell? ⟨b1, 2, none⟩ = some (.int .i64 (p : Int)) ∧ wx.cell? ⟨b1, 3, none⟩ = some (.int .i64 (Q : Int))) ∧ (wx.cell? ⟨b2, 0, none⟩ = some (.int .i64 (P : Int)) ∧ wx.cell? ⟨b2, 1, none⟩ = some (.int .i64 (j1 : Int)) ∧ wx.cell? ⟨b2, 2, none⟩ = some (.int .i64 (Q : Int)) ∧ wx.cell? ⟨b2, 3, none⟩ = some (.int .i64 (q1 : Int))) ∧ PG D xs ys k w0 wx) : PG D xs ys k w0 wx := h.2.2.2
theorem r8_pt (h : (wx.cell? ⟨b0, 0, none⟩ = some (.int .i64 (i : Int)) ∧ wx.cell? ⟨b0, 1, none⟩ = some (.int .i64 (j : Int)) ∧ wx.cell? ⟨b0, 2, none⟩ = some (.int .i64 (p : Int)) ∧ wx.cell? ⟨b0, 3, none⟩ = some (.int .i64 (q : Int))) ∧ (wx.cell? ⟨b1, 0, none⟩ = some (.int .i64 (i : Int)) ∧ wx.cell? ⟨b1, 1, none⟩ = some (.int .i64 (P : Int)) ∧ wx.cell? ⟨b1, 2, none⟩ = some (.int .i64 (p : Int)) ∧ wx.cell? ⟨b1, 3, none⟩ = some (.int .i64 (Q : Int))) ∧ (wx.cell? ⟨b2, 0, none⟩ = some (.int .i64 (P : Int)) ∧ wx.cell? ⟨b2, 1, none⟩ = some (.int .i64 (j1 : Int)) ∧ wx.cell? ⟨b2, 2, none⟩ = some (.int .i64 (Q : Int)) ∧ wx.cell? ⟨b2, 3, none⟩ = some (.int .i64 (q1 : Int))) ∧ PG D xs ys k w0 wx) : PT D xs ys k wx := h.2.2.2.1
theorem r8_next (h : (wx.cell? ⟨b0, 0, none⟩ = some (.int .i64 (i : Int)) ∧ wx.cell? ⟨b0, 1, none⟩ = some (.int .i64 (j : Int)) ∧ wx.cell? ⟨b0, 2, none⟩ = some (.int .i64 (p : Int)) ∧ wx.cell? ⟨b0, 3, none⟩ = some (.int .i64 (q : Int))) ∧ (wx.cell? ⟨b1, 0, none⟩ = some (.int .i64 (i : Int)) ∧ wx.cell? ⟨b1, 1, none⟩ = some (.int .i64 (P : Int)) ∧ wx.cell? ⟨b1, 2, none⟩ = some (.int .i64 (p : Int)) ∧ wx.cell? ⟨b1, 3, none⟩ = some (.int .i64 (Q : Int))) ∧ (wx.cell? ⟨b2, 0, none⟩ = some (.int .i64 (P : Int)) ∧ wx.cell? ⟨b2, 1, none⟩ = some (.int .i64 (j1 : Int)) ∧ wx.cell? ⟨b2, 2, none⟩ = some (.int .i64 (Q : Int)) ∧ wx.cell? ⟨b2, 3, none⟩ = some (.int .i64 (q1 : Int))) ∧ PG D xs ys k w0 wx) (h' : PG D xs ys k wx wy) : (wy.cell? ⟨b0, 0, none⟩ = some (.int .i64 (i : Int)) ∧ wy.cell? ⟨b0, 1, none⟩ = some (.int .i64 (j : Int)) ∧ wy.cell? ⟨b0, 2, none⟩ = some (.int .i64 (p : Int)) ∧ wy.cell? ⟨b0, 3, none⟩ = some (.int .i64 (q : Int))) ∧ (wy.cell? ⟨b1, 0, none⟩ = some (.int .i64 (i : Int)) ∧ wy.cell? ⟨b1, 1, none⟩ = some (.int .i64 (P : Int)) ∧ wy.cell? ⟨b1, 2, none⟩ = some (.int .i64 (p : Int)) ∧ wy.cell? ⟨b1, 3, none⟩ = some (.int .i64 (Q : Int))) ∧ (wy.cell? ⟨b2, 0, none⟩ = some (.int .i64 (P : Int)) ∧ wy.cell? ⟨b2, 1, none⟩ = some (.int .i64 (j1 : Int)) ∧ wy.cell? ⟨b2, 2, none⟩ = some (.int .i64 (Q : Int)) ∧ wy.cell? ⟨b2, 3, none⟩ = some (.int .i64 (q1 : Int))) ∧ PG D xs ys k w0 wy :=
  ⟨Bx4.pg h.1 h.2.2.2.1 h', Bx4.pg h.2.1 h.2.2.2.1 h', Bx4.pg h.2.2.1 h.2.2.2.1 h', h.2.2.2.next h'⟩
theorem r8_below (h : (wx.cell? ⟨b0, 0, none⟩ = some (.int .i64 (i : Int)) ∧ wx.cell? ⟨b0, 1, none⟩ = some (.int .i64 (j : Int)) ∧ wx.cell? ⟨b0, 2, none⟩ = some (.int .i64 (p : Int)) ∧ wx.cell? ⟨b0, 3, none⟩ = some (.int .i64 (q : Int))) ∧ (wx.cell? ⟨b1, 0, none⟩ = some (.int .i64 (i : Int)) ∧ wx.cell? ⟨b1, 1, none⟩ = some (.int .i64 (P : Int)) ∧ wx.cell? ⟨b1, 2, none⟩ = some (.int .i64 (p : Int)) ∧ wx.cell? ⟨b1, 3, none⟩ = some (.int .i64 (Q : Int))) ∧ (wx.cell? ⟨b2, 0, none⟩ = some (.int .i64 (P : Int)) ∧ wx.cell? ⟨b2, 1, none⟩ = some (.int .i64 (j1 : Int)) ∧ wx.cell? ⟨b2, 2, none⟩ = some (.int .i64 (Q : Int)) ∧ wx.cell? ⟨b2, 3, none⟩ = some (.int .i64 (q1 : Int))) ∧ PG D xs ys k w0 wx) (hb : Below wx.heap.size wx wy) : (wy.cell? ⟨b0, 0, none⟩ = some (.int .i64 (i : Int)) ∧ wy.cell? ⟨b0, 1, none⟩ = some (.int .i64 (j : Int)) ∧ wy.cell? ⟨b0, 2, none⟩ = some (.int .i64 (p : Int)) ∧ wy.cell? ⟨b0, 3, none⟩ = some (.int .i64 (q : Int))) ∧ (wy.cell? ⟨b1, 0, none⟩ = some (.int .i64 (i : Int)) ∧ wy.cell? ⟨b1, 1, none⟩ = some (.int .i64 (P : Int)) ∧ wy.cell? ⟨b1, 2, none⟩ = some (.int .i64 (p : Int)) ∧ wy.cell? ⟨b1, 3, none⟩ = some (.int .i64 (Q : Int))) ∧ (wy.cell? ⟨b2, 0, none⟩ = some (.int .i64 (P : Int)) ∧ wy.cell? ⟨b2, 1, none⟩ = some (.int .i64 (j1 : Int)) ∧ wy.cell? ⟨b2, 2, none⟩ = some (.int .i64 (Q : Int)) ∧ wy.cell? ⟨b2, 3, none⟩ = some (.int .i64 (q1 : Int))) ∧ PG D xs ys k w0 wy := r8_next h ((PG.refl h.2.2.2.1).below hb)
theorem r8_drawn (h : (wx.cell? ⟨b0, 0, none⟩ = some (.int .i64 (i : Int)) ∧ wx.cell? ⟨b0, 1, none⟩ = some (.int .i64 (j : Int)) ∧ wx.cell? ⟨b0, 2, none⟩ = some (.int .i64 (p : Int)) ∧ wx.cell? ⟨b0, 3, none⟩ = some (.int .i64 (q : Int))) ∧ (wx.cell? ⟨b1, 0, none⟩ = some (.int .i64 (i : Int)) ∧ wx.cell? ⟨b1, 1, none⟩ = some (.int .i64 (P : Int)) ∧ wx.cell? ⟨b1, 2, none⟩ = some (.int .i64 (p : Int)) ∧ wx.cell? ⟨b1, 3, none⟩ = some (.int .i64 (Q : Int))) ∧ (wx.cell? ⟨b2, 0, none⟩ = some (.int .i64 (P : Int)) ∧ wx.cell? ⟨b2, 1, none⟩ = some (.int .i64 (j1 : Int)) ∧ wx.cell? ⟨b2, 2, none⟩ = some (.int .i64 (Q : Int)) ∧ wx.cell? ⟨b2, 3, none⟩ = some (.int .i64 (q1 : Int))) ∧ PG D xs ys k w0 wx) (hd : Drawn wx wy) : (wy.cell? ⟨b0, 0, none⟩ = some (.int .i64 (i : Int)) ∧ wy.cell? ⟨b0, 1, none⟩ = some (.int .i64 (j : Int)) ∧ wy.cell? ⟨b0, 2, none⟩ = some (.int .i64 (p : Int)) ∧ wy.cell? ⟨b0, 3, none⟩ = some (.int .i64 (q : Int))) ∧ (wy.cell? ⟨b1, 0, none⟩ = some (.int .i64 (i : Int)) ∧ wy.cell? ⟨b1, 1, none⟩ = some (.int .i64 (P : Int)) ∧ wy.cell? ⟨b1, 2, none⟩ = some (.int .i64 (p : Int)) ∧ wy.cell? ⟨b1, 3, none⟩ = some (.int .i64 (Q : Int))) ∧ (wy.cell? ⟨b2, 0, none⟩ = some (.int .i64 (P : Int)) ∧ wy.cell? ⟨b2, 1, none⟩ = some (.int .i64 (j1 : Int)) ∧ wy.cell? ⟨b2, 2, none⟩ = some (.int .i64 (Q : Int)) ∧ wy.cell? ⟨b2, 3, none⟩ = some (.int .i64 (q1 : Int))) ∧ PG D xs ys k w0 wy := r8_below h hd.toBelow
end
set_option maxHeartbeats 800000 in
set_option maxRecDepth 100000 in
theorem dist_none (D : D10) (xs ys : Tr) (k : Co) (hx : Tr.ok xs = true) (hy : Tr.ok ys = true) (hk : Co.ok k = true) (i j p q : Nat) (w : World) (hij : i ≤ j) (hj : j ≤ xs.length) (hpq : p ≤ q) (hq : q ≤ ys.length) (h : PT D xs ys k w) (he : i = j) :
    Calls Try.prog 162 #[.pointer (some ⟨D.g, 0, none⟩), (.agg #[.int .i64 (i : Int), .int .i64 (j : Int), .int .i64 (p : Int), .int .i64 (q : Int)])] w fun e w' => e = .returned (.int .i64 (RR xs ys k i j p q)) ∧ PG D xs ys k w w' := by
  obtain ⟨w1, hw1⟩ : ∃ w1, w1 = w.alloc (.cells #[.int .i64 (i : Int), .int .i64 (j : Int), .int .i64 (p : Int), .int .i64 (q : Int)] 105) := ⟨_, rfl⟩
  have hb1 : Below w.heap.size w w1 := by rw [hw1]; exact (Below.refl _ _).alloc (Nat.le_refl _) _
  have hB := (show Bx4 w1 w.heap.size i j p q by rw [hw1]; exact Bx4.made _ _ _ _ _ _)
  have G1 := Lib.hid ((PG.refl h).below hb1)
  have HWC := Lib.hid hw1
  clear hw1 hb1
  have CU := Lib.hid (unpaired_any D.g D.a0 D.a1 D.b0 D.b1 D.k0 D.k1 D.k2 D.ca0 D.ca1 D.cb0 D.cb1 D.ck0 D.ck1 D.ck2 xs ys k w1 G1.out.1.sd hx hy hk i j p q hij hj hpq hq (by omega))
  have f1 : ((i : Int) == (j : Int)) = true := by simp; omega
  clear he
  obtain ⟨r0, r1, r2, r3⟩ := hB
  clear h hx hy hk
  go_enter Try.func162, Try.ntmps162
  go_wp2_with fail
  rw [← HWC.out]
  go_wp2_with fail
  refine CU.out.mono ?_
  rintro e w2 ⟨rfl, hb⟩
  have G2 := Lib.hid (G1.out.below hb)
  clear hb
  go_wp2
  go_ret
  exact ⟨rfl, G2.out⟩
set_option maxHeartbeats 800000 in
set_option maxRecDepth 100000 in
theorem dist_none2 (D : D10) (xs ys : Tr) (k : Co) (hx : Tr.ok xs = true) (hy : Tr.ok ys = true) (hk : Co.ok k = true) (i j p q : Nat) (w : World) (hij : i ≤ j) (hj : j ≤ xs.length) (hpq : p ≤ q) (hq : q ≤ ys.length) (h : PT D xs ys k w) (hne : i ≠ j) (he : p = q) :
    Calls Try.prog 162 #[.pointer (some ⟨D.g, 0, none⟩), (.agg #[.int .i64 (i : Int), .int .i64 (j : Int), .int .i64 (p : Int), .int .i64 (q : Int)])] w fun e w' => e = .returned (.int .i64 (RR xs ys k i j p q)) ∧ PG D xs ys k w w' := by
  obtain ⟨w1, hw1⟩ : ∃ w1, w1 = w.alloc (.cells #[.int .i64 (i : Int), .int .i64 (j : Int), .int .i64 (p : Int), .int .i64 (q : Int)] 105) := ⟨_, rfl⟩
  have hb1 : Below w.heap.size w w1 := by rw [hw1]; exact (Below.refl _ _).alloc (Nat.le_refl _) _
  have hB := (show Bx4 w1 w.heap.size i j p q by rw [hw1]; exact Bx4.made _ _ _ _ _ _)
  have G1 := Lib.hid ((PG.refl h).below hb1)
  have HWC := Lib.hid hw1
  clear hw1 hb1
  have CU := Lib.hid (unpaired_any D.g D.a0 D.a1 D.b0 D.b1 D.k0 D.k1 D.k2 D.ca0 D.ca1 D.cb0 D.cb1 D.ck0 D.ck1 D.ck2 xs ys k w1 G1.out.1.sd hx hy hk i j p q hij hj hpq hq (by omega))
  have f1 : ((i : Int) == (j : Int)) = false := by simp; omega
  have f2 : ((p : Int) == (q : Int)) = true := by simp; omega
  clear he hne
  obtain ⟨r0, r1, r2, r3⟩ := hB
  clear h hx hy hk
  go_enter Try.func162, Try.ntmps162
  go_wp2_with fail
  rw [← HWC.out]
  go_wp2_with fail
  refine CU.out.mono ?_
  rintro e w2 ⟨rfl, hb⟩
  have G2 := Lib.hid (G1.out.below hb)
  clear hb
  go_wp2
  go_ret
  exact ⟨rfl, G2.out⟩
set_option maxHeartbeats 800000 in
set_option maxRecDepth 100000 in
theorem dist_known (D : D10) (xs ys : Tr) (k : Co) (i j p q : Nat) (w : World) (h : PT D xs ys k w) (hij : i ≠ j) (hpq : p ≠ q) 
    (hlook : ∀ w' : World, w'.heap[D.gm]? = w.heap[D.gm]? → (Instr.lookup 156 (.map (some D.gm)) (rgV i j p q) true).run Try.prog w' = .ok (.tuple #[.int .i64 (RR xs ys k i j p q), .bool true]) w') :
    Calls Try.prog 162 #[.pointer (some ⟨D.g, 0, none⟩), (.agg #[.int .i64 (i : Int), .int .i64 (j : Int), .int .i64 (p : Int), .int .i64 (q : Int)])] w fun e w' => e = .returned (.int .i64 (RR xs ys k i j p q)) ∧ PG D xs ys k w w' := by
  obtain ⟨w1, hw1⟩ : ∃ w1, w1 = w.alloc (.cells #[.int .i64 (i : Int), .int .i64 (j : Int), .int .i64 (p : Int), .int .i64 (q : Int)] 105) := ⟨_, rfl⟩
  have hb1 : Below w.heap.size w w1 := by rw [hw1]; exact (Below.refl _ _).alloc (Nat.le_refl _) _
  have hB := (show Bx4 w1 w.heap.size i j p q by rw [hw1]; exact Bx4.made _ _ _ _ _ _)
  have G1 := Lib.hid ((PG.refl h).below hb1)
  have HWC := Lib.hid hw1
  clear hw1 hb1
  have f1 : ((i : Int) == (j : Int)) = false := by simp; omega
  have f2 : ((p : Int) == (q : Int)) = false := by simp; omega
  have hl : ∀ n, (Instr.lookup 156 (.map (some D.gm)) (.agg #[.int .i64 (i : Int), .int .i64 (j : Int), .int .i64 (p : Int), .int .i64 (q : Int)]) true).run Try.prog (w1.drewN n) = .ok (.tuple #[.int .i64 (RR xs ys k i j p q), .bool true]) (w1.drewN n) := fun n => hlook _ (by rw [HWC.out]; exact ((Below.refl _ _).alloc (Nat.le_refl _) _).block D.gm h.mm.lt)
  have hl0 := hl 0
  have hl1 := hl 1
  have h9 := G1.out.1.h9
  obtain ⟨r0, r1, r2, r3⟩ := hB
  clear hlook h hij hpq
  go_enter Try.func162, Try.ntmps162
  go_wp2_with fail
  rw [← HWC.out]
  go_wp2_with fail
  go_quiet (fail)
  go_wp2
  go_ret
  exact ⟨rfl, G1.out.drawn ((Drawn.refl _).drewN _)⟩
set_option maxHeartbeats 800000 in
set_option maxRecDepth 100000 in
theorem dist_new (D : D10) (xs ys : Tr) (k : Co) (s : Nat) (hx : Tr.ok xs = true) (hy : Tr.ok ys = true) (hk : Co.ok k = true) (ih : SaysD D xs ys k s) (i j p q : Nat) (w : World) (hij : i < j) (hj : j ≤ xs.length) (hpq : p < q) (hq : q ≤ ys.length) (hsum : (j - i) + (q - p) < s + 1) (h : PT D xs ys k w)
    (hlook : ∀ w' : World, w'.heap[D.gm]? = w.heap[D.gm]? → (Instr.lookup 156 (.map (some D.gm)) (rgV i j p q) true).run Try.prog w' = .ok (.tuple #[.int .i64 0, .bool false]) w') :
    Calls Try.prog 162 #[.pointer (some ⟨D.g, 0, none⟩), (.agg #[.int .i64 (i : Int), .int .i64 (j : Int), .int .i64 (p : Int), .int .i64 (q : Int)])] w fun e w' => e = .returned (.int .i64 (RR xs ys k i j p q)) ∧ PG D xs ys k w w' := by
  have x24 := (Tr.len24 hx).2
  have y24 := (Tr.len24 hy).2
  obtain ⟨w1, hw1⟩ : ∃ w1, w1 = w.alloc (.cells #[.int .i64 (i : Int), .int .i64 (j : Int), .int .i64 (p : Int), .int .i64 (q : Int)] 105) := ⟨_, rfl⟩
  have hb1 : Below w.heap.size w w1 := by rw [hw1]; exact (Below.refl _ _).alloc (Nat.le_refl _) _
  have hB := (show Bx4 w1 w.heap.size i j p q by rw [hw1]; exact Bx4.made _ _ _ _ _ _)
  have G1 := Lib.hid ((PG.refl h).below hb1)
  have HWC := Lib.hid hw1
  clear hw1 hb1
  have f1 : ((i : Int) == (j : Int)) = false := by simp; omega
  have f2 : ((p : Int) == (q : Int)) = false := by simp; omega
  have hl : ∀ n, (Instr.lookup 156 (.map (some D.gm)) (.agg #[.int .i64 (i : Int), .int .i64 (j : Int), .int .i64 (p : Int), .int .i64 (q : Int)]) true).run Try.prog (w1.drewN n) = .ok (.tuple #[.int .i64 0, .bool false]) (w1.drewN n) := fun n => hlook _ (by rw [HWC.out]; exact ((Below.refl _ _).alloc (Nat.le_refl _) _).block D.gm h.mm.lt)
  have hl0 := hl 0
  have hl1 := hl 1
  have h9 := G1.out.1.h9
  have h90 := Lib.hid h9
  obtain ⟨j1, ej⟩ : ∃ z, j = z + 1 := ⟨j - 1, by omega⟩
  obtain ⟨q1, eq⟩ : ∃ z, q = z + 1 := ⟨q - 1, by omega⟩
  have la1 := (Tr.la_nest hx j1 (by omega)).1
  have lb1 := (Tr.la_nest hy q1 (by omega)).1
  obtain ⟨P, eP⟩ : ∃ z, z = max i (Tr.la xs j1) := ⟨_, rfl⟩
  obtain ⟨Q, eQ⟩ : ∃ z, z = max p (Tr.la ys q1) := ⟨_, rfl⟩
  have CS := Lib.hid (fun (wq : World) (hs : SD D.g D.a0 D.a1 D.b0 D.b1 D.k0 D.k1 D.k2 D.ca0 D.ca1 D.cb0 D.cb1 D.ck0 D.ck1 D.ck2 xs ys k wq) => split_any D.g D.a0 D.a1 D.b0 D.b1 D.k0 D.k1 D.k2 D.ca0 D.ca1 D.cb0 D.cb1 D.ck0 D.ck1 D.ck2 xs ys k wq hs hx hy i j p q j1 q1 P Q ej eq hj hq (by omega) (by omega) eP eQ)
  obtain ⟨X, hX⟩ : ∃ z, z = RR xs ys k i j1 p q := ⟨_, rfl⟩
  obtain ⟨Y, hY⟩ : ∃ z, z = RR xs ys k i j p q1 := ⟨_, rfl⟩
  obtain ⟨U, hU⟩ : ∃ z, z = RR xs ys k i P p Q := ⟨_, rfl⟩
  obtain ⟨V, hV⟩ : ∃ z, z = RR xs ys k P j1 Q q1 := ⟨_, rfl⟩
  have bX := RR_bound (k := k) hx hy (p := i) (a := j1) (q := p) (b := q) (by omega) (by omega) (by omega) hq
  have bY := RR_bound (k := k) hx hy (p := i) (a := j) (q := p) (b := q1) (by omega) hj (by omega) (by omega)
  have bU := RR_bound (k := k) hx hy (p := i) (a := P) (q := p) (b := Q) (by omega) (by omega) (by omega) (by omega)
  have bV := RR_bound (k := k) hx hy (p := P) (a := j1) (q := Q) (b := q1) (by omega) (by omega) (by omega) (by omega)
  have CX := Lib.hid (fun (wq : World) (hp : PT D xs ys k wq) => ih i j1 p q wq (by omega) (by omega) (by omega) hq (by omega) hp)
  have CY := Lib.hid (fun (wq : World) (hp : PT D xs ys k wq) => ih i j p q1 wq (by omega) hj (by omega) (by omega) (by omega) hp)
  have CU := Lib.hid (fun (wq : World) (hp : PT D xs ys k wq) => ih i P p Q wq (by omega) (by omega) (by omega) (by omega) (by omega) hp)
  have CV := Lib.hid (fun (wq : World) (hp : PT D xs ys k wq) => ih P j1 Q q1 wq (by omega) (by omega) (by omega) (by omega) (by omega) hp)
  rw [← hX] at bX CX
  rw [← hY] at bY CY
  rw [← hU] at bU CU
  rw [← hV] at bV CV
  have nn := Co.nonneg' k
  obtain ⟨dv, hdv⟩ : ∃ z, z = Co.del k (Tr.xa xs j1) := ⟨_, rfl⟩
  obtain ⟨iv, hiv⟩ : ∃ z, z = Co.ins k (Tr.xa ys q1) := ⟨_, rfl⟩
  obtain ⟨rv, hrv⟩ : ∃ z, z = Co.rel k (Tr.xa xs j1) (Tr.xa ys q1) := ⟨_, rfl⟩
  have CD := Lib.hid (fun (wq : World) (hs : SD D.g D.a0 D.a1 D.b0 D.b1 D.k0 D.k1 D.k2 D.ca0 D.ca1 D.cb0 D.cb1 D.ck0 D.ck1 D.ck2 xs ys k wq) => sidesDel_any D.g D.a0 D.a1 D.b0 D.b1 D.k0 D.k1 D.k2 D.ca0 D.ca1 D.cb0 D.cb1 D.ck0 D.ck1 D.ck2 xs ys k wq hs hx hk j1 (by omega))
  have CI := Lib.hid (fun (wq : World) (hs : SD D.g D.a0 D.a1 D.b0 D.b1 D.k0 D.k1 D.k2 D.ca0 D.ca1 D.cb0 D.cb1 D.ck0 D.ck1 D.ck2 xs ys k wq) => sidesIns_any D.g D.a0 D.a1 D.b0 D.b1 D.k0 D.k1 D.k2 D.ca0 D.ca1 D.cb0 D.cb1 D.ck0 D.ck1 D.ck2 xs ys k wq hs hy hk q1 (by omega))
  have CR := Lib.hid (fun (wq : World) (hs : SD D.g D.a0 D.a1 D.b0 D.b1 D.k0 D.k1 D.k2 D.ca0 D.ca1 D.cb0 D.cb1 D.ck0 D.ck1 D.ck2 xs ys k wq) => sidesRel_any D.g D.a0 D.a1 D.b0 D.b1 D.k0 D.k1 D.k2 D.ca0 D.ca1 D.cb0 D.cb1 D.ck0 D.ck1 D.ck2 xs ys k wq hs hx hy hk j1 q1 (by omega) (by omega))
  rw [← hdv] at CD
  rw [← hiv] at CI
  rw [← hrv] at CR
  have bD := nn.1 (Tr.xa xs j1)
  have bI := nn.2.1 (Tr.xa ys q1)
  have bR := nn.2.2 (Tr.xa xs j1) (Tr.xa ys q1)
  rw [← hdv] at bD
  rw [← hiv] at bI
  rw [← hrv] at bR
  have ER := Lib.hid (show RR xs ys k i j p q = min (min (X + dv) (Y + iv)) (U + V + rv) by
    rw [hX, hY, hU, hV, hdv, hiv, hrv, eP, eQ, ej, eq]
    exact RD_both (Tr.la_nest hx) (Tr.la_nest hy) (by omega) (by omega) (by omega) (by omega))
  have a1 : IntKind.i64.wrap ((j : Int) - 1) = (j1 : Int) := by rw [Kit.w64 (by omega) (by omega)]; omega
  have a2 : IntKind.i64.wrap ((q : Int) - 1) = (q1 : Int) := by rw [Kit.w64 (by omega) (by omega)]; omega
  have WF := Lib.hid (show (Lit.int .i64 (RR xs ys k i j p q)).wf = true from Go.WalkArith.wf_i64 (by have := RR_bound (k := k) hx hy (p := i) (a := j) (q := p) (b := q) (by omega) hj (by omega) hq; omega))
  have I24 := Lib.hid (show i ≤ 24 ∧ j ≤ 24 ∧ p ≤ 24 ∧ q ≤ 24 ∧ 1 ≤ j ∧ 1 ≤ q by omega)
  have EJ := Lib.hid (show j - 1 = j1 by omega)
  have EQ := Lib.hid (show q - 1 = q1 by omega)
  have HW := Lib.hid (show ∀ wq : World, PT D xs ys k wq → Calls Try.prog 163 #[(.agg #[.int .i64 (i : Int), .int .i64 (j : Int), .int .i64 (p : Int), .int .i64 (q : Int)])] wq fun e w' => e = .returned (.agg #[.int .i64 (i : Int), .int .i64 (j1 : Int), .int .i64 (p : Int), .int .i64 (q : Int)]) ∧ Below wq.heap.size wq w' by
    intro wq _; have := withoutA_any i j p q wq (by omega) (by omega); rw [EJ.out] at this; exact this)
  have HV := Lib.hid (show ∀ wq : World, PT D xs ys k wq → Calls Try.prog 164 #[(.agg #[.int .i64 (i : Int), .int .i64 (j : Int), .int .i64 (p : Int), .int .i64 (q : Int)])] wq fun e w' => e = .returned (.agg #[.int .i64 (i : Int), .int .i64 (j : Int), .int .i64 (p : Int), .int .i64 (q1 : Int)]) ∧ Below wq.heap.size wq w' by
    intro wq _; have := withoutB_any i j p q wq (by omega) (by omega); rw [EQ.out] at this; exact this)
  have s1 : IntKind.i64.wrap (X + dv) = X + dv := Kit.w64 (by omega) (by omega)
  have s2 : IntKind.i64.wrap (Y + iv) = Y + iv := Kit.w64 (by omega) (by omega)
  have s3 : IntKind.i64.wrap (U + V) = U + V := Kit.w64 (by omega) (by omega)
  have s4 : IntKind.i64.wrap (U + V + rv) = U + V + rv := Kit.w64 (by omega) (by omega)
  obtain ⟨r0, r1, r2, r3⟩ := hB
  have HB0 := Lib.hid (show Bx4 w1 w.heap.size i j p q from ⟨r0, r1, r2, r3⟩)
  clear hlook h hx hy hk ih nn hX hY hU hV hdv hiv hrv bX bY bU bV bD bI bR ej eq la1 lb1 eP eQ x24 y24 hij hj hpq hq hsum
  go_enter Try.func162, Try.ntmps162
  go_wp2_with fail
  rw [← HWC.out]
  go_wp2_with fail
  go_quiet (fail)
  clear hl hl0 hl1 h9
  go_wp2_with fail
  go_quiet (fail)
  clear a1 a2
  go_wp2_with fail
  refine (CS.out _ (G1.out.1.drawn ((Drawn.refl _).drewN _)).sd).mono ?_
  rintro e w2 ⟨rfl, hb2⟩
  have G2 := Lib.hid ((G1.out.drawn ((Drawn.refl _).drewN _)).below hb2)
  have HB2 := Lib.hid ((HB0.out.drawn ((Drawn.refl _).drewN _)).below hb2 (World.block_lt_of_cell? _ _ r0))
  have L0 := Lib.hid (World.block_lt_of_cell? _ _ HB2.out.1)
  clear hb2 r0 r1 r2 r3
  go_wp2_with fail
  generalize hw3 : (w2.alloc (.cells  #[.int .i64 (i : Int), .int .i64 (P : Int), .int .i64 (p : Int), .int .i64 (Q : Int)] 105)).alloc (.cells  #[.int .i64 (P : Int), .int .i64 (j1 : Int), .int .i64 (Q : Int), .int .i64 (q1 : Int)] 105) = w3
  have S0 := Lib.hid (show (w3.drew.cell? ⟨w.heap.size, 0, none⟩ = some (.int .i64 (i : Int)) ∧ w3.drew.cell? ⟨w.heap.size, 1, none⟩ = some (.int .i64 (j : Int)) ∧ w3.drew.cell? ⟨w.heap.size, 2, none⟩ = some (.int .i64 (p : Int)) ∧ w3.drew.cell? ⟨w.heap.size, 3, none⟩ = some (.int .i64 (q : Int))) ∧ (w3.drew.cell? ⟨w2.heap.size, 0, none⟩ = some (.int .i64 (i : Int)) ∧ w3.drew.cell? ⟨w2.heap.size, 1, none⟩ = some (.int .i64 (P : Int)) ∧ w3.drew.cell? ⟨w2.heap.size, 2, none⟩ = some (.int .i64 (p : Int)) ∧ w3.drew.cell? ⟨w2.heap.size, 3, none⟩ = some (.int .i64 (Q : Int))) ∧ (w3.drew.cell? ⟨w2.heap.size + 1, 0, none⟩ = some (.int .i64 (P : Int)) ∧ w3.drew.cell? ⟨w2.heap.size + 1, 1, none⟩ = some (.int .i64 (j1 : Int)) ∧ w3.drew.cell? ⟨w2.heap.size + 1, 2, none⟩ = some (.int .i64 (Q : Int)) ∧ w3.drew.cell? ⟨w2.heap.size + 1, 3, none⟩ = some (.int .i64 (q1 : Int))) ∧ PG D xs ys k w w3.drew by
    have hb3 : Below w2.heap.size w2 w3 := by rw [← hw3]; exact ((Below.refl _ _).alloc (Nat.le_refl _) _).alloc (by simp) _
    have e1 : (w2.alloc (.cells  #[.int .i64 (i : Int), .int .i64 (P : Int), .int .i64 (p : Int), .int .i64 (Q : Int)] 105)).heap.size = w2.heap.size + 1 := by simp
    have x1 : Bx4 w3 w2.heap.size i P p Q := by rw [← hw3]; exact (Bx4.made w2 _ _ _ _ _).below ((Below.refl _ _).alloc (Nat.le_refl _) _) (by simp)
    have x2 : Bx4 w3 (w2.heap.size + 1) P j1 Q q1 := by rw [← hw3, ← e1]; exact Bx4.made _ _ _ _ _ _
    exact r8_drawn ⟨HB2.out.below hb3 L0.out, x1, x2, G2.out.below hb3⟩ (Drawn.refl _).drew)
  clear hw3
  go_region_held3 (fun wq => (wq.cell? ⟨w.heap.size, 0, none⟩ = some (.int .i64 (i : Int)) ∧ wq.cell? ⟨w.heap.size, 1, none⟩ = some (.int .i64 (j : Int)) ∧ wq.cell? ⟨w.heap.size, 2, none⟩ = some (.int .i64 (p : Int)) ∧ wq.cell? ⟨w.heap.size, 3, none⟩ = some (.int .i64 (q : Int))) ∧ (wq.cell? ⟨w2.heap.size, 0, none⟩ = some (.int .i64 (i : Int)) ∧ wq.cell? ⟨w2.heap.size, 1, none⟩ = some (.int .i64 (P : Int)) ∧ wq.cell? ⟨w2.heap.size, 2, none⟩ = some (.int .i64 (p : Int)) ∧ wq.cell? ⟨w2.heap.size, 3, none⟩ = some (.int .i64 (Q : Int))) ∧ (wq.cell? ⟨w2.heap.size + 1, 0, none⟩ = some (.int .i64 (P : Int)) ∧ wq.cell? ⟨w2.heap.size + 1, 1, none⟩ = some (.int .i64 (j1 : Int)) ∧ wq.cell? ⟨w2.heap.size + 1, 2, none⟩ = some (.int .i64 (Q : Int)) ∧ wq.cell? ⟨w2.heap.size + 1, 3, none⟩ = some (.int .i64 (q1 : Int))) ∧ PG D xs ys k w wq) (first | (with_reducible exact SC) | (with_reducible exact S0.out)) (first | ((go_at_call 163; with_reducible refine (HW.out _ (r8_pt (by assumption))).mono ?_); rintro e w5 ⟨rfl, hk5⟩; have SC := r8_below (by assumption) hk5) | ((go_at_call 164; with_reducible refine (HV.out _ (r8_pt (by assumption))).mono ?_); rintro e w5 ⟨rfl, hk5⟩; have SC := r8_below (by assumption) hk5) | ((go_at_call 152; with_reducible refine (CD.out _ (r8_pt (by assumption)).sd).mono ?_); rintro e w5 ⟨rfl, hk5⟩; have SC := r8_drawn (by assumption) hk5) | ((go_at_call 153; with_reducible refine (CI.out _ (r8_pt (by assumption)).sd).mono ?_); rintro e w5 ⟨rfl, hk5⟩; have SC := r8_drawn (by assumption) hk5) | ((go_at_call 61; with_reducible refine (CR.out _ (r8_pt (by assumption)).sd).mono ?_); rintro e w5 ⟨rfl, hk5⟩; have SC := r8_drawn (by assumption) hk5) | ((go_at_call 162; with_reducible refine (CX.out _ (r8_pt (by assumption))).mono ?_); rintro e w5 ⟨rfl, hk5⟩; have SC := r8_next (by assumption) hk5) | ((go_at_call 162; with_reducible refine (CY.out _ (r8_pt (by assumption))).mono ?_); rintro e w5 ⟨rfl, hk5⟩; have SC := r8_next (by assumption) hk5) | ((go_at_call 162; with_reducible refine (CU.out _ (r8_pt (by assumption))).mono ?_); rintro e w5 ⟨rfl, hk5⟩; have SC := r8_next (by assumption) hk5) | ((go_at_call 162; with_reducible refine (CV.out _ (r8_pt (by assumption))).mono ?_); rintro e w5 ⟨rfl, hk5⟩; have SC := r8_next (by assumption) hk5))
  have G5 := Lib.hid (r8_pg SC)
  have c9 := G5.out.1.h9
  obtain ⟨⟨r0, r1, r2, r3⟩, _⟩ := id SC
  rw [min_if, min_if, ← ER.out]
  obtain ⟨w6, hrun, hm6, hg6⟩ := (G5.out.1.mm.drawn (Drawn.refl _).drew).store (i := i) (j := j) (p := p) (q := q) I24.out.1 I24.out.2.1 I24.out.2.2.1 I24.out.2.2.2.1 WF.out
  unfold rgV at hrun
  have G6 := Lib.hid (show PG D xs ys k w w6 from (G5.out.drawn (Drawn.refl _).drew).next ⟨(G5.out.1.drawn (Drawn.refl _).drew).step hg6 hm6, hg6⟩)
  clear hm6 hg6 SC S0 hk5 s1 s2 s3 s4
  go_wp2_with fail
  go_still_tail 6, (by kernel_rfl)
  change wpList _ _ _ _ _ w5.drew
  go_wp2
  go_ret
  exact ⟨rfl, G6.out⟩
theorem rangeDist_any (D : D10) (xs ys : Tr) (k : Co) (hx : Tr.ok xs = true) (hy : Tr.ok ys = true) (hk : Co.ok k = true) : ∀ s, SaysD D xs ys k s := by
  intro s
  induction s with
  | zero => intro i j p q w _ _ _ _ h; omega
  | succ s ih =>
    intro i j p q w hij hj hpq hq hsum h
    by_cases e1 : i = j
    · exact dist_none D xs ys k hx hy hk i j p q w hij hj hpq hq h e1
    · by_cases e2 : p = q
      · exact dist_none2 D xs ys k hx hy hk i j p q w hij hj hpq hq h e1 e2
      · have x24 := (Tr.len24 hx).2
        have y24 := (Tr.len24 hy).2
        rcases h.mm.look (i := i) (j := j) (p := p) (q := q) (by omega) (by omega) (by omega) (by omega) with hl | hl
        · exact dist_new D xs ys k s hx hy hk ih i j p q w (by omega) hj (by omega) hq hsum h hl
        · exact dist_known D xs ys k i j p q w h e1 e2 hl

end Go.Proofs.Ytgkkeejhfofcaaa
