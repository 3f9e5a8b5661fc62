/- More draws of the model: a new cursor, a number, a text. -/
import Derived.Test.YtbdhhmcebjpgeaaDoorDraw
import Derived.Deep.RegionLaw
import Derived.Maps.Range
namespace Go.Proofs.YtbdhhmcebjpgeaaDoor
open Go.RowKit
set_option linter.unusedVariables false

theorem Kit.i64_and30 (n : Int) : bits .and .i64 n 1073741823 = n % 1073741824 := by
  have h255 : (BitVec.ofInt 64 1073741823).toNat = 2 ^ 30 - 1 := by decide
  have key : (BitVec.ofInt 64 n &&& BitVec.ofInt 64 1073741823).toNat = (n % ((2 ^ 64 : Nat) : Int)).toNat % 2 ^ 30 := by
    rw [BitVec.toNat_and, BitVec.toNat_ofInt, h255, Nat.and_two_pow_sub_one_eq_mod]
  show IntKind.i64.wrap ((BitVec.ofInt 64 n &&& BitVec.ofInt 64 1073741823).toNat : Nat) = n % 1073741824
  rw [key, IntKind.wrap_i64]
  omega

def Draw.newStep (h x : Int) : Int := (h * 131 + x + 7) % 1073741824
/-- the mixed number with which a cursor begins -/
def Draw.newH (cs : List Int) (m : Nat) : Int := (cs.take m).foldl Draw.newStep (10101 + cs.length)
theorem Draw.newH_succ (cs : List Int) (m : Nat) (h : m < cs.length) : Draw.newH cs (m + 1) = Draw.newStep (Draw.newH cs m) (cs.getD m 0) := by
  unfold Draw.newH
  rw [List.take_succ_eq_append_getElem h, List.foldl_append]
  simp [List.getD, h]
theorem Draw.newH_bd (cs : List Int) (m : Nat) (h : cs.length ≤ 1048576) : 0 ≤ Draw.newH cs m ∧ Draw.newH cs m < 1073741824 := by
  unfold Draw.newH
  have key : ∀ (l : List Int) (a : Int), 0 ≤ a ∧ a < 1073741824 → 0 ≤ l.foldl Draw.newStep a ∧ l.foldl Draw.newStep a < 1073741824 := by
    intro l
    induction l with
    | nil => intro a h; exact h
    | cons x l ih => intro a h; exact ih _ (by unfold Draw.newStep; omega)
  exact key _ _ (by omega)
theorem Draw.newH_min (cs : List Int) (m : Nat) (hm : m ≤ 4000) (h : m = 4000 ∨ cs.length ≤ m) : Draw.newH cs m = Draw.newH cs 4000 := by
  rcases h with rfl | h
  · rfl
  · unfold Draw.newH; rw [List.take_of_length_le h, List.take_of_length_le (by omega)]
def Draw.start (cs : List Int) : Nat × Int := (0, Draw.newH cs 4000)

set_option maxHeartbeats 400000 in
set_option maxRecDepth 100000 in
theorem l1New_any (w : World) (k : Code) (hcode : CodeIn w w.heap.size k.a k.cs) (hlen : k.cs.length ≤ 1048576) :
    Calls Tryd.prog 20 #[.slice k.a k.cs.length k.cap] w fun e w' => e = .returned (.pointer (some ⟨w.heap.size, 0, none⟩)) ∧ CurAt w' w.heap.size k (Draw.start k.cs) ∧ w.grownBy w' none := by
  obtain ⟨a, cs, cap⟩ := k
  simp only at hcode hlen ⊢
  have Hcode := Lib.hid hcode
  clear hcode
  go_enter Tryd.func20, Tryd.ntmps20
  go_wp2
  go_loop [3, 4] (fun hv iv => ∃ m : Nat, (m : Int) ≤ 4000 ∧ m ≤ cs.length ∧ iv = .int .i64 m ∧ hv = .int .i64 (Draw.newH cs m)) (fun _ i => 4000 - (intOf i).toNat)
  case atStart => exact ⟨0, by omega, by omega, rfl, rfl⟩
  case round =>
    obtain ⟨m, hm1, hm2, rfl, rfl⟩ := hrel
    obtain ⟨b0, b1⟩ := Draw.newH_bd cs m hlen
    by_cases hlt : m < cs.length
    · by_cases hlt4 : (m : Int) < 4000
      · obtain ⟨b, off, rfl, hbB, hcell, hx0, hx1⟩ := Hcode.out m hlt
        have Hs := Lib.hid (Draw.newH_succ cs m hlt)
        obtain ⟨x, hx⟩ : ∃ x, x = cs.getD m 0 := ⟨_, rfl⟩
        rw [← hx] at hcell hx0 hx1 Hs
        clear hx
        have hand := Kit.i64_and30 (Draw.newH cs m * 131 + x + 7)
        go_wp2
        go_round
        case rel => exact ⟨m + 1, by omega, by omega, by go_num, by rw [Hs.out]; rfl⟩
        case measure => simp [intOf]; omega
      · have Hm := Lib.hid (Draw.newH_min cs m (by omega) (Or.inl (by omega)))
        go_wp2
        go_ret
        refine ⟨rfl, ⟨?_, ?_, hlen⟩, ?_⟩
        · unfold Cur Draw.start
          rw [← Hm.out]
          exact heap_alloc_new w _
        · intro j hj
          obtain ⟨b, off, h1, h2, h3, h4⟩ := Hcode.out j hj
          exact ⟨b, off, h1, h2, by rw [World.cell?_of_block (w := w) (Below.heap_alloc _ _ _ h2)]; exact h3, h4⟩
        · exact ⟨rfl, rfl, rfl, by simp, fun k hk _ => Below.heap_alloc _ _ _ hk⟩
    · have Hm := Lib.hid (Draw.newH_min cs m (by omega) (Or.inr (by omega)))
      go_wp2
      go_ret
      refine ⟨rfl, ⟨?_, ?_, hlen⟩, ?_⟩
      · unfold Cur Draw.start
        rw [← Hm.out]
        exact heap_alloc_new w _
      · intro j hj
        obtain ⟨b, off, h1, h2, h3, h4⟩ := Hcode.out j hj
        exact ⟨b, off, h1, h2, by rw [World.cell?_of_block (w := w) (Below.heap_alloc _ _ _ h2)]; exact h3, h4⟩
      · exact ⟨rfl, rfl, rfl, by simp, fun k hk _ => Below.heap_alloc _ _ _ hk⟩

set_option maxHeartbeats 400000 in
theorem l1PickInt_any (w : World) (B g : Nat) (k : Code) (s : Nat × Int) (c : CurAt w B k s) (xs : List Int) (n : Nat) (hn : n = xs.length) (hpos : 0 < (n : Int)) (hn2 : (n : Int) ≤ 1000) (hg : B < g) (hg2 : g < w.heap.size)
    (hcells : ∀ j, j < xs.length → w.cell? ⟨g, j, none⟩ = some (.int .i64 (xs.getD j 0))) :
    Calls Tryd.prog 33 #[.pointer (some ⟨B, 0, none⟩), .slice (some ⟨g, 0, none⟩) n n] w fun e w' => e = .returned (.int .i64 (xs.getD (Draw.below k.cs n s).1.toNat 0)) ∧ CurAt w' B k (Draw.below k.cs n s).2 ∧ w.grownBy w' (some B) := by
  have Hcells := Lib.hid hcells
  have Hn := Lib.hid hn
  clear hcells hn
  obtain ⟨d0, d1⟩ := Draw.below_bd k.cs n s hpos
  go_enter Tryd.func33, Tryd.ntmps33
  go_wp2_with fail
  refine (l1Below_any _ B k n s c).mono ?_
  rintro e w1 ⟨rfl, c1, g1⟩
  have C1 := Lib.hid c1
  obtain ⟨D, hD⟩ : ∃ D : Nat, (D : Int) = (Draw.below k.cs n s).1 := ⟨_, Int.toNat_of_nonneg d0⟩
  rw [← hD] at d1 ⊢
  have hcell : w1.cell? ⟨g, D, none⟩ = some (.int .i64 (xs.getD D 0)) := by
    rw [World.cell?_of_block (w := w) (g1.block g hg2 (by intro e; injection e with e; omega))]
    exact Hcells.out D (by have := Hn.out; omega)
  have HD := Lib.hid hD
  clear hD c1 c
  go_wp2
  go_ret
  exact ⟨by rw [← HD.out]; simp, C1.out, g1⟩

def Draw.edges : List Int := [-1, 0, 127, 128, 255, 256, 16383, 16384, 65535, 65536, 562949953421311, 562949953421312, 999999999, 1000000000, -999999999, 9223372036854775807, -9223372036854775808]
theorem Draw.edges_bd (n : Nat) : -9223372036854775808 ≤ Draw.edges.getD n 0 ∧ Draw.edges.getD n 0 ≤ 9223372036854775807 := by
  by_cases h : n < 17
  · have : ∀ n : Fin 17, -9223372036854775808 ≤ Draw.edges.getD n.1 0 ∧ Draw.edges.getD n.1 0 ≤ 9223372036854775807 := by decide
    exact this ⟨n, h⟩
  · have : Draw.edges.getD n 0 = 0 := by simp [List.getD, Draw.edges, List.getElem?_eq_none (show ([-1, 0, 127, 128, 255, 256, 16383, 16384, 65535, 65536, 562949953421311, 562949953421312, 999999999, 1000000000, -999999999, 9223372036854775807, -9223372036854775808] : List Int).length ≤ n by simp; omega)]
    rw [this]; omega
/-- a number, small, at a limit, or any -/
def Draw.num (cs : List Int) (s : Nat × Int) : Int × (Nat × Int) :=
  let a := Draw.below cs 8 s
  if a.1 = 0 then (Draw.edges.getD (Draw.below cs 17 a.2).1.toNat 0, (Draw.below cs 17 a.2).2)
  else if a.1 = 1 then ((Draw.below cs 1000000000 a.2).1 * (Draw.below cs 1000000000 (Draw.below cs 1000000000 a.2).2).1, (Draw.below cs 1000000000 (Draw.below cs 1000000000 a.2).2).2)
  else if a.1 = 2 then (-(Draw.below cs 100000 a.2).1, (Draw.below cs 100000 a.2).2)
  else ((Draw.below cs 70000 a.2).1, (Draw.below cs 70000 a.2).2)
theorem Draw.mul_bd {x y : Int} (h0 : 0 ≤ x) (h1 : x < 1000000000) (h2 : 0 ≤ y) (h3 : y < 1000000000) : 0 ≤ x * y ∧ x * y ≤ 999999998000000001 := by
  obtain ⟨a, rfl⟩ := Int.eq_ofNat_of_zero_le h0
  obtain ⟨b, rfl⟩ := Int.eq_ofNat_of_zero_le h2
  have : a * b ≤ 999999999 * 999999999 := Nat.mul_le_mul (by omega) (by omega)
  rw [← Int.natCast_mul]
  omega
theorem Draw.num_bd (cs : List Int) (s : Nat × Int) : -9223372036854775808 ≤ (Draw.num cs s).1 ∧ (Draw.num cs s).1 ≤ 9223372036854775807 := by
  unfold Draw.num
  simp only
  split
  · exact Draw.edges_bd _
  · split
    · have h1 := Draw.below_bd cs 1000000000 (Draw.below cs 8 s).2 (by omega)
      have h2 := Draw.below_bd cs 1000000000 (Draw.below cs 1000000000 (Draw.below cs 8 s).2).2 (by omega)
      have := Draw.mul_bd h1.1 h1.2 h2.1 h2.2
      simp only
      omega
    · split
      · have h1 := Draw.below_bd cs 100000 (Draw.below cs 8 s).2 (by omega)
        simp only
        omega
      · have h1 := Draw.below_bd cs 70000 (Draw.below cs 8 s).2 (by omega)
        simp only
        omega

set_option maxHeartbeats 1000000 in
set_option maxRecDepth 100000 in
theorem l1Num_any (w : World) (B : Nat) (k : Code) (s : Nat × Int) (c : CurAt w B k s) :
    Calls Tryd.prog 21 #[.pointer (some ⟨B, 0, none⟩)] w fun e w' => e = .returned (.int .i64 (Draw.num k.cs s).1) ∧ CurAt w' B k (Draw.num k.cs s).2 ∧ w.grownBy w' (some B) := by
  obtain ⟨A, hA⟩ : ∃ A, A = Draw.below k.cs 8 s := ⟨_, rfl⟩
  have dA := Draw.below_bd k.cs 8 s (by omega)
  rw [← hA] at dA
  obtain ⟨dA0, dA1⟩ := dA
  have HA := Lib.hid hA
  have hres := Lib.hid (show Draw.num k.cs s = (if A.1 = 0 then (Draw.edges.getD (Draw.below k.cs 17 A.2).1.toNat 0, (Draw.below k.cs 17 A.2).2)
    else if A.1 = 1 then ((Draw.below k.cs 1000000000 A.2).1 * (Draw.below k.cs 1000000000 (Draw.below k.cs 1000000000 A.2).2).1, (Draw.below k.cs 1000000000 (Draw.below k.cs 1000000000 A.2).2).2)
    else if A.1 = 2 then (-(Draw.below k.cs 100000 A.2).1, (Draw.below k.cs 100000 A.2).2)
    else ((Draw.below k.cs 70000 A.2).1, (Draw.below k.cs 70000 A.2).2)) by rw [hA]; rfl)
  clear hA
  have Hc := Lib.hid c
  clear c
  by_cases h0 : A.1 = 0
  · have e0 : (A.1 == 0) = true := by simpa using h0
    have Hr := Lib.hid (hres.out.trans (if_pos h0))
    clear h0
    go_enter Tryd.func21, Tryd.ntmps21
    go_wp2_with fail
    refine (l1Below_any _ B k 8 s Hc.out).mono ?_
    rintro e w1 ⟨rfl, c1, g1⟩
    rw [← HA.out] at c1 ⊢
    have C1 := Lib.hid c1
    clear c1
    go_wp2_with fail
    refine (l1PickInt_any (w1.alloc _) B w1.heap.size k A.2 (C1.out.alloc _) Draw.edges 17 rfl (by decide) (by decide) C1.out.lt (by simp) (fun j hj => ?_)).mono ?_
    · rw [World.cell?_alloc_mark]
      show ((Draw.edges.map (Value.int .i64)).toArray)[j]? = _
      simp [hj]
    rintro e w2 ⟨rfl, c2, g2⟩
    rw [show ((17 : Nat) : Int) = 17 from rfl] at c2 ⊢
    have C2 := Lib.hid c2
    clear c2
    go_wp2
    go_ret
    rw [Hr.out]
    have g3 : w1.grownBy (w1.alloc (.cells (Draw.edges.map (Value.int .i64)).toArray 3)) (some B) := ⟨rfl, rfl, rfl, by simp, fun k hk _ => Below.heap_alloc _ _ _ hk⟩
    exact ⟨rfl, C2.out, Kit.grown_trans g1 (Kit.grown_trans g3 g2)⟩
  · have e0 : (A.1 == 0) = false := by simpa using h0
    by_cases h1 : A.1 = 1
    · have e1 : (A.1 == 1) = true := by simpa using h1
      have Hr := Lib.hid ((hres.out.trans (if_neg h0)).trans (if_pos h1))
      clear h0 h1
      obtain ⟨X, hX⟩ : ∃ X, X = Draw.below k.cs 1000000000 A.2 := ⟨_, rfl⟩
      obtain ⟨Y, hY⟩ : ∃ Y, Y = Draw.below k.cs 1000000000 X.2 := ⟨_, rfl⟩
      have dX := Draw.below_bd k.cs 1000000000 A.2 (by omega)
      have dY := Draw.below_bd k.cs 1000000000 X.2 (by omega)
      rw [← hX] at dX Hr
      rw [← hY] at dY Hr
      have dM := Draw.mul_bd dX.1 dX.2 dY.1 dY.2
      have HX := Lib.hid hX
      have HY := Lib.hid hY
      clear hX hY
      go_enter Tryd.func21, Tryd.ntmps21
      go_wp2_with fail
      refine (l1Below_any _ B k 8 s Hc.out).mono ?_
      rintro e w1 ⟨rfl, c1, g1⟩
      rw [← HA.out] at c1 ⊢
      have C1 := Lib.hid c1
      clear c1
      go_wp2_with fail
      refine (l1Below_any _ B k 1000000000 A.2 C1.out).mono ?_
      rintro e w2 ⟨rfl, c2, g2⟩
      rw [← HX.out] at c2 ⊢
      have C2 := Lib.hid c2
      clear c2
      go_wp2_with fail
      refine (l1Below_any _ B k 1000000000 X.2 C2.out).mono ?_
      rintro e w3 ⟨rfl, c3, g3⟩
      rw [← HY.out] at c3 ⊢
      have C3 := Lib.hid c3
      clear c3
      go_wp2
      go_ret
      rw [Hr.out]
      exact ⟨rfl, C3.out, Kit.grown_trans g1 (Kit.grown_trans g2 g3)⟩
    · have e1 : (A.1 == 1) = false := by simpa using h1
      by_cases h2 : A.1 = 2
      · have e2 : (A.1 == 2) = true := by simpa using h2
        have Hr := Lib.hid (((hres.out.trans (if_neg h0)).trans (if_neg h1)).trans (if_pos h2))
        have dX := Draw.below_bd k.cs 100000 A.2 (by omega)
        clear h0 h1 h2
        go_enter Tryd.func21, Tryd.ntmps21
        go_wp2_with fail
        refine (l1Below_any _ B k 8 s Hc.out).mono ?_
        rintro e w1 ⟨rfl, c1, g1⟩
        rw [← HA.out] at c1 ⊢
        have C1 := Lib.hid c1
        clear c1
        go_wp2_with fail
        refine (l1Below_any _ B k 100000 A.2 C1.out).mono ?_
        rintro e w2 ⟨rfl, c2, g2⟩
        have C2 := Lib.hid c2
        clear c2
        go_wp2
        go_ret
        rw [Hr.out]
        exact ⟨rfl, C2.out, Kit.grown_trans g1 g2⟩
      · have e2 : (A.1 == 2) = false := by simpa using h2
        have Hr := Lib.hid (((hres.out.trans (if_neg h0)).trans (if_neg h1)).trans (if_neg h2))
        clear h0 h1 h2
        go_enter Tryd.func21, Tryd.ntmps21
        go_wp2_with fail
        refine (l1Below_any _ B k 8 s Hc.out).mono ?_
        rintro e w1 ⟨rfl, c1, g1⟩
        rw [← HA.out] at c1 ⊢
        have C1 := Lib.hid c1
        clear c1
        go_wp2_with fail
        refine (l1Below_any _ B k 70000 A.2 C1.out).mono ?_
        rintro e w2 ⟨rfl, c2, g2⟩
        have C2 := Lib.hid c2
        clear c2
        go_wp2
        go_ret
        rw [Hr.out]
        exact ⟨rfl, C2.out, Kit.grown_trans g1 g2⟩

end Go.Proofs.YtbdhhmcebjpgeaaDoor
