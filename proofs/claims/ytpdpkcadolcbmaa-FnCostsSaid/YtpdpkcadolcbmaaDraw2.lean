/- More draws of the model: a new cursor, a number, a text. -/
import Derived.Test.YtpdpkcadolcbmaaDraw
import Derived.Deep.RegionLaw
import Derived.Maps.Range
namespace Go.Proofs.Ytpdpkcadolcbmaa
open Go.RowKit
set_option linter.unusedVariables false

theorem Kit.i64_and30 (n : Int) : bits .and .i64 n 1073741823 = n % 1073741824 := by
  have h255 : (BitVec.ofInt 64 1073741823).toNat = 2 ^ 30 - 1 := by decide
  have key : (BitVec.ofInt 64 n &&& BitVec.ofInt 64 1073741823).toNat = (n % ((2 ^ 64 : Nat) : Int)).toNat % 2 ^ 30 := by
    rw [BitVec.toNat_and, BitVec.toNat_ofInt, h255, Nat.and_two_pow_sub_one_eq_mod]
  show IntKind.i64.wrap ((BitVec.ofInt 64 n &&& BitVec.ofInt 64 1073741823).toNat : Nat) = n % 1073741824
  rw [key, IntKind.wrap_i64]
  omega

def Draw.newStep (h x : Int) : Int := (h * 131 + x + 7) % 1073741824
/-- the mixed number with which a cursor begins -/
def Draw.newH (cs : List Int) (m : Nat) : Int := (cs.take m).foldl Draw.newStep (10101 + cs.length)
theorem Draw.newH_succ (cs : List Int) (m : Nat) (h : m < cs.length) : Draw.newH cs (m + 1) = Draw.newStep (Draw.newH cs m) (cs.getD m 0) := by
  unfold Draw.newH
  rw [List.take_succ_eq_append_getElem h, List.foldl_append]
  simp [List.getD, h]
theorem Draw.newH_bd (cs : List Int) (m : Nat) (h : cs.length ≤ 1048576) : 0 ≤ Draw.newH cs m ∧ Draw.newH cs m < 1073741824 := by
  unfold Draw.newH
  have key : ∀ (l : List Int) (a : Int), 0 ≤ a ∧ a < 1073741824 → 0 ≤ l.foldl Draw.newStep a ∧ l.foldl Draw.newStep a < 1073741824 := by
    intro l
    induction l with
    | nil => intro a h; exact h
    | cons x l ih => intro a h; exact ih _ (by unfold Draw.newStep; omega)
  exact key _ _ (by omega)
theorem Draw.newH_min (cs : List Int) (m : Nat) (hm : m ≤ 4000) (h : m = 4000 ∨ cs.length ≤ m) : Draw.newH cs m = Draw.newH cs 4000 := by
  rcases h with rfl | h
  · rfl
  · unfold Draw.newH; rw [List.take_of_length_le h, List.take_of_length_le (by omega)]
def Draw.start (cs : List Int) : Nat × Int := (0, Draw.newH cs 4000)

set_option maxHeartbeats 400000 in
set_option maxRecDepth 100000 in
theorem l1New_any (w : World) (k : Code) (hcode : CodeIn w w.heap.size k.a k.cs) (hlen : k.cs.length ≤ 1048576) :
    Calls Try.prog 36 #[.slice k.a k.cs.length k.cap] w fun e w' => e = .returned (.pointer (some ⟨w.heap.size, 0, none⟩)) ∧ CurAt w' w.heap.size k (Draw.start k.cs) ∧ w.grownBy w' none := by
  obtain ⟨a, cs, cap⟩ := k
  simp only at hcode hlen ⊢
  have Hcode := Lib.hid hcode
  clear hcode
  go_enter Try.func36, Try.ntmps36
  go_wp2
  go_loop [3, 4] (fun hv iv => ∃ m : Nat, (m : Int) ≤ 4000 ∧ m ≤ cs.length ∧ iv = .int .i64 m ∧ hv = .int .i64 (Draw.newH cs m)) (fun _ i => 4000 - (intOf i).toNat)
  case atStart => exact ⟨0, by omega, by omega, rfl, rfl⟩
  case round =>
    obtain ⟨m, hm1, hm2, rfl, rfl⟩ := hrel
    obtain ⟨b0, b1⟩ := Draw.newH_bd cs m hlen
    by_cases hlt : m < cs.length
    · by_cases hlt4 : (m : Int) < 4000
      · obtain ⟨b, off, rfl, hbB, hcell, hx0, hx1⟩ := Hcode.out m hlt
        have Hs := Lib.hid (Draw.newH_succ cs m hlt)
        obtain ⟨x, hx⟩ : ∃ x, x = cs.getD m 0 := ⟨_, rfl⟩
        rw [← hx] at hcell hx0 hx1 Hs
        clear hx
        have hand := Kit.i64_and30 (Draw.newH cs m * 131 + x + 7)
        go_wp2
        go_round
        case rel => exact ⟨m + 1, by omega, by omega, by go_num, by rw [Hs.out]; rfl⟩
        case measure => simp [intOf]; omega
      · have Hm := Lib.hid (Draw.newH_min cs m (by omega) (Or.inl (by omega)))
        go_wp2
        go_ret
        refine ⟨rfl, ⟨?_, ?_, hlen⟩, ?_⟩
        · unfold Cur Draw.start
          rw [← Hm.out]
          exact heap_alloc_new w _
        · intro j hj
          obtain ⟨b, off, h1, h2, h3, h4⟩ := Hcode.out j hj
          exact ⟨b, off, h1, h2, by rw [World.cell?_of_block (w := w) (Below.heap_alloc _ _ _ h2)]; exact h3, h4⟩
        · exact ⟨rfl, rfl, rfl, by simp, fun k hk _ => Below.heap_alloc _ _ _ hk⟩
    · have Hm := Lib.hid (Draw.newH_min cs m (by omega) (Or.inr (by omega)))
      go_wp2
      go_ret
      refine ⟨rfl, ⟨?_, ?_, hlen⟩, ?_⟩
      · unfold Cur Draw.start
        rw [← Hm.out]
        exact heap_alloc_new w _
      · intro j hj
        obtain ⟨b, off, h1, h2, h3, h4⟩ := Hcode.out j hj
        exact ⟨b, off, h1, h2, by rw [World.cell?_of_block (w := w) (Below.heap_alloc _ _ _ h2)]; exact h3, h4⟩
      · exact ⟨rfl, rfl, rfl, by simp, fun k hk _ => Below.heap_alloc _ _ _ hk⟩

set_option maxHeartbeats 400000 in
theorem l1PickInt_any (w : World) (B g : Nat) (k : Code) (s : Nat × Int) (c : CurAt w B k s) (xs : List Int) (n : Nat) (hn : n = xs.length) (hpos : 0 < (n : Int)) (hn2 : (n : Int) ≤ 1000) (hg : B < g) (hg2 : g < w.heap.size)
    (hcells : ∀ j, j < xs.length → w.cell? ⟨g, j, none⟩ = some (.int .i64 (xs.getD j 0))) :
    Calls Try.prog 58 #[.pointer (some ⟨B, 0, none⟩), .slice (some ⟨g, 0, none⟩) n n] w fun e w' => e = .returned (.int .i64 (xs.getD (Draw.below k.cs n s).1.toNat 0)) ∧ CurAt w' B k (Draw.below k.cs n s).2 ∧ w.grownBy w' (some B) := by
  have Hcells := Lib.hid hcells
  have Hn := Lib.hid hn
  clear hcells hn
  obtain ⟨d0, d1⟩ := Draw.below_bd k.cs n s hpos
  go_enter Try.func58, Try.ntmps58
  go_wp2_with fail
  refine (l1Below_any _ B k n s c).mono ?_
  rintro e w1 ⟨rfl, c1, g1⟩
  have C1 := Lib.hid c1
  obtain ⟨D, hD⟩ : ∃ D : Nat, (D : Int) = (Draw.below k.cs n s).1 := ⟨_, Int.toNat_of_nonneg d0⟩
  rw [← hD] at d1 ⊢
  have hcell : w1.cell? ⟨g, D, none⟩ = some (.int .i64 (xs.getD D 0)) := by
    rw [World.cell?_of_block (w := w) (g1.block g hg2 (by intro e; injection e with e; omega))]
    exact Hcells.out D (by have := Hn.out; omega)
  have HD := Lib.hid hD
  clear hD c1 c
  go_wp2
  go_ret
  exact ⟨by rw [← HD.out]; simp, C1.out, g1⟩

end Go.Proofs.Ytpdpkcadolcbmaa
