/- Contracts (DrawX). -/
import Derived.Test.YtpdpkcadolcbmaaDraw2
namespace Go.Proofs.Ytpdpkcadolcbmaa
open Go.RowKit
set_option linter.unusedVariables false

/-- the cursor stands somewhere -/
def CurX (w : World) (B : Nat) (k : Code) : Prop := ∃ s, CurAt w B k s
theorem CurX.lt {w : World} {B : Nat} {k : Code} (h : CurX w B k) : B < w.heap.size := by obtain ⟨s, h⟩ := h; exact h.lt
theorem CurX.alloc {w : World} {B : Nat} {k : Code} (h : CurX w B k) (o : Obj) : CurX (w.alloc o) B k := by obtain ⟨s, h⟩ := h; exact ⟨s, h.alloc o⟩
theorem CurX.drewN {w : World} {B : Nat} {k : Code} (h : CurX w B k) (n : Nat) : CurX (w.drewN n) B k := h
theorem CurX.kept {w w' : World} {B : Nat} {k : Code} {r : Option Nat} (h : CurX w B k) (hg : w.grownBy w' r) (hr : ∀ g, r = some g → B < g) : CurX w' B k := by obtain ⟨s, h⟩ := h; exact ⟨s, h.kept hg hr⟩
theorem l1New_ex (w : World) (k : Code) (hcode : CodeIn w w.heap.size k.a k.cs) (hlen : k.cs.length ≤ 1048576) :
    Calls Try.prog 36 #[.slice k.a k.cs.length k.cap] w fun e w' => e = .returned (.pointer (some ⟨w.heap.size, 0, none⟩)) ∧ CurX w' w.heap.size k ∧ w.grownBy w' none :=
  (l1New_any w k hcode hlen).mono fun e w' ⟨h1, h2, h3⟩ => ⟨h1, ⟨_, h2⟩, h3⟩
theorem l1Below_ex (w : World) (B : Nat) (k : Code) (n : Int) (c : CurX w B k) :
    Calls Try.prog 57 #[.pointer (some ⟨B, 0, none⟩), .int .i64 n] w fun e w' => ∃ v : Nat, e = .returned (.int .i64 v) ∧ ((v : Int) < n ∨ v = 0) ∧ CurX w' B k ∧ w.grownBy w' (some B) := by
  obtain ⟨s, c⟩ := c
  refine (l1Below_any w B k n s c).mono fun e w' ⟨h1, h2, h3⟩ => ?_
  by_cases hn : n ≤ 0
  · exact ⟨0, by rw [h1, Draw.below_zero _ _ _ hn]; rfl, .inr rfl, ⟨_, h2⟩, h3⟩
  · have hb := Draw.below_bd k.cs n s (by omega)
    obtain ⟨v, hv⟩ := Int.eq_ofNat_of_zero_le hb.1
    exact ⟨v, by rw [h1, hv], .inl (by omega), ⟨_, h2⟩, h3⟩
theorem l1PickInt_ex (w : World) (B g : Nat) (k : Code) (c : CurX w B k) (xs : List Int) (n : Nat) (hn : n = xs.length) (hpos : 0 < (n : Int)) (hn2 : (n : Int) ≤ 1000) (hg : B < g) (hg2 : g < w.heap.size)
    (hcells : ∀ j, j < xs.length → w.cell? ⟨g, j, none⟩ = some (.int .i64 (xs.getD j 0))) :
    Calls Try.prog 58 #[.pointer (some ⟨B, 0, none⟩), .slice (some ⟨g, 0, none⟩) n n] w fun e w' => ∃ v : Int, e = .returned (.int .i64 v) ∧ CurX w' B k ∧ w.grownBy w' (some B) := by
  obtain ⟨s, c⟩ := c
  exact (l1PickInt_any w B g k s c xs n hn hpos hn2 hg hg2 hcells).mono fun e w' ⟨h1, h2, h3⟩ => ⟨_, h1, ⟨_, h2⟩, h3⟩

end Go.Proofs.Ytpdpkcadolcbmaa
