/- Contracts (Co). -/
import Derived.Test.YtkccnlcghlkioaaMem
import Derived.Test.YtkccnlcghlkioaaLab
namespace Go.Proofs.Ytkccnlcghlkioaa
open Go.RowKit
set_option linter.unusedVariables false

/-! Costs: three rows of numbers. -/
structure Co where
  d : List Int
  i : List Int
  r : List Int
def Zs.fit (zs : List Int) (n : Nat) : Bool := zs.all (fun z => decide (0 ≤ z ∧ z ≤ 1000)) && decide (zs.length = n)
def Co.diag (k : Co) : Bool := (List.range 6).all fun a => decide (k.r.getD (a * 6 + a) 0 = 0)
def Co.ok (k : Co) : Bool := Zs.fit k.d 6 && Zs.fit k.i 6 && Zs.fit k.r 36 && Co.diag k
theorem Zs.fit_iff {zs : List Int} {n : Nat} : Zs.fit zs n = true ↔ zs.length = n ∧ ∀ k, k < zs.length → 0 ≤ Zs.at zs k ∧ Zs.at zs k ≤ 1000 := by
  simp only [Zs.fit, Bool.and_eq_true, List.all_eq_true, decide_eq_true_eq]
  constructor
  · rintro ⟨h, e⟩
    refine ⟨e, fun k hk => ?_⟩
    have := h (zs[k]) (List.getElem_mem hk)
    simpa [Zs.at, List.getD_eq_getElem?_getD, hk] using this
  · rintro ⟨e, h⟩
    refine ⟨fun z hz => ?_, e⟩
    obtain ⟨k, hk, rfl⟩ := List.getElem_of_mem hz
    have := h k hk
    simpa [Zs.at, List.getD_eq_getElem?_getD, hk] using this
/-- the first k numbers stand within bounds -/
def Zs.inTo (zs : List Int) (k : Nat) : Prop := ∀ j, j < k → 0 ≤ Zs.at zs j ∧ Zs.at zs j ≤ 1000
theorem Zs.fit_not {zs : List Int} {k n : Nat} (hk : k < zs.length) (h : ¬ (0 ≤ Zs.at zs k ∧ Zs.at zs k ≤ 1000)) : Zs.fit zs n = false := by
  rw [Bool.eq_false_iff]
  exact fun e => h ((Zs.fit_iff.1 e).2 k hk)
theorem Zs.fit_all {zs : List Int} {n : Nat} (h : Zs.inTo zs zs.length) : Zs.fit zs n = decide (zs.length = n) := by
  rw [Bool.eq_iff_iff, Zs.fit_iff]
  simp only [decide_eq_true_eq]
  exact ⟨fun e => e.1, fun e => ⟨e, h⟩⟩
def Co.del (k : Co) (a : Int) : Int := if Co.ok k && Lab.ok a then Zs.at k.d a.toNat else 0
def Co.ins (k : Co) (a : Int) : Int := if Co.ok k && Lab.ok a then Zs.at k.i a.toNat else 0
def Co.rel (k : Co) (a b : Int) : Int := if Co.ok k && Lab.ok a && Lab.ok b then Zs.at k.r (a * 6 + b).toNat else 0
theorem Co.ok_iff {k : Co} : Co.ok k = true ↔ Zs.fit k.d 6 = true ∧ Zs.fit k.i 6 = true ∧ Zs.fit k.r 36 = true ∧ Co.diag k = true := by
  simp only [Co.ok, Bool.and_eq_true, and_assoc]
/-- the three slices of a cost read as k -/
def CoIn (w : World) (B : Nat) (A0 A1 A2 : Option Addr) (n0 n1 n2 : Nat) (k : Co) : Prop := IntIn w B A0 n0 k.d ∧ IntIn w B A1 n1 k.i ∧ IntIn w B A2 n2 k.r
section
variable {w w' : World} {B : Nat} {A0 A1 A2 : Option Addr} {n0 n1 n2 : Nat} {k : Co}
theorem CoIn.below (h : CoIn w B A0 A1 A2 n0 n1 n2 k) (hb : Below B w w') : CoIn w' B A0 A1 A2 n0 n1 n2 k := ⟨h.1.below hb, h.2.1.below hb, h.2.2.below hb⟩
theorem CoIn.drawn (h : CoIn w B A0 A1 A2 n0 n1 n2 k) (hd : Drawn w w') : CoIn w' B A0 A1 A2 n0 n1 n2 k := ⟨h.1.drawn hd, h.2.1.drawn hd, h.2.2.drawn hd⟩
theorem CoIn.to_below (h : CoIn w w.heap.size A0 A1 A2 n0 n1 n2 k) (hb : Below w.heap.size w w') : CoIn w' w'.heap.size A0 A1 A2 n0 n1 n2 k := ⟨h.1.to_below hb, h.2.1.to_below hb, h.2.2.to_below hb⟩
theorem CoIn.to_drawn (h : CoIn w w.heap.size A0 A1 A2 n0 n1 n2 k) (hd : Drawn w w') : CoIn w' w'.heap.size A0 A1 A2 n0 n1 n2 k := h.to_below hd.toBelow
theorem CoIn.more {B' : Nat} (h : CoIn w B A0 A1 A2 n0 n1 n2 k) (hB : B ≤ B') : CoIn w B' A0 A1 A2 n0 n1 n2 k := ⟨h.1.more hB, h.2.1.more hB, h.2.2.more hB⟩
theorem CoIn.len (h : CoIn w B A0 A1 A2 n0 n1 n2 k) : k.d.length = n0 ∧ k.i.length = n1 ∧ k.r.length = n2 := ⟨h.1.1, h.2.1.1, h.2.2.1⟩
end

end Go.Proofs.Ytkccnlcghlkioaa
