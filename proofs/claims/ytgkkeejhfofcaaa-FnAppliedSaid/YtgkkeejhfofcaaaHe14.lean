/- Texts of one claim laid into one file, in build order: Opa, Oal, Nat, Ocd, CloneI, ShI. -/
import Derived.Test.YtgkkeejhfofcaaaHe13
import Derived.Test.YtgkkeejhfofcaaaHe2
import Derived.Test.YtgkkeejhfofcaaaHe8
import Derived.Outline
import Derived.Test.YtgkkeejhfofcaaaRows
/- Contracts (Opa). -/
namespace Go.Proofs.Ytgkkeejhfofcaaa
open Go.RowKit
set_option linter.unusedVariables false


/-! Operations and lists of them, as mathematics. -/
/-- an operation: its kind, path, label, from, count -/
structure Opr where
  k : Int
  p : List Int
  a : Int
  f : Int
  c : Int
/-- the greatest depth that m nodes from place f on, put below i's kid, would have -/
def Oc.deep (xs : Tr) (i f : Nat) : Nat → Int
  | 0 => Tr.d xs i + 1
  | m + 1 => max (Oc.deep xs i f m) (Tr.d xs (f + m) + 1)
theorem Oc.deep_le {xs : Tr} {i f : Nat} {z : Int} : ∀ m, Oc.deep xs i f m ≤ z ↔ Tr.d xs i + 1 ≤ z ∧ ∀ k, f ≤ k → k < f + m → Tr.d xs k + 1 ≤ z
  | 0 => ⟨fun h => ⟨h, fun k h1 h2 => by omega⟩, fun h => h.1⟩
  | m + 1 => by
    have ih := Oc.deep_le (xs := xs) (i := i) (f := f) (z := z) m
    constructor
    · intro h
      have h' : max (Oc.deep xs i f m) (Tr.d xs (f + m) + 1) ≤ z := h
      obtain ⟨a, b⟩ := ih.1 (by omega)
      refine ⟨a, fun k h1 h2 => ?_⟩
      rcases Nat.lt_or_ge k (f + m) with c | c
      · exact b k h1 c
      · obtain rfl : k = f + m := by omega
        omega
    · rintro ⟨a, b⟩
      have h1 := ih.2 ⟨a, fun k h1 h2 => b k h1 (by omega)⟩
      have h2 := b (f + m) (by omega) (by omega)
      show max (Oc.deep xs i f m) (Tr.d xs (f + m) + 1) ≤ z
      omega
/-- what is wrong with an operation for node i (-1: there is none), 0: nothing -/
def Oc.code (xs : Tr) (o : Opr) (i : Int) : Int :=
  if ¬ (1 ≤ o.k ∧ o.k ≤ 3) then 1
  else if i < 0 then 2
  else if o.k ≠ 2 ∧ Lab.ok o.a = false then 3
  else if o.k = 2 ∧ i = 0 then 4
  else if o.k ≠ 3 then 0
  else if ¬ (0 ≤ o.f ∧ o.f ≤ (Tr.kidsTo xs i.toNat (Tr.endN xs i.toNat)).length ∧ 0 ≤ o.c ∧ o.c ≤ (Tr.kidsTo xs i.toNat (Tr.endN xs i.toNat)).length - o.f) then 5
  else if xs.length = 24 then 6
  else if 12 < Oc.deep xs i.toNat (Tr.cut xs i.toNat o.f.toNat) (Tr.cut xs i.toNat (o.f.toNat + o.c.toNat) - Tr.cut xs i.toNat o.f.toNat) then 7
  else 0
/-- the new list of an operation with which nothing is wrong -/
def Oc.new (xs : Tr) (o : Opr) (i : Nat) : Tr :=
  if o.k = 1 then Oc.rel xs i o.a else if o.k = 2 then Oc.del xs i else Oc.ins xs i o.a (Tr.cut xs i o.f.toNat) (Tr.cut xs i (o.f.toNat + o.c.toNat))
def Oc.apply (xs : Tr) (o : Opr) : Tr × Int :=
  if Tr.ok xs then
    if Oc.code xs o (Tr.nodeAt xs o.p) = 0 then (Oc.new xs o (Tr.nodeAt xs o.p).toNat, 0) else (xs, Oc.code xs o (Tr.nodeAt xs o.p))
  else ([], 2)
section
variable {xs : Tr} {o : Opr}
theorem Oc.code_range (i : Int) : 0 ≤ Oc.code xs o i ∧ Oc.code xs o i ≤ 7 := by
  unfold Oc.code
  repeat' split
  all_goals omega
theorem Oc.apply_no (h : Tr.ok xs = false) : Oc.apply xs o = ([], 2) := by unfold Oc.apply; rw [h]; rfl
theorem Oc.apply_code (h : Tr.ok xs = true) : (Oc.apply xs o).2 = Oc.code xs o (Tr.nodeAt xs o.p) := by
  unfold Oc.apply
  rw [if_pos h]
  split
  · rename_i e; rw [e]
  · rfl
theorem Oc.apply_fail (h : Tr.ok xs = true) (hc : Oc.code xs o (Tr.nodeAt xs o.p) ≠ 0) : Oc.apply xs o = (xs, Oc.code xs o (Tr.nodeAt xs o.p)) := by
  unfold Oc.apply; rw [if_pos h, if_neg hc]
theorem Oc.apply_done (h : Tr.ok xs = true) (hc : Oc.code xs o (Tr.nodeAt xs o.p) = 0) : Oc.apply xs o = (Oc.new xs o (Tr.nodeAt xs o.p).toNat, 0) := by
  unfold Oc.apply; rw [if_pos h, if_pos hc]
/-- nothing is wrong: which node, and what that says of each kind -/
theorem Oc.right (h : Tr.ok xs = true) (hc : Oc.code xs o (Tr.nodeAt xs o.p) = 0) : ∃ i : Nat, i < xs.length ∧ Tr.nodeAt xs o.p = i ∧
    ((o.k = 1 ∧ 0 ≤ o.a ∧ o.a ≤ 5) ∨ (o.k = 2 ∧ 0 < i) ∨
     (o.k = 3 ∧ (0 ≤ o.a ∧ o.a ≤ 5) ∧ 0 ≤ o.f ∧ 0 ≤ o.c ∧ o.f.toNat + o.c.toNat ≤ (Tr.kidsTo xs i (Tr.endN xs i)).length ∧ xs.length ≠ 24 ∧ Tr.d xs i + 1 ≤ 12 ∧ ∀ k, Tr.cut xs i o.f.toNat ≤ k → k < Tr.cut xs i (o.f.toNat + o.c.toNat) → Tr.d xs k + 1 ≤ 12)) := by
  have n := Tr.len24 h
  have r : Tr.nodeAt xs o.p = -1 ∨ ∃ i : Nat, Tr.nodeAt xs o.p = i ∧ i < xs.length := by
    unfold Tr.nodeAt
    rw [if_pos h]
    rcases Tr.walk_range h o.p 0 (by omega) with e | ⟨r, e, _, hr⟩
    · exact .inl e
    · exact .inr ⟨r, e, hr⟩
  unfold Oc.code at hc
  by_cases c1 : ¬ (1 ≤ o.k ∧ o.k ≤ 3)
  · rw [if_pos c1] at hc; omega
  rw [if_neg c1] at hc
  by_cases c2 : Tr.nodeAt xs o.p < 0
  · rw [if_pos c2] at hc; omega
  rw [if_neg c2] at hc
  obtain ⟨i, hi, hin⟩ := r.resolve_left (by omega)
  rw [hi] at hc c2
  rw [show ((i : Int)).toNat = i by omega] at hc
  refine ⟨i, hin, hi, ?_⟩
  by_cases c3 : o.k ≠ 2 ∧ Lab.ok o.a = false
  · rw [if_pos c3] at hc; omega
  rw [if_neg c3] at hc
  by_cases c4 : o.k = 2 ∧ (i : Int) = 0
  · rw [if_pos c4] at hc; omega
  rw [if_neg c4] at hc
  have lab : o.k ≠ 2 → 0 ≤ o.a ∧ o.a ≤ 5 := fun e => by
    cases hl : Lab.ok o.a with
    | false => exact absurd ⟨e, hl⟩ c3
    | true => simpa [Lab.ok] using hl
  by_cases c5 : o.k ≠ 3
  · by_cases c6 : o.k = 2
    · exact .inr (.inl ⟨c6, by omega⟩)
    · exact .inl ⟨by omega, lab c6⟩
  rw [if_neg c5] at hc
  by_cases c7 : ¬ (0 ≤ o.f ∧ o.f ≤ (Tr.kidsTo xs i (Tr.endN xs i)).length ∧ 0 ≤ o.c ∧ o.c ≤ (Tr.kidsTo xs i (Tr.endN xs i)).length - o.f)
  · rw [if_pos c7] at hc; omega
  rw [if_neg c7] at hc
  by_cases c8 : xs.length = 24
  · rw [if_pos c8] at hc; omega
  rw [if_neg c8] at hc
  have hq : o.f.toNat + o.c.toNat ≤ (Tr.kidsTo xs i (Tr.endN xs i)).length := by omega
  have mono := Tr.cut_mono h hin (q := o.f.toNat) (r := o.f.toNat + o.c.toNat) (by omega) hq
  by_cases c9 : 12 < Oc.deep xs i (Tr.cut xs i o.f.toNat) (Tr.cut xs i (o.f.toNat + o.c.toNat) - Tr.cut xs i o.f.toNat)
  · rw [if_pos c9] at hc; omega
  obtain ⟨d1, d2⟩ := (Oc.deep_le _).1 (show Oc.deep xs i (Tr.cut xs i o.f.toNat) (Tr.cut xs i (o.f.toNat + o.c.toNat) - Tr.cut xs i o.f.toNat) ≤ 12 by omega)
  exact .inr (.inr ⟨by omega, lab (by omega), by omega, by omega, hq, c8, d1, fun k h1 h2 => d2 k h1 (by omega)⟩)
/-- a successful operation: a valid tree, a node more or less or as many, at most one away -/
theorem Oc.new_ok (h : Tr.ok xs = true) (hc : Oc.code xs o (Tr.nodeAt xs o.p) = 0) :
    Tr.ok (Oc.new xs o (Tr.nodeAt xs o.p).toNat) = true ∧ ((Oc.new xs o (Tr.nodeAt xs o.p).toNat).length : Int) = xs.length + (if o.k = 3 then 1 else if o.k = 2 then -1 else 0) ∧ Tr.rootDist xs (Oc.new xs o (Tr.nodeAt xs o.p).toNat) Co.unit ≤ 1 := by
  obtain ⟨i, hi, hp, hk⟩ := Oc.right h hc
  rw [hp, show ((i : Int)).toNat = i by omega]
  unfold Oc.new
  rcases hk with ⟨e, ha⟩ | ⟨e, h0⟩ | ⟨e, ha, hf, hcc, hq, hn, hd, hdd⟩
  · rw [if_pos e, if_neg (by omega), if_neg (by omega)]
    exact ⟨Oc.rel_ok h hi ha, by rw [Oc.rel_len]; omega, Oc.rel_near h hi ha⟩
  · rw [if_neg (by omega), if_pos e, if_neg (by omega), if_pos e]
    exact ⟨Oc.del_ok h hi h0, by rw [Oc.del_len hi]; omega, (Oc.del_near h hi h0).1⟩
  · rw [if_neg (by omega), if_neg (by omega), if_pos e]
    obtain ⟨bf, _, _⟩ := Tr.cut_bound h hi o.f.toNat (by omega)
    obtain ⟨bt, _, _⟩ := Tr.cut_bound h hi _ hq
    have mono := Tr.cut_mono h hi (q := o.f.toNat) (r := o.f.toNat + o.c.toNat) (by omega) hq
    have ok := Oc.ins_ok h hi ha bf bt mono hn hd hdd
    have e2 := (Tr.endN_spec xs i hi).2.1
    have t2 := bt.2.1
    exact ⟨ok, by rw [Oc.ins_len mono (by omega)]; omega, Oc.ins_near h hi bf bt mono ok⟩
end
/-! several, one behind the other -/
def Oc.all : Tr → List Opr → Tr × Nat × Int
  | xs, [] => (xs, 0, 0)
  | xs, o :: os => if (Oc.apply xs o).2 = 0 then ((Oc.all (Oc.apply xs o).1 os).1, (Oc.all (Oc.apply xs o).1 os).2.1 + 1, (Oc.all (Oc.apply xs o).1 os).2.2) else (xs, 0, (Oc.apply xs o).2)
def Oc.allOf (xs : Tr) (os : List Opr) : Tr × Nat × Int := if Tr.ok xs then Oc.all xs os else ([], 0, 2)
theorem Oc.all_ok : ∀ (os : List Opr) (xs : Tr), Tr.ok xs = true → Tr.ok (Oc.all xs os).1 = true ∧ (Oc.all xs os).2.1 ≤ os.length ∧ ((Oc.all xs os).2.1 = os.length ↔ (Oc.all xs os).2.2 = 0) ∧ 0 ≤ (Oc.all xs os).2.2 ∧ (Oc.all xs os).2.2 ≤ 7
  | [], xs, h => by simp [Oc.all, h]
  | o :: os, xs, h => by
    rw [Oc.all]
    by_cases c : (Oc.apply xs o).2 = 0
    · rw [if_pos c]
      rw [Oc.apply_code h] at c
      obtain ⟨a, b, d, e⟩ := Oc.all_ok os (Oc.apply xs o).1 (by rw [Oc.apply_done h c]; exact (Oc.new_ok h c).1)
      refine ⟨a, by simp only [List.length_cons]; omega, ?_, e⟩
      rw [← d]
      simp only [List.length_cons]
      omega
    · rw [if_neg c]
      have r := Oc.code_range (xs := xs) (o := o) (Tr.nodeAt xs o.p)
      rw [← Oc.apply_code h] at r
      exact ⟨h, Nat.zero_le _, ⟨fun e => by simp at e, fun e => absurd e c⟩, r⟩
/-- in two parts as at once -/
theorem Oc.all_parts : ∀ (os : List Opr) (xs : Tr) (k : Nat), Tr.ok xs = true → k ≤ (Oc.all xs os).2.1 → (Oc.all xs (os.take k)).2 = (k, 0) ∧
    Oc.all (Oc.all xs (os.take k)).1 (os.drop k) = ((Oc.all xs os).1, (Oc.all xs os).2.1 - k, (Oc.all xs os).2.2)
  | os, xs, 0, h, _ => by simp [Oc.all]
  | [], xs, k + 1, h, hk => by simp [Oc.all] at hk
  | o :: os, xs, k + 1, h, hk => by
    rw [Oc.all] at hk
    by_cases c : (Oc.apply xs o).2 = 0
    · rw [if_pos c] at hk
      dsimp only at hk
      have c' := c
      rw [Oc.apply_code h] at c'
      obtain ⟨a, b⟩ := Oc.all_parts os (Oc.apply xs o).1 k (by rw [Oc.apply_done h c']; exact (Oc.new_ok h c').1) (by omega)
      rw [List.take_succ_cons, List.drop_succ_cons, Oc.all, if_pos c, Oc.all, if_pos c]
      refine ⟨by rw [a], ?_⟩
      rw [b]
      simp only [Prod.mk.injEq, true_and]
      exact ⟨by omega, trivial⟩
    · rw [if_neg c] at hk
      dsimp only at hk
      omega

end Go.Proofs.Ytgkkeejhfofcaaa

/- Contracts (Oal). -/
namespace Go.Proofs.Ytgkkeejhfofcaaa
open Go.RowKit
set_option linter.unusedVariables false

theorem Oc.apply_len (xs : Tr) (o : Opr) : (Oc.apply xs o).1.length ≤ 24 := by
  rcases h : Tr.ok xs with _ | _
  · rw [Oc.apply_no h]; exact Nat.zero_le _
  · by_cases c : Oc.code xs o (Tr.nodeAt xs o.p) = 0
    · rw [Oc.apply_done h c]
      exact (Tr.len24 (Oc.new_ok h c).1).2
    · rw [Oc.apply_fail h c]
      exact (Tr.len24 h).2

end Go.Proofs.Ytgkkeejhfofcaaa

/- Contracts (Nat). -/
namespace Go.Proofs.Ytgkkeejhfofcaaa
open Go.RowKit
set_option linter.unusedVariables false

theorem Tr.kids_at {xs : Tr} {i m : Nat} (hh : Tr.has xs i = true) (hm : m < (Tr.kidsI xs i).length) : Zs.at (Tr.kidsI xs i) m = (((Tr.kidsTo xs i (Tr.endN xs i)).getD m 0 : Nat) : Int) := by
  rw [Tr.kidsI_yes hh] at hm ⊢
  unfold Tr.kidsZ at hm ⊢
  rw [List.length_map] at hm
  simp [Zs.at, List.getD_eq_getElem?_getD, hm]
theorem Tr.kidsI_length {xs : Tr} {i : Nat} (hh : Tr.has xs i = true) : (Tr.kidsI xs i).length = (Tr.kidsTo xs i (Tr.endN xs i)).length := by rw [Tr.kidsI_yes hh]; simp [Tr.kidsZ]
/-- one step of a path -/
theorem Tr.walk_step {xs : Tr} {p : List Int} {i k : Nat} (hok : Tr.ok xs = true) (hi : i < xs.length) (hk : k < p.length) :
    if 0 ≤ Zs.at p k ∧ Zs.at p k < (Tr.kidsI xs i).length then ∃ j : Nat, j < xs.length ∧ Zs.at (Tr.kidsI xs i) (Zs.at p k).toNat = j ∧ Tr.walk xs i (p.drop k) = Tr.walk xs j (p.drop (k + 1)) else Tr.walk xs i (p.drop k) = -1 := by
  have hh : Tr.has xs i = true := Tr.has_iff.2 ⟨hok, by omega, by omega⟩
  have hl := Tr.kidsI_length hh
  have e : p.drop k = Zs.at p k :: p.drop (k + 1) := by
    rw [List.drop_eq_getElem_cons hk]
    simp [Zs.at, List.getD_eq_getElem?_getD, hk]
  rw [e, Tr.walk]
  by_cases c : 0 ≤ Zs.at p k ∧ Zs.at p k < (Tr.kidsI xs i).length
  · rw [if_pos c, if_pos (by omega)]
    obtain ⟨h1, h2, h3⟩ := Tr.cut_bound hok hi (Zs.at p k).toNat (by omega)
    obtain ⟨h4, h5⟩ := h3 (by omega)
    have e2 := (Tr.endN_spec xs i hi).2.1
    exact ⟨_, by rw [h5]; omega, Tr.kids_at hh (by omega), rfl⟩
  · rw [if_neg c, if_neg (by omega)]

end Go.Proofs.Ytgkkeejhfofcaaa

/- Contracts (Ocd). -/
namespace Go.Proofs.Ytgkkeejhfofcaaa
open Go.RowKit
set_option linter.unusedVariables false

/-- what is wrong with an insertion below i of a node with a valid label -/
def Oc.icode (xs : Tr) (i : Nat) (f z : Int) : Int :=
  if ¬ (0 ≤ f ∧ f ≤ (Tr.kidsTo xs i (Tr.endN xs i)).length ∧ 0 ≤ z ∧ z ≤ (Tr.kidsTo xs i (Tr.endN xs i)).length - f) then 5
  else if xs.length = 24 then 6
  else if 12 < Oc.deep xs i (Tr.cut xs i f.toNat) (Tr.cut xs i (f.toNat + z.toNat) - Tr.cut xs i f.toNat) then 7
  else 0
section
variable {xs : Tr} {i : Nat} {f z : Int} {o : Opr}
theorem Oc.icode5 (h : ¬ (0 ≤ f ∧ f ≤ (Tr.kidsTo xs i (Tr.endN xs i)).length ∧ 0 ≤ z ∧ z ≤ (Tr.kidsTo xs i (Tr.endN xs i)).length - f)) : Oc.icode xs i f z = 5 := by unfold Oc.icode; rw [if_pos h]
theorem Oc.icode6 (h : 0 ≤ f ∧ f ≤ (Tr.kidsTo xs i (Tr.endN xs i)).length ∧ 0 ≤ z ∧ z ≤ (Tr.kidsTo xs i (Tr.endN xs i)).length - f) (hn : xs.length = 24) : Oc.icode xs i f z = 6 := by unfold Oc.icode; rw [if_neg (by simpa using h), if_pos hn]
theorem Oc.icode_deep (h : 0 ≤ f ∧ f ≤ (Tr.kidsTo xs i (Tr.endN xs i)).length ∧ 0 ≤ z ∧ z ≤ (Tr.kidsTo xs i (Tr.endN xs i)).length - f) (hn : xs.length ≠ 24) : Oc.icode xs i f z = if 12 < Oc.deep xs i (Tr.cut xs i f.toNat) (Tr.cut xs i (f.toNat + z.toNat) - Tr.cut xs i f.toNat) then 7 else 0 := by unfold Oc.icode; rw [if_neg (by simpa using h), if_neg hn]
theorem Oc.code1 {x : Int} (h : ¬ (1 ≤ o.k ∧ o.k ≤ 3)) : Oc.code xs o x = 1 := by unfold Oc.code; rw [if_pos h]
theorem Oc.code2 {x : Int} (h : 1 ≤ o.k ∧ o.k ≤ 3) (hx : x < 0) : Oc.code xs o x = 2 := by unfold Oc.code; rw [if_neg (by simpa using h), if_pos hx]
theorem Oc.code3 {x : Int} (h : 1 ≤ o.k ∧ o.k ≤ 3) (hx : ¬ x < 0) (h2 : o.k ≠ 2) (hl : Lab.ok o.a = false) : Oc.code xs o x = 3 := by unfold Oc.code; rw [if_neg (by simpa using h), if_neg hx, if_pos ⟨h2, hl⟩]
theorem Oc.code_del {x : Int} (h2 : o.k = 2) (hx : ¬ x < 0) : Oc.code xs o x = if x = 0 then 4 else 0 := by
  unfold Oc.code
  rw [if_neg (by omega), if_neg hx, if_neg (by simp [h2])]
  by_cases e : x = 0
  · rw [if_pos ⟨h2, e⟩, if_pos e]
  · rw [if_neg (fun c => e c.2), if_pos (by omega), if_neg e]
theorem Oc.code_rel {x : Int} (h1 : o.k = 1) (hx : ¬ x < 0) (hl : Lab.ok o.a = true) : Oc.code xs o x = 0 := by
  unfold Oc.code
  rw [if_neg (by omega), if_neg hx, if_neg (by simp [hl]), if_neg (by omega), if_pos (by omega)]
theorem Oc.code_ins (h3 : o.k = 3) (hl : Lab.ok o.a = true) : Oc.code xs o (i : Int) = Oc.icode xs i o.f o.c := by
  unfold Oc.code Oc.icode
  rw [if_neg (by omega), if_neg (by omega), if_neg (by simp [hl]), if_neg (by omega), if_neg (by omega)]
  simp only [Int.toNat_natCast]
/-- a node put in keeps the tree valid just where no depth goes too far -/
theorem Oc.ins_deep {F T : Nat} {a : Int} (hok : Tr.ok xs = true) (hi : i < xs.length) (ha : Lab.ok a = true) (hF : Tr.bound xs i F) (hT : Tr.bound xs i T) (hFT : F ≤ T) (hn : xs.length ≠ 24) : Tr.ok (Oc.ins xs i a F T) = decide (¬ 12 < Oc.deep xs i F (T - F)) := by
  have hla : 0 ≤ a ∧ a ≤ 5 := by simpa [Lab.ok] using ha
  have t2 := hT.2.1
  have e2 := (Tr.endN_spec xs i hi).2.1
  have tn : T ≤ xs.length := by omega
  by_cases c : 12 < Oc.deep xs i F (T - F)
  · rw [decide_eq_false (by simpa using c), Bool.eq_false_iff]
    intro ho
    have hl := Oc.ins_len (xs := xs) (i := i) (a := a) hFT tn
    have hd : Oc.deep xs i F (T - F) ≤ 12 → False := fun h => by omega
    refine hd ((Oc.deep_le (z := 12) _).2 ⟨?_, fun k h1 h2 => ?_⟩)
    · have := (Tr.ok_at ho (k := F) (by omega)).2.1.2
      rw [Oc.ins_d hFT tn (by omega), if_neg (Nat.lt_irrefl _), if_pos rfl] at this
      exact this
    · have := (Tr.ok_at ho (k := k + 1) (by omega)).2.1.2
      rw [Oc.ins_d hFT tn (by omega), if_neg (by omega), if_neg (by omega), if_pos (by omega), show k + 1 - 1 = k by omega] at this
      exact this
  · rw [decide_eq_true (by simpa using c)]
    obtain ⟨d1, d2⟩ := (Oc.deep_le (z := 12) _).1 (show Oc.deep xs i F (T - F) ≤ 12 by omega)
    exact Oc.ins_ok hok hi hla hF hT hFT hn d1 (fun k h1 h2 => d2 k h1 (by omega))
end

end Go.Proofs.Ytgkkeejhfofcaaa

/- Contracts (CloneI). -/
namespace Go.Proofs.Ytgkkeejhfofcaaa
open Go.RowKit
set_option linter.unusedVariables false

theorem info_ndC : (Try.prog.info? 47).map (fun i => (i.zero, i.size, i.bytes)) = some (some (.agg #[.int .i64 0, .int .i64 0]), 2, 16) := by kernel_rfl

set_option maxHeartbeats 800000 in
set_option maxRecDepth 100000 in
theorem cloneNode_any (ad : Addr) (n c : Nat) (xs : Tr) (w : World) (h : NdIn w w.heap.size (some ad) n xs) (hn : n ≤ 1048576) :
    Calls Try.prog 75 #[.slice (some ad) n c] w (OwnNodes 47 xs w) := by
  have H := Lib.hid h
  clear h
  have HL := Lib.hid H.out.1
  obtain ⟨i0, hi, hz0, hz1, hz2⟩ := info_parts info_ndC
  have hnil := fun W : World => Lib.run_eql_slice_nil (P := Try.prog) W
  go_enter Try.func75, Try.ntmps75
  go_wp2_with (at_builtin; refine wpList_append_own (World.alloc w (.cells #[] 47)) rfl _ _ 24 rfl w.heap.size 47 i0 (.agg #[.int .i64 0, .int .i64 0]) 2 16 Try.underlying24 hi hz0 hz1 hz2 rfl (by omega) (.slice (some ⟨w.heap.size, 0, none⟩) 0 0) 0 [] rfl (World.ownsRow_lit w #[] 0 (Nat.le_refl _) (Nat.zero_le _) rfl) ad n c (Tr.cells xs) rfl (by rw [Tr.cells_length, HL.out]) (NdIn.cells_at (H.out.to_below ((Below.refl _ _).alloc (Nat.le_refl _) _))) (Tr.cells_cell xs) (by unfold maxLen; omega) (by omega) (by simp) ?_; intro v' w1 hown1 hgrow1 hnil1)
  clear hnil1 hnil
  have hown2 : w1.ownsRow w.heap.size 47 2 v' n (Tr.cells xs) := by simpa using hown1
  obtain ⟨A', c', rfl⟩ := own_slice hown2
  have hb : Below w.heap.size w w1 := ((Below.refl w.heap.size w).alloc (Nat.le_refl _) _).grown hgrow1 (by simp) (fun k hk => by simp [Value.ownBlock] at hk; omega)
  go_ret
  exact ⟨A', c', by rw [HL.out]; rfl, by rw [HL.out]; exact hown2, hb⟩

end Go.Proofs.Ytgkkeejhfofcaaa

/- Contracts (ShI). -/
namespace Go.Proofs.Ytgkkeejhfofcaaa
open Go.RowKit
set_option linter.unusedVariables false

/-- a cut of a slice of nodes -/
theorem NdIn.cut {w : World} {B n : Nat} {ad : Addr} {xs : Tr} (h : NdIn w B (some ad) n xs) {j m : Nat} (hjm : j + m ≤ n) : NdIn w B (some (ad.add (j * 2))) m ((xs.drop j).take m) := by
  refine ⟨by have := h.1; simp; omega, fun hm => ⟨_, rfl, ?_⟩, fun ad' e k hk => ?_⟩
  · rw [block_of_add]
    obtain ⟨ad', e, hb⟩ := h.2.1 (by omega)
    obtain rfl : ad = ad' := by injection e
    exact hb
  · obtain rfl : ad.add (j * 2) = ad' := by injection e
    have hc := h.2.2 ad rfl (j + k) (by omega)
    have hg : ((xs.drop j).take m).getD k (0, 0) = xs.getD (j + k) (0, 0) := by
      simp [List.getD_eq_getElem?_getD, hk]
    rw [add_of_add, add_of_add, show j * 2 + k * 2 = (j + k) * 2 by omega, show j * 2 + (k * 2 + 1) = (j + k) * 2 + 1 by omega]
    simp only [Tr.l, Tr.d] at hc ⊢
    rw [hg]
    exact hc
theorem Tr.cells_set_odd (xs : Tr) (k : Nat) (b : Int) : (Tr.cells xs).set (k * 2 + 1) (.int .i64 b) = Tr.cells (xs.set k (Tr.l xs k, b)) := by
  induction xs generalizing k with
  | nil => simp [Tr.cells]
  | cons x l ih =>
    cases k with
    | zero => simp [Tr.cells, Tr.l]
    | succ k =>
      have := ih k
      simp only [Tr.cells, Tr.l] at this ⊢
      simpa [show (k + 1) * 2 = k * 2 + 1 + 1 by omega] using this
/-- the first k nodes that many levels deeper -/
def Tr.up (xs : Tr) (dd : Int) (k : Nat) : Tr := (List.range xs.length).map fun t => (Tr.l xs t, if t < k then Tr.d xs t + dd else Tr.d xs t)
theorem Tr.up_length (xs : Tr) (dd : Int) (k : Nat) : (Tr.up xs dd k).length = xs.length := by simp [Tr.up]
theorem Tr.up_l {xs : Tr} {dd : Int} {k t : Nat} (h : t < xs.length) : Tr.l (Tr.up xs dd k) t = Tr.l xs t := by simp [Tr.up, Tr.l, List.getD_eq_getElem?_getD, h]
theorem Tr.up_d {xs : Tr} {dd : Int} {k t : Nat} (h : t < xs.length) : Tr.d (Tr.up xs dd k) t = if t < k then Tr.d xs t + dd else Tr.d xs t := by
  simp only [Tr.up, Tr.d, List.getD_eq_getElem?_getD]
  rw [List.getElem?_map, List.getElem?_range h]
  rfl
theorem Tr.up_none (xs : Tr) (dd : Int) : Tr.up xs dd 0 = xs := by
  refine Tr.ext (Tr.up_length _ _ _) fun k hk => ?_
  rw [Tr.up_length] at hk
  rw [Tr.up_l hk, Tr.up_d hk, if_neg (by omega)]
  exact ⟨rfl, rfl⟩
theorem Tr.up_set (xs : Tr) (dd : Int) (k : Nat) (h : k < xs.length) : (Tr.up xs dd k).set k (Tr.l xs k, Tr.d xs k + dd) = Tr.up xs dd (k + 1) := by
  refine List.ext_getElem (by simp [Tr.up]) fun t h1 h2 => ?_
  rw [Tr.up_length] at h2
  by_cases e : t = k
  · subst e
    simp [Tr.up]
  · rw [List.getElem_set_ne (by omega)]
    simp only [Tr.up, List.getElem_map, List.getElem_range]
    by_cases q : t < k
    · rw [if_pos q, if_pos (by omega)]
    · rw [if_neg q, if_neg (by omega)]
/-- nodes cut out and shifted -/
theorem Tr.up_cut (xs : Tr) (dd : Int) {j m : Nat} (h : j + m ≤ xs.length) : Tr.up ((xs.drop j).take m) dd m = (List.range m).map fun t => (Tr.l xs (j + t), Tr.d xs (j + t) + dd) := by
  have hl : ((xs.drop j).take m).length = m := by simp; omega
  unfold Tr.up
  rw [hl]
  refine List.map_congr_left fun t ht => ?_
  have ht := List.mem_range.1 ht
  have hg : ((xs.drop j).take m).getD t (0, 0) = xs.getD (j + t) (0, 0) := by simp [List.getD_eq_getElem?_getD, ht]
  rw [if_pos ht]
  simp only [Tr.l, Tr.d, hg]
set_option maxHeartbeats 800000 in
set_option maxRecDepth 100000 in
theorem shifted_any (ad : Addr) (n c : Nat) (xs : Tr) (dd : Int) (w : World) (h : NdIn w w.heap.size (some ad) n xs) (hn : n ≤ 1048576) (hd : -4000 ≤ dd ∧ dd ≤ 4000) (hx : ∀ k, k < n → -4000 ≤ Tr.d xs k ∧ Tr.d xs k ≤ 4000) :
    Calls Try.prog 135 #[.slice (some ad) n c, .int .i64 dd] w (OwnNodes 47 (Tr.up xs dd n) w) := by
  have H := Lib.hid h
  clear h
  have HL := Lib.hid H.out.1
  have HX := Lib.hid hx
  clear hx
  go_enter Try.func135, Try.ntmps135
  go_wp2_with fail
  refine (cloneNode_any _ _ _ xs _ H.out hn).mono ?_
  rintro e w3 ⟨A3, c3, rfl, hown3, hb3⟩
  rw [HL.out] at hown3 ⊢
  have Ho3 := Lib.hid hown3
  have Hb3 := Lib.hid hb3
  have H3 := Lib.hid (H.out.to_below hb3)
  clear hown3 hb3
  go_wp2
  go_loopw [11] (fun kv wr => ∃ k : Nat, k ≤ n ∧ kv = .int .i64 k ∧ wr.ownsRow w.heap.size 47 2 (.slice A3 n c3) n (Tr.cells (Tr.up xs dd k)) ∧ Below w.heap.size w wr) (fun k _ => n - (intOf k).toNat)
  case atStart => exact ⟨0, by omega, rfl, by rw [Tr.up_none]; exact Ho3.out, Hb3.out⟩
  case round =>
    obtain ⟨k, hk, rfl, hown, hB⟩ := hrel
    have Ho := Lib.hid hown
    have HB := Lib.hid hB
    by_cases hlt : k < n
    · obtain ⟨g, rfl, hg1, hg2⟩ := own_form hown (by omega)
      have hlx : k < xs.length := by rw [HL.out]; exact hlt
      have c1 := own_odd hown (k := k) (by rw [Tr.up_length]; exact hlx)
      rw [Tr.up_d hlx, if_neg (by omega)] at c1
      have f1 := hown.frozenAt (k * 2 + 1)
      have hbk := HX.out k hlt
      have a5 : IntKind.i64.wrap (Tr.d xs k + dd) = Tr.d xs k + dd := Kit.w64 (by omega) (by omega)
      clear hown hB hbk hg2
      go_wp2
      go_roundw
      case rel =>
        refine ⟨k + 1, by omega, by go_num, ?_, HB.out.setCell (by exact hg1) _⟩
        have := (Ho.out.stored (k * 2 + 1) (.int .i64 (Tr.d xs k + dd))).1
        rw [Tr.cells_set_odd, Tr.up_l hlx, Tr.up_set _ _ _ hlx] at this
        exact this
      case measure => simp [intOf]; omega
    · obtain rfl : k = n := by omega
      clear hown hB
      go_wp2
      go_ret
      exact ⟨A3, c3, by rw [Tr.up_length, HL.out]; rfl, by rw [Tr.up_length, HL.out]; exact Ho.out, HB.out⟩

end Go.Proofs.Ytgkkeejhfofcaaa
