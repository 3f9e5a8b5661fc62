/- Contracts (Fst). -/
import Derived.Test.YtkccnlcghlkioaaPst2
namespace Go.Proofs.Ytkccnlcghlkioaa
open Go.RowKit
set_option linter.unusedVariables false

/-! Ordered forests and their edit distance, as plain mathematics. -/
/-- a forest: the trees ahead, the last tree's root, the trees under it -/
inductive Fst where
  | nil : Fst
  | snoc : Fst → Int → Fst → Fst
def Fst.size : Fst → Nat
  | .nil => 0
  | .snoc l _ s => l.size + s.size + 1
def Fst.cat (f : Fst) : Fst → Fst
  | .nil => f
  | .snoc l a s => .snoc (f.cat l) a s
theorem Fst.nil_cat (f : Fst) : Fst.nil.cat f = f := by
  induction f with
  | nil => rfl
  | snoc l a s ih _ => rw [Fst.cat, ih]
theorem Fst.cat_assoc (f g h : Fst) : (f.cat g).cat h = f.cat (g.cat h) := by
  induction h with
  | nil => rfl
  | snoc l a s ih _ => rw [Fst.cat, Fst.cat, Fst.cat, ih]
theorem Fst.size_cat (f g : Fst) : (f.cat g).size = f.size + g.size := by
  induction g with
  | nil => rfl
  | snoc l a s ih _ => simp only [Fst.cat, Fst.size, ih]; omega
/-- costs as functions of labels -/
structure Cs where
  del : Int → Int
  ins : Int → Int
  rel : Int → Int → Int
def Cs.swap (K : Cs) : Cs := ⟨K.ins, K.del, fun a b => K.rel b a⟩
/-- the least cost of turning one forest into another -/
def FD (K : Cs) : Fst → Fst → Int
  | .nil, .nil => 0
  | .snoc l a s, .nil => FD K (l.cat s) .nil + K.del a
  | .nil, .snoc m b t => FD K .nil (m.cat t) + K.ins b
  | .snoc l a s, .snoc m b t => min (min (FD K (l.cat s) (.snoc m b t) + K.del a) (FD K (.snoc l a s) (m.cat t) + K.ins b)) (FD K l m + FD K s t + K.rel a b)
termination_by f g => f.size + g.size
decreasing_by all_goals (simp only [Fst.size, Fst.size_cat]; omega)
section
variable (K : Cs)
theorem FD_nn : FD K .nil .nil = 0 := by rw [FD]
theorem FD_sn (l s : Fst) (a : Int) : FD K (.snoc l a s) .nil = FD K (l.cat s) .nil + K.del a := by rw [FD]
theorem FD_ns (m t : Fst) (b : Int) : FD K .nil (.snoc m b t) = FD K .nil (m.cat t) + K.ins b := by rw [FD]
theorem FD_ss (l s m t : Fst) (a b : Int) : FD K (.snoc l a s) (.snoc m b t) = min (min (FD K (l.cat s) (.snoc m b t) + K.del a) (FD K (.snoc l a s) (m.cat t) + K.ins b)) (FD K l m + FD K s t + K.rel a b) := by rw [FD]
theorem FD_del (l s g : Fst) (a : Int) : FD K (.snoc l a s) g ≤ FD K (l.cat s) g + K.del a := by
  cases g with
  | nil => rw [FD_sn]; exact Int.le_refl _
  | snoc m b t => rw [FD_ss]; omega
theorem FD_ins (f m t : Fst) (b : Int) : FD K f (.snoc m b t) ≤ FD K f (m.cat t) + K.ins b := by
  cases f with
  | nil => rw [FD_ns]; exact Int.le_refl _
  | snoc l a s => rw [FD_ss]; omega
theorem FD_match (l s m t : Fst) (a b : Int) : FD K (.snoc l a s) (.snoc m b t) ≤ FD K l m + FD K s t + K.rel a b := by rw [FD_ss]; omega
/-- which of the three is met -/
theorem FD_cases (l s m t : Fst) (a b : Int) : FD K (.snoc l a s) (.snoc m b t) = FD K (l.cat s) (.snoc m b t) + K.del a ∨ FD K (.snoc l a s) (.snoc m b t) = FD K (.snoc l a s) (m.cat t) + K.ins b ∨ FD K (.snoc l a s) (.snoc m b t) = FD K l m + FD K s t + K.rel a b := by
  rw [FD_ss]; omega
/-- forests side by side -/
theorem FD_cat : ∀ (n : Nat) (A B C D : Fst), B.size + D.size = n → FD K (A.cat B) (C.cat D) ≤ FD K A C + FD K B D := by
  intro n
  induction n using Nat.strongRecOn with
  | ind n ih =>
    intro A B C D hn
    cases B with
    | nil =>
      cases D with
      | nil => rw [FD_nn]; simp only [Fst.cat]; omega
      | snoc m b t =>
        have h := ih (Fst.nil.size + (m.cat t).size) (by simp only [Fst.size, Fst.size_cat] at hn ⊢; omega) A .nil C (m.cat t) rfl
        have h2 := FD_ins K A (C.cat m) t b
        rw [Fst.cat_assoc] at h2
        rw [FD_ns]
        simp only [Fst.cat] at h ⊢
        omega
    | snoc l a s =>
      cases D with
      | nil =>
        have h := ih ((l.cat s).size + Fst.nil.size) (by simp only [Fst.size, Fst.size_cat] at hn ⊢; omega) A (l.cat s) C .nil rfl
        have h2 := FD_del K (A.cat l) s C a
        rw [Fst.cat_assoc] at h2
        rw [FD_sn]
        simp only [Fst.cat] at h ⊢
        omega
      | snoc m b t =>
        rcases FD_cases K l s m t a b with e | e | e
        · have h := ih ((l.cat s).size + (Fst.snoc m b t).size) (by simp only [Fst.size, Fst.size_cat] at hn ⊢; omega) A (l.cat s) C (.snoc m b t) rfl
          have h2 := FD_del K (A.cat l) s (C.cat (.snoc m b t)) a
          rw [Fst.cat_assoc] at h2
          rw [e]
          simp only [Fst.cat] at h h2 ⊢
          omega
        · have h := ih ((Fst.snoc l a s).size + (m.cat t).size) (by simp only [Fst.size, Fst.size_cat] at hn ⊢; omega) A (.snoc l a s) C (m.cat t) rfl
          have h2 := FD_ins K (A.cat (.snoc l a s)) (C.cat m) t b
          rw [Fst.cat_assoc] at h2
          rw [e]
          simp only [Fst.cat] at h h2 ⊢
          omega
        · have h := ih (l.size + m.size) (by simp only [Fst.size] at hn ⊢; omega) A l C m rfl
          have h2 := FD_match K (A.cat l) s (C.cat m) t a b
          rw [e]
          simp only [Fst.cat]
          omega
/-- the last tree alone -/
def Fst.one (a : Int) (s : Fst) : Fst := .snoc .nil a s
theorem Fst.cat_one (l : Fst) (a : Int) (s : Fst) : l.cat (.one a s) = .snoc l a s := rfl
/-- the third way by the last trees' own distance -/
theorem FD_trees (l s m t : Fst) (a b : Int) : FD K (.snoc l a s) (.snoc m b t) = min (min (FD K (l.cat s) (.snoc m b t) + K.del a) (FD K (.snoc l a s) (m.cat t) + K.ins b)) (FD K l m + FD K (.one a s) (.one b t)) := by
  have h1 := FD_cat K _ l (.one a s) m (.one b t) rfl
  have h2 := FD_match K .nil s .nil t a b
  rw [Fst.cat_one, Fst.cat_one] at h1
  rw [FD_nn] at h2
  rw [FD_ss] at h1 ⊢
  unfold Fst.one at h1 ⊢
  omega
theorem FD_first (s t : Fst) (a b : Int) : FD K (.one a s) (.one b t) = min (min (FD K s (.one b t) + K.del a) (FD K (.one a s) t + K.ins b)) (FD K s t + K.rel a b) := by
  unfold Fst.one
  rw [FD_ss, FD_nn, Fst.nil_cat, Fst.nil_cat]
  omega
/-- exchanged -/
theorem FD_swap : ∀ (n : Nat) (f g : Fst), f.size + g.size = n → FD K f g = FD K.swap g f := by
  intro n
  induction n using Nat.strongRecOn with
  | ind n ih =>
    intro f g hn
    cases f with
    | nil =>
      cases g with
      | nil => rw [FD_nn, FD_nn]
      | snoc m b t =>
        rw [FD_ns, FD_sn, ih _ (by simp only [Fst.size, Fst.size_cat] at hn ⊢; omega) .nil (m.cat t) rfl]
        rfl
    | snoc l a s =>
      cases g with
      | nil =>
        rw [FD_ns, FD_sn, ih _ (by simp only [Fst.size, Fst.size_cat] at hn ⊢; omega) (l.cat s) .nil rfl]
        rfl
      | snoc m b t =>
        rw [FD_ss, FD_ss, ih _ (by simp only [Fst.size, Fst.size_cat] at hn ⊢; omega) (l.cat s) (.snoc m b t) rfl,
          ih _ (by simp only [Fst.size, Fst.size_cat] at hn ⊢; omega) (.snoc l a s) (m.cat t) rfl,
          ih _ (by simp only [Fst.size] at hn ⊢; omega) l m rfl, ih _ (by simp only [Fst.size] at hn ⊢; omega) s t rfl]
        show min (min (_ + K.del a) (_ + K.ins b)) (_ + K.rel a b) = min (min (_ + K.ins b) (_ + K.del a)) (_ + K.rel a b)
        omega
/-- costs that stand n times as high -/
def Cs.times (K : Cs) (n : Int) : Cs := ⟨fun a => n * K.del a, fun a => n * K.ins a, fun a b => n * K.rel a b⟩
theorem FD_times3 : ∀ (n : Nat) (f g : Fst), f.size + g.size = n → FD (K.times 3) f g = 3 * FD K f g := by
  intro n
  induction n using Nat.strongRecOn with
  | ind n ih =>
    intro f g hn
    cases f with
    | nil =>
      cases g with
      | nil => rw [FD_nn, FD_nn]; rfl
      | snoc m b t =>
        rw [FD_ns, FD_ns, ih _ (by simp only [Fst.size, Fst.size_cat] at hn ⊢; omega) .nil (m.cat t) rfl]
        show _ + 3 * K.ins b = _
        omega
    | snoc l a s =>
      cases g with
      | nil =>
        rw [FD_sn, FD_sn, ih _ (by simp only [Fst.size, Fst.size_cat] at hn ⊢; omega) (l.cat s) .nil rfl]
        show _ + 3 * K.del a = _
        omega
      | snoc m b t =>
        rw [FD_ss, FD_ss, ih _ (by simp only [Fst.size, Fst.size_cat] at hn ⊢; omega) (l.cat s) (.snoc m b t) rfl,
          ih _ (by simp only [Fst.size, Fst.size_cat] at hn ⊢; omega) (.snoc l a s) (m.cat t) rfl,
          ih _ (by simp only [Fst.size] at hn ⊢; omega) l m rfl, ih _ (by simp only [Fst.size] at hn ⊢; omega) s t rfl]
        show min (min (_ + 3 * K.del a) (_ + 3 * K.ins b)) (_ + 3 * K.rel a b) = _
        omega
end
/-- no cost is negative -/
def Cs.nonneg (K : Cs) : Prop := (∀ a, 0 ≤ K.del a) ∧ (∀ a, 0 ≤ K.ins a) ∧ ∀ a b, 0 ≤ K.rel a b
theorem FD_nonneg {K : Cs} (hK : K.nonneg) : ∀ (n : Nat) (f g : Fst), f.size + g.size = n → 0 ≤ FD K f g := by
  intro n
  induction n using Nat.strongRecOn with
  | ind n ih =>
    intro f g hn
    cases f with
    | nil =>
      cases g with
      | nil => rw [FD_nn]; omega
      | snoc m b t =>
        have := ih _ (by simp only [Fst.size, Fst.size_cat] at hn ⊢; omega) .nil (m.cat t) rfl
        have := hK.2.1 b
        rw [FD_ns]; omega
    | snoc l a s =>
      cases g with
      | nil =>
        have := ih _ (by simp only [Fst.size, Fst.size_cat] at hn ⊢; omega) (l.cat s) .nil rfl
        have := hK.1 a
        rw [FD_sn]; omega
      | snoc m b t =>
        have := ih _ (by simp only [Fst.size, Fst.size_cat] at hn ⊢; omega) (l.cat s) (.snoc m b t) rfl
        have := ih _ (by simp only [Fst.size, Fst.size_cat] at hn ⊢; omega) (.snoc l a s) (m.cat t) rfl
        have := ih _ (by simp only [Fst.size] at hn ⊢; omega) l m rfl
        have := ih _ (by simp only [Fst.size] at hn ⊢; omega) s t rfl
        have := hK.1 a
        have := hK.2.1 b
        have := hK.2.2 a b
        rw [FD_ss]; omega
/-- no cost is above M: a distance is at most M a node -/
theorem FD_le {K : Cs} {M : Int} (h1 : ∀ a, K.del a ≤ M) (h2 : ∀ a, K.ins a ≤ M) : ∀ (n : Nat) (f g : Fst), f.size + g.size = n → FD K f g ≤ M * (f.size + g.size : Nat) := by
  intro n
  induction n using Nat.strongRecOn with
  | ind n ih =>
    intro f g hn
    cases f with
    | nil =>
      cases g with
      | nil => rw [FD_nn]; simp [Fst.size]
      | snoc m b t =>
        have h := ih _ (by simp only [Fst.size, Fst.size_cat] at hn ⊢; omega) .nil (m.cat t) rfl
        have hb := h2 b
        rw [FD_ns]
        rw [show (Fst.nil.size + (Fst.snoc m b t).size) = (Fst.nil.size + (m.cat t).size) + 1 by simp only [Fst.size, Fst.size_cat]; omega, Int.natCast_add, Int.mul_add]
        omega
    | snoc l a s =>
      have h := ih _ (by simp only [Fst.size, Fst.size_cat] at hn ⊢; omega) (l.cat s) g rfl
      have ha := h1 a
      have hd := FD_del K l s g a
      rw [show ((Fst.snoc l a s).size + g.size) = ((l.cat s).size + g.size) + 1 by simp only [Fst.size, Fst.size_cat]; omega, Int.natCast_add, Int.mul_add]
      omega
/-- all costs are 0 -/
theorem FD_zero {K : Cs} (hK : K.nonneg) (h1 : ∀ a, K.del a = 0) (h2 : ∀ a, K.ins a = 0) (f g : Fst) : FD K f g = 0 := by
  have a := FD_nonneg hK _ f g rfl
  have b := FD_le (K := K) (M := 0) (fun a => by rw [h1]; exact Int.le_refl _) (fun a => by rw [h2]; exact Int.le_refl _) _ f g rfl
  omega
/-- costs under which ways by a third forest are no shorter -/
structure Cs.metric (K : Cs) : Prop where
  pos : K.nonneg
  dd : ∀ a b, K.del a ≤ K.rel a b + K.del b
  ii : ∀ b c, K.ins c ≤ K.ins b + K.rel b c
  rr : ∀ a b c, K.rel a c ≤ K.rel a b + K.rel b c
theorem FD_triangle {K : Cs} (hK : K.metric) : ∀ (n : Nat) (f g h : Fst), f.size + g.size + h.size = n → FD K f h ≤ FD K f g + FD K g h := by
  intro n
  induction n using Nat.strongRecOn with
  | ind n ih =>
    intro f g h hn
    cases g with
    | nil =>
      have hc := FD_cat K _ f .nil .nil h rfl
      rw [Fst.nil_cat] at hc
      exact hc
    | snoc m b t =>
      have hb1 := hK.pos.1 b
      have hb2 := hK.pos.2.1 b
      -- g's last is inserted on the way from f and taken out on the way to h
      have ID : FD K f (.snoc m b t) = FD K f (m.cat t) + K.ins b → FD K (.snoc m b t) h = FD K (m.cat t) h + K.del b → FD K f h ≤ FD K f (.snoc m b t) + FD K (.snoc m b t) h := by
        intro e1 e2
        have := ih _ (by simp only [Fst.size, Fst.size_cat] at hn ⊢; omega) f (m.cat t) h rfl
        omega
      -- the last of f is deleted
      have DD : ∀ l a s, f = .snoc l a s → FD K f (.snoc m b t) = FD K (l.cat s) (.snoc m b t) + K.del a → FD K f h ≤ FD K f (.snoc m b t) + FD K (.snoc m b t) h := by
        rintro l a s rfl e
        have h1 := ih _ (by simp only [Fst.size, Fst.size_cat] at hn ⊢; omega) (l.cat s) (.snoc m b t) h rfl
        have h2 := FD_del K l s h a
        omega
      -- the last of h is inserted
      have II : ∀ p c u, h = .snoc p c u → FD K (.snoc m b t) h = FD K (.snoc m b t) (p.cat u) + K.ins c → FD K f h ≤ FD K f (.snoc m b t) + FD K (.snoc m b t) h := by
        rintro p c u rfl e
        have h1 := ih _ (by simp only [Fst.size, Fst.size_cat] at hn ⊢; omega) f (.snoc m b t) (p.cat u) rfl
        have h2 := FD_ins K f p u c
        omega
      cases f with
      | nil =>
        cases h with
        | nil => exact ID (FD_ns K m t b) (FD_sn K m t b)
        | snoc p c u =>
          rcases FD_cases K m t p u b c with e | e | e
          · exact ID (FD_ns K m t b) e
          · exact II p c u rfl e
          · -- inserted, then matched
            have h1 := ih _ (by simp only [Fst.size, Fst.size_cat] at hn ⊢; omega) Fst.nil (m.cat t) (p.cat u) rfl
            have h2 := FD_ins K .nil p u c
            have h3 := FD_cat K _ m t p u rfl
            have h4 := FD_ns K m t b
            have h5 := hK.ii b c
            omega
      | snoc l a s =>
        cases h with
        | nil =>
          rcases FD_cases K l s m t a b with e | e | e
          · exact DD l a s rfl e
          · exact ID e (FD_sn K m t b)
          · -- matched, then deleted
            have h1 := ih _ (by simp only [Fst.size, Fst.size_cat] at hn ⊢; omega) (l.cat s) (m.cat t) Fst.nil rfl
            have h2 := FD_del K l s .nil a
            have h3 := FD_cat K _ l s m t rfl
            have h4 := FD_sn K m t b
            have h5 := hK.dd a b
            omega
        | snoc p c u =>
          rcases FD_cases K l s m t a b with e | e | e
          · exact DD l a s rfl e
          · rcases FD_cases K m t p u b c with e' | e' | e'
            · exact ID e e'
            · exact II p c u rfl e'
            · have h1 := ih _ (by simp only [Fst.size, Fst.size_cat] at hn ⊢; omega) (.snoc l a s) (m.cat t) (p.cat u) rfl
              have h2 := FD_ins K (.snoc l a s) p u c
              have h3 := FD_cat K _ m t p u rfl
              have h5 := hK.ii b c
              omega
          · rcases FD_cases K m t p u b c with e' | e' | e'
            · have h1 := ih _ (by simp only [Fst.size, Fst.size_cat] at hn ⊢; omega) (l.cat s) (m.cat t) (.snoc p c u) rfl
              have h2 := FD_del K l s (.snoc p c u) a
              have h3 := FD_cat K _ l s m t rfl
              have h5 := hK.dd a b
              omega
            · exact II p c u rfl e'
            · have h1 := ih _ (by simp only [Fst.size] at hn ⊢; omega) l m p rfl
              have h2 := ih _ (by simp only [Fst.size] at hn ⊢; omega) s t u rfl
              have h3 := FD_match K l s p u a c
              have h5 := hK.rr a b c
              omega
/-- of a node at least 1: the distance is no less than what the sizes differ by -/
theorem FD_ge {K : Cs} (hK : K.nonneg) (h1 : ∀ a, 1 ≤ K.del a) (h2 : ∀ a, 1 ≤ K.ins a) : ∀ (n : Nat) (f g : Fst), f.size + g.size = n → (f.size : Int) - g.size ≤ FD K f g ∧ (g.size : Int) - f.size ≤ FD K f g := by
  intro n
  induction n using Nat.strongRecOn with
  | ind n ih =>
    intro f g hn
    cases f with
    | nil =>
      cases g with
      | nil => rw [FD_nn]; simp [Fst.size]
      | snoc m b t =>
        have h := ih _ (by simp only [Fst.size, Fst.size_cat] at hn ⊢; omega) .nil (m.cat t) rfl
        have := h2 b
        rw [FD_ns]
        simp only [Fst.size, Fst.size_cat] at h ⊢
        omega
    | snoc l a s =>
      cases g with
      | nil =>
        have h := ih _ (by simp only [Fst.size, Fst.size_cat] at hn ⊢; omega) (l.cat s) .nil rfl
        have := h1 a
        rw [FD_sn]
        simp only [Fst.size, Fst.size_cat] at h ⊢
        omega
      | snoc m b t =>
        have e1 := ih _ (by simp only [Fst.size, Fst.size_cat] at hn ⊢; omega) (l.cat s) (.snoc m b t) rfl
        have e2 := ih _ (by simp only [Fst.size, Fst.size_cat] at hn ⊢; omega) (.snoc l a s) (m.cat t) rfl
        have e3 := ih _ (by simp only [Fst.size] at hn ⊢; omega) l m rfl
        have e4 := ih _ (by simp only [Fst.size] at hn ⊢; omega) s t rfl
        have := h1 a
        have := h2 b
        have := hK.2.2 a b
        rw [FD_ss]
        simp only [Fst.size, Fst.size_cat] at e1 e2 ⊢
        omega

end Go.Proofs.Ytkccnlcghlkioaa
