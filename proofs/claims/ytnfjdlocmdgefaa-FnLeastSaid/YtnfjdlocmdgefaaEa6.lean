/- Texts of one claim laid into one file, in build order: RwD, Fst, Fr, KinP, IdxP. -/
import Derived.Test.YtnfjdlocmdgefaaEa2
import Derived.Test.YtnfjdlocmdgefaaEa3
import Derived.Test.YtnfjdlocmdgefaaEa5
/- Contracts (RwD). -/
namespace Go.Proofs.Ytnfjdlocmdgefaa
open Go.RowKit
set_option linter.unusedVariables false


/-- .. each inner row in a block of its own -/
def RowsD (w : World) (base : Nat) (v : Value) (vs : List Value) (ms : List Tr) : Prop :=
  RowsP w base v vs ms ∧ ∀ i j, i < j → j < vs.length → (vs.getD i undef).ownBlock ≠ (vs.getD j undef).ownBlock
section
variable {w w' : World} {base base' b n size BX : Nat} {e : TypeId} {v v3 u : Value} {vs : List Value} {ms : List Tr} {m : Tr} {row : Option Nat}
theorem RowsP.other (h : RowsP w base v vs ms) (hg : w.grownBy w' row) (h0 : v.ownBlock = none ∨ v.ownBlock ≠ row) (h1 : ∀ u ∈ vs, u.ownBlock = none ∨ u.ownBlock ≠ row) : RowsP w' base v vs ms :=
  ⟨own_other h.1 hg h0, h.2.1, fun i hi => own_other (h.2.2 i hi) hg (h1 _ (by rw [List.getD_eq_getElem?_getD, List.getElem?_eq_getElem (by rw [h.2.1]; exact hi)]; exact List.getElem_mem _))⟩
theorem RowsD.other (h : RowsD w base v vs ms) (hg : w.grownBy w' row) (h0 : v.ownBlock = none ∨ v.ownBlock ≠ row) (h1 : ∀ u ∈ vs, u.ownBlock = none ∨ u.ownBlock ≠ row) : RowsD w' base v vs ms := ⟨h.1.other hg h0 h1, h.2⟩
theorem RowsD.below (h : RowsD w base v vs ms) (hb : Below w.heap.size w w') : RowsD w' base v vs ms := ⟨h.1.below hb, h.2⟩
theorem RowsD.lower (h : RowsD w base v vs ms) (hb : base' ≤ base) : RowsD w base' v vs ms := ⟨h.1.lower hb, h.2⟩
/-- one row more, in a block b of its own -/
theorem RowsD.push (h : RowsD w base v vs ms) (hx : w.ownsRow base 77 2 u m.length (Tr.cells m)) (hu : u.ownBlock = some b) (hb : ∀ z ∈ vs, z.ownBlock ≠ some b) (hg : w.grownBy w' v.ownBlock)
    (ho : w'.ownsRow base 36 1 v3 (vs.length + 1) (vs ++ [u])) : RowsD w' base v3 (vs ++ [u]) (ms ++ [m]) := by
  have hl := h.1.2.1
  refine ⟨⟨by rw [List.length_append]; exact ho, by simp [hl], fun i hi => ?_⟩, fun i j hij hj => ?_⟩
  · by_cases hlt : i < ms.length
    · have hv : (vs ++ [u]).getD i undef = vs.getD i undef := by simp [List.getD_eq_getElem?_getD, List.getElem?_append_left (show i < vs.length by omega)]
      have hm : (ms ++ [m]).getD i [] = ms.getD i [] := by simp [List.getD_eq_getElem?_getD, List.getElem?_append_left hlt]
      rw [hv, hm]
      exact own_other (h.1.2.2 i hlt) hg (own_ne (h.1.2.2 i hlt) h.1.1 pr_ne)
    · obtain rfl : i = ms.length := by simp at hi; omega
      have hv : (vs ++ [u]).getD ms.length undef = u := by rw [← hl]; simp
      have hm : (ms ++ [m]).getD ms.length [] = m := by simp
      rw [hv, hm]
      exact own_other hx hg (own_ne hx h.1.1 pr_ne)
  · simp only [List.length_append, List.length_singleton] at hj
    have hvi : (vs ++ [u]).getD i undef = vs.getD i undef := by simp [List.getD_eq_getElem?_getD, List.getElem?_append_left (show i < vs.length by omega)]
    rw [hvi]
    by_cases hlt : j < vs.length
    · have hvj : (vs ++ [u]).getD j undef = vs.getD j undef := by simp [List.getD_eq_getElem?_getD, List.getElem?_append_left hlt]
      rw [hvj]
      exact h.2 i j hij hlt
    · obtain rfl : j = vs.length := by omega
      have hvj : (vs ++ [u]).getD vs.length undef = u := by simp
      rw [hvj, hu]
      exact hb _ (by rw [List.getD_eq_getElem?_getD, List.getElem?_eq_getElem (by omega)]; exact List.getElem_mem _)
theorem RowsP.mem (h : RowsP w base v vs ms) (hu : u ∈ vs) : ∃ k zs, w.ownsRow base 77 2 u k zs := by
  obtain ⟨i, hi, rfl⟩ := List.getElem_of_mem hu
  have := h.2.2 i (by rw [← h.2.1]; exact hi)
  rw [List.getD_eq_getElem?_getD, List.getElem?_eq_getElem hi] at this
  exact ⟨_, _, this⟩
end
/-- between two rounds of AppendSeq's loop: the variable holds the rows so far -/
def RI (n0 BX : Nat) (pre : List Tr) (M : Nat → Prop) (W : World) : Prop :=
  ∃ v vs, Boxed W BX 30 v ∧ RowsD W n0 v vs pre ∧ ∀ r, M r → r ≠ BX ∧ v.ownBlock ≠ some r ∧ ∀ u ∈ vs, u.ownBlock ≠ some r
theorem pss_ne1 : 30 ≠ 36 := by decide
theorem pss_ne2 : 30 ≠ 77 := by decide
theorem RI.frees {n0 BX : Nat} : Frees (RI n0 BX) := by
  rintro pre M M' W W' row ⟨v, vs, h1, h2, h3⟩ hg hr hM
  have ne : ∀ o : Option Nat, (∀ r, M r → o ≠ some r) → o = none ∨ o ≠ row := fun o ho => by
    cases o with
    | none => exact .inl rfl
    | some q => exact .inr fun e => ho q (hr q e.symm) rfl
  refine ⟨v, vs, h1.kept hg (fun e => (h3 BX (hr BX e.symm)).1 rfl), h2.other hg (ne _ fun r e => (h3 r e).2.1) (fun u hu => ne _ fun r e => (h3 r e).2.2 u hu), fun r e => ?_⟩
  rcases hM r e with e | e
  · exact h3 r e
  · have := h1.lt
    refine ⟨by omega, fun hv => ?_, fun u hu hv => ?_⟩
    · have := (h2.1.1.lt r hv).2; omega
    · obtain ⟨k, zs, hz⟩ := h2.1.mem hu
      have := (hz.lt r hv).2; omega
/-- a round: the row is appended, the variable stored -/
theorem RI.round {n0 BX b c1 : Nat} {pre : List Tr} {x : Tr} {M : Nat → Prop} {W W1 : World} {v v3 : Value} {vs : List Value} {o : Obj} (hb : Boxed W BX 30 v) (hd : RowsD W n0 v vs pre) (hM : ∀ r, (M r ∨ r = b) → r ≠ BX ∧ v.ownBlock ≠ some r ∧ ∀ u ∈ vs, u.ownBlock ≠ some r)
    (hx : W.ownsRow n0 77 2 (.slice (some ⟨b, 0, none⟩) x.length c1) x.length (Tr.cells x)) (hin : InM n0 M W) (hBX : n0 ≤ BX)
    (hown : W1.ownsRow n0 36 1 v3 (vs.length + 1) (vs ++ [.slice (some ⟨b, 0, none⟩) x.length c1])) (hg : (W.alloc o).grownBy W1 v.ownBlock) (hnew : v3.ownBlock = v.ownBlock ∨ v3.ownBlock = some (W.heap.size + 1)) (hnM : ¬ M b) :
    Boxed W1 BX 30 v ∧ Rnd (RI n0 BX) n0 pre x M W (W1.setCell ⟨BX, 0, none⟩ v3) := by
  have g1 : W.grownBy W1 v.ownBlock := Kit.grown_trans (Kit.grown_none (World.grownBy_alloc W o none)) hg
  have nb : some BX ≠ v.ownBlock := hb.not_row pss_ne1 hd.1.1
  have b1 : Boxed W1 BX 30 v := hb.kept g1 nb
  have d1 : RowsD W1 n0 v3 (vs ++ [.slice (some ⟨b, 0, none⟩) x.length c1]) (pre ++ [x]) := hd.push (b := b) hx rfl (fun z hz => (hM b (.inr rfl)).2.2 z hz) g1 hown
  have g2 := grownBy_setCell' W1 BX v3
  have sz : W.heap.size ≤ n0 ∨ n0 ≤ W.heap.size := by omega
  have hn0 : n0 ≤ W.heap.size := by have := hb.lt; omega
  refine ⟨b1, ⟨v3, _, b1.set v3, d1.other g2 (.inr fun e => b1.not_row pss_ne1 d1.1.1 e.symm) (fun u hu => .inr fun e => ?_), fun r e => ?_⟩, fun r e => ?_, ?_⟩
  · obtain ⟨k, zs, hz⟩ := d1.1.mem hu
    exact b1.not_row pss_ne2 hz e.symm
  · obtain ⟨m1, m2, m3⟩ := hM r (.inl e)
    have lt := (hin r e).2
    refine ⟨m1, ?_, fun u hu => ?_⟩
    · rcases hnew with h | h
      · rw [h]; exact m2
      · rw [h]; intro h'; cases h'; omega
    · rcases List.mem_append.1 hu with hu | hu
      · exact m3 u hu
      · rw [List.mem_singleton.1 hu]
        intro h'
        cases h'
        exact hnM e
  · obtain ⟨m1, m2, m3⟩ := hM r (.inl e)
    have lt := (hin r e).2
    exact (g2.block r (Nat.lt_of_lt_of_le lt g1.size) (fun h => m1 (by cases h; rfl))).trans (g1.block r lt (fun h => m2 h.symm))
  · exact ((Below.refl n0 W).grown g1 hn0 (fun q e => (hd.1.1.lt q e).1)).setCell (p := ⟨BX, 0, none⟩) hBX _

end Go.Proofs.Ytnfjdlocmdgefaa

/- Contracts (Fst). -/
namespace Go.Proofs.Ytnfjdlocmdgefaa
open Go.RowKit
set_option linter.unusedVariables false

/-! Ordered forests and their edit distance, as plain mathematics. -/
/-- a forest: the trees ahead, the last tree's root, the trees under it -/
inductive Fst where
  | nil : Fst
  | snoc : Fst → Int → Fst → Fst
def Fst.size : Fst → Nat
  | .nil => 0
  | .snoc l _ s => l.size + s.size + 1
def Fst.cat (f : Fst) : Fst → Fst
  | .nil => f
  | .snoc l a s => .snoc (f.cat l) a s
theorem Fst.nil_cat (f : Fst) : Fst.nil.cat f = f := by
  induction f with
  | nil => rfl
  | snoc l a s ih _ => rw [Fst.cat, ih]
theorem Fst.cat_assoc (f g h : Fst) : (f.cat g).cat h = f.cat (g.cat h) := by
  induction h with
  | nil => rfl
  | snoc l a s ih _ => rw [Fst.cat, Fst.cat, Fst.cat, ih]
theorem Fst.size_cat (f g : Fst) : (f.cat g).size = f.size + g.size := by
  induction g with
  | nil => rfl
  | snoc l a s ih _ => simp only [Fst.cat, Fst.size, ih]; omega
/-- costs as functions of labels -/
structure Cs where
  del : Int → Int
  ins : Int → Int
  rel : Int → Int → Int
def Cs.swap (K : Cs) : Cs := ⟨K.ins, K.del, fun a b => K.rel b a⟩
/-- the least cost of turning one forest into another -/
def FD (K : Cs) : Fst → Fst → Int
  | .nil, .nil => 0
  | .snoc l a s, .nil => FD K (l.cat s) .nil + K.del a
  | .nil, .snoc m b t => FD K .nil (m.cat t) + K.ins b
  | .snoc l a s, .snoc m b t => min (min (FD K (l.cat s) (.snoc m b t) + K.del a) (FD K (.snoc l a s) (m.cat t) + K.ins b)) (FD K l m + FD K s t + K.rel a b)
termination_by f g => f.size + g.size
decreasing_by all_goals (simp only [Fst.size, Fst.size_cat]; omega)
section
variable (K : Cs)
theorem FD_nn : FD K .nil .nil = 0 := by rw [FD]
theorem FD_sn (l s : Fst) (a : Int) : FD K (.snoc l a s) .nil = FD K (l.cat s) .nil + K.del a := by rw [FD]
theorem FD_ns (m t : Fst) (b : Int) : FD K .nil (.snoc m b t) = FD K .nil (m.cat t) + K.ins b := by rw [FD]
theorem FD_ss (l s m t : Fst) (a b : Int) : FD K (.snoc l a s) (.snoc m b t) = min (min (FD K (l.cat s) (.snoc m b t) + K.del a) (FD K (.snoc l a s) (m.cat t) + K.ins b)) (FD K l m + FD K s t + K.rel a b) := by rw [FD]
theorem FD_del (l s g : Fst) (a : Int) : FD K (.snoc l a s) g ≤ FD K (l.cat s) g + K.del a := by
  cases g with
  | nil => rw [FD_sn]; exact Int.le_refl _
  | snoc m b t => rw [FD_ss]; omega
theorem FD_ins (f m t : Fst) (b : Int) : FD K f (.snoc m b t) ≤ FD K f (m.cat t) + K.ins b := by
  cases f with
  | nil => rw [FD_ns]; exact Int.le_refl _
  | snoc l a s => rw [FD_ss]; omega
theorem FD_match (l s m t : Fst) (a b : Int) : FD K (.snoc l a s) (.snoc m b t) ≤ FD K l m + FD K s t + K.rel a b := by rw [FD_ss]; omega
/-- which of the three is met -/
theorem FD_cases (l s m t : Fst) (a b : Int) : FD K (.snoc l a s) (.snoc m b t) = FD K (l.cat s) (.snoc m b t) + K.del a ∨ FD K (.snoc l a s) (.snoc m b t) = FD K (.snoc l a s) (m.cat t) + K.ins b ∨ FD K (.snoc l a s) (.snoc m b t) = FD K l m + FD K s t + K.rel a b := by
  rw [FD_ss]; omega
/-- forests side by side -/
theorem FD_cat : ∀ (n : Nat) (A B C D : Fst), B.size + D.size = n → FD K (A.cat B) (C.cat D) ≤ FD K A C + FD K B D := by
  intro n
  induction n using Nat.strongRecOn with
  | ind n ih =>
    intro A B C D hn
    cases B with
    | nil =>
      cases D with
      | nil => rw [FD_nn]; simp only [Fst.cat]; omega
      | snoc m b t =>
        have h := ih (Fst.nil.size + (m.cat t).size) (by simp only [Fst.size, Fst.size_cat] at hn ⊢; omega) A .nil C (m.cat t) rfl
        have h2 := FD_ins K A (C.cat m) t b
        rw [Fst.cat_assoc] at h2
        rw [FD_ns]
        simp only [Fst.cat] at h ⊢
        omega
    | snoc l a s =>
      cases D with
      | nil =>
        have h := ih ((l.cat s).size + Fst.nil.size) (by simp only [Fst.size, Fst.size_cat] at hn ⊢; omega) A (l.cat s) C .nil rfl
        have h2 := FD_del K (A.cat l) s C a
        rw [Fst.cat_assoc] at h2
        rw [FD_sn]
        simp only [Fst.cat] at h ⊢
        omega
      | snoc m b t =>
        rcases FD_cases K l s m t a b with e | e | e
        · have h := ih ((l.cat s).size + (Fst.snoc m b t).size) (by simp only [Fst.size, Fst.size_cat] at hn ⊢; omega) A (l.cat s) C (.snoc m b t) rfl
          have h2 := FD_del K (A.cat l) s (C.cat (.snoc m b t)) a
          rw [Fst.cat_assoc] at h2
          rw [e]
          simp only [Fst.cat] at h h2 ⊢
          omega
        · have h := ih ((Fst.snoc l a s).size + (m.cat t).size) (by simp only [Fst.size, Fst.size_cat] at hn ⊢; omega) A (.snoc l a s) C (m.cat t) rfl
          have h2 := FD_ins K (A.cat (.snoc l a s)) (C.cat m) t b
          rw [Fst.cat_assoc] at h2
          rw [e]
          simp only [Fst.cat] at h h2 ⊢
          omega
        · have h := ih (l.size + m.size) (by simp only [Fst.size] at hn ⊢; omega) A l C m rfl
          have h2 := FD_match K (A.cat l) s (C.cat m) t a b
          rw [e]
          simp only [Fst.cat]
          omega
/-- the last tree alone -/
def Fst.one (a : Int) (s : Fst) : Fst := .snoc .nil a s
theorem Fst.cat_one (l : Fst) (a : Int) (s : Fst) : l.cat (.one a s) = .snoc l a s := rfl
/-- the third way by the last trees' own distance -/
theorem FD_trees (l s m t : Fst) (a b : Int) : FD K (.snoc l a s) (.snoc m b t) = min (min (FD K (l.cat s) (.snoc m b t) + K.del a) (FD K (.snoc l a s) (m.cat t) + K.ins b)) (FD K l m + FD K (.one a s) (.one b t)) := by
  have h1 := FD_cat K _ l (.one a s) m (.one b t) rfl
  have h2 := FD_match K .nil s .nil t a b
  rw [Fst.cat_one, Fst.cat_one] at h1
  rw [FD_nn] at h2
  rw [FD_ss] at h1 ⊢
  unfold Fst.one at h1 ⊢
  omega
/-- costs that stand n times as high -/
def Cs.times (K : Cs) (n : Int) : Cs := ⟨fun a => n * K.del a, fun a => n * K.ins a, fun a b => n * K.rel a b⟩
end
/-- no cost is negative -/
def Cs.nonneg (K : Cs) : Prop := (∀ a, 0 ≤ K.del a) ∧ (∀ a, 0 ≤ K.ins a) ∧ ∀ a b, 0 ≤ K.rel a b
theorem FD_nonneg {K : Cs} (hK : K.nonneg) : ∀ (n : Nat) (f g : Fst), f.size + g.size = n → 0 ≤ FD K f g := by
  intro n
  induction n using Nat.strongRecOn with
  | ind n ih =>
    intro f g hn
    cases f with
    | nil =>
      cases g with
      | nil => rw [FD_nn]; omega
      | snoc m b t =>
        have := ih _ (by simp only [Fst.size, Fst.size_cat] at hn ⊢; omega) .nil (m.cat t) rfl
        have := hK.2.1 b
        rw [FD_ns]; omega
    | snoc l a s =>
      cases g with
      | nil =>
        have := ih _ (by simp only [Fst.size, Fst.size_cat] at hn ⊢; omega) (l.cat s) .nil rfl
        have := hK.1 a
        rw [FD_sn]; omega
      | snoc m b t =>
        have := ih _ (by simp only [Fst.size, Fst.size_cat] at hn ⊢; omega) (l.cat s) (.snoc m b t) rfl
        have := ih _ (by simp only [Fst.size, Fst.size_cat] at hn ⊢; omega) (.snoc l a s) (m.cat t) rfl
        have := ih _ (by simp only [Fst.size] at hn ⊢; omega) l m rfl
        have := ih _ (by simp only [Fst.size] at hn ⊢; omega) s t rfl
        have := hK.1 a
        have := hK.2.1 b
        have := hK.2.2 a b
        rw [FD_ss]; omega
/-- no cost is above M: a distance is at most M a node -/
theorem FD_le {K : Cs} {M : Int} (h1 : ∀ a, K.del a ≤ M) (h2 : ∀ a, K.ins a ≤ M) : ∀ (n : Nat) (f g : Fst), f.size + g.size = n → FD K f g ≤ M * (f.size + g.size : Nat) := by
  intro n
  induction n using Nat.strongRecOn with
  | ind n ih =>
    intro f g hn
    cases f with
    | nil =>
      cases g with
      | nil => rw [FD_nn]; simp [Fst.size]
      | snoc m b t =>
        have h := ih _ (by simp only [Fst.size, Fst.size_cat] at hn ⊢; omega) .nil (m.cat t) rfl
        have hb := h2 b
        rw [FD_ns]
        rw [show (Fst.nil.size + (Fst.snoc m b t).size) = (Fst.nil.size + (m.cat t).size) + 1 by simp only [Fst.size, Fst.size_cat]; omega, Int.natCast_add, Int.mul_add]
        omega
    | snoc l a s =>
      have h := ih _ (by simp only [Fst.size, Fst.size_cat] at hn ⊢; omega) (l.cat s) g rfl
      have ha := h1 a
      have hd := FD_del K l s g a
      rw [show ((Fst.snoc l a s).size + g.size) = ((l.cat s).size + g.size) + 1 by simp only [Fst.size, Fst.size_cat]; omega, Int.natCast_add, Int.mul_add]
      omega
end Go.Proofs.Ytnfjdlocmdgefaa

/- Contracts (Fr). -/
namespace Go.Proofs.Ytnfjdlocmdgefaa
open Go.RowKit
set_option linter.unusedVariables false

/-! A row of places in postorder as a forest: la p the place of the first leaf under p, x p its label. -/
def fr (la : Nat → Nat) (x : Nat → Int) (i j : Nat) : Fst :=
  if j ≤ i then .nil else .snoc (fr la x i (min (j - 1) (max i (la (j - 1))))) (x (j - 1)) (fr la x (min (j - 1) (max i (la (j - 1)))) (j - 1))
termination_by j - i
decreasing_by all_goals omega
/-- first leaves of the first n places: each stands no later than its node, and all that lies between belongs to the node -/
def Nest (la : Nat → Nat) (n : Nat) : Prop := ∀ p, p < n → la p ≤ p ∧ ∀ q, la p ≤ q → q < p → la p ≤ la q
theorem fr_nil {la : Nat → Nat} {x : Nat → Int} {i j : Nat} (h : j ≤ i) : fr la x i j = .nil := by rw [fr, if_pos h]
section
variable {la : Nat → Nat} {x : Nat → Int} {n : Nat} (hN : Nest la n)
include hN
theorem fr_succ {i j : Nat} (h : i ≤ j) (hj : j < n) : fr la x i (j + 1) = .snoc (fr la x i (max i (la j))) (x j) (fr la x (max i (la j)) j) := by
  have h1 := (hN j hj).1
  rw [fr, if_neg (by omega)]
  simp only [Nat.add_sub_cancel]
  rw [show min j (max i (la j)) = max i (la j) by omega]
theorem fr_size : ∀ (m i j : Nat), j - i = m → i ≤ j → j ≤ n → (fr la x i j).size = j - i := by
  intro m
  induction m using Nat.strongRecOn with
  | ind m ih =>
    intro i j hm hij hj
    by_cases e : j = i
    · subst e; rw [fr_nil (Nat.le_refl _)]; simp [Fst.size]
    · obtain ⟨j, rfl⟩ : ∃ k, j = k + 1 := ⟨j - 1, by omega⟩
      have h1 := (hN j (by omega)).1
      rw [fr_succ hN (by omega) (by omega)]
      simp only [Fst.size]
      rw [ih _ (by omega) i (max i (la j)) rfl (by omega) (by omega), ih _ (by omega) (max i (la j)) j rfl (by omega) (by omega)]
      omega
/-- a row parted where no node's subtree is cut -/
theorem fr_cat {i p : Nat} (hip : i ≤ p) : ∀ (m j : Nat), j - p = m → p ≤ j → j ≤ n → (∀ q, p ≤ q → q < j → p ≤ la q) → fr la x i j = (fr la x i p).cat (fr la x p j) := by
  intro m
  induction m using Nat.strongRecOn with
  | ind m ih =>
    intro j hm hpj hj hall
    by_cases e : j = p
    · subst e; rw [fr_nil (i := j) (Nat.le_refl _)]; rfl
    · obtain ⟨j, rfl⟩ : ∃ k, j = k + 1 := ⟨j - 1, by omega⟩
      have h1 := (hN j (by omega)).1
      have h2 := hall j (by omega) (by omega)
      rw [fr_succ hN (i := i) (by omega) (by omega), fr_succ hN (i := p) (by omega) (by omega), Fst.cat]
      rw [show max i (la j) = la j by omega, show max p (la j) = la j by omega]
      rw [ih _ (by omega) (la j) rfl (by omega) (by omega) (fun q a b => hall q a (by omega))]
/-- the last root taken out -/
theorem fr_open {i j : Nat} (h : i ≤ j) (hj : j < n) : (fr la x i (max i (la j))).cat (fr la x (max i (la j)) j) = fr la x i j := by
  have h1 := hN j hj
  by_cases e : la j ≤ i
  · rw [show max i (la j) = i by omega, fr_nil (j := i) (Nat.le_refl _), Fst.nil_cat]
  · rw [show max i (la j) = la j by omega]
    exact (fr_cat hN (by omega) _ j rfl h1.1 (by omega) h1.2).symm
/-- a whole subtree -/
theorem fr_tree {p : Nat} (hp : p < n) : fr la x (la p) (p + 1) = .one (x p) (fr la x (la p) p) := by
  rw [fr_succ hN (hN p hp).1 hp, Nat.max_self, fr_nil (Nat.le_refl _)]
  rfl
end
/-- the distance of two rows of places -/
def RD (K : Cs) (la lb : Nat → Nat) (x y : Nat → Int) (i j k m : Nat) : Int := FD K (fr la x i j) (fr lb y k m)
/-- .. of two subtrees -/
def TD (K : Cs) (la lb : Nat → Nat) (x y : Nat → Int) (p q : Nat) : Int := RD K la lb x y (la p) (p + 1) (lb q) (q + 1)
section
variable {K : Cs} {la lb : Nat → Nat} {x y : Nat → Int} {n m : Nat}
theorem RD_none {i j k l : Nat} (h1 : j ≤ i) (h2 : l ≤ k) : RD K la lb x y i j k l = 0 := by unfold RD; rw [fr_nil h1, fr_nil h2, FD_nn]
theorem RD_left (hN : Nest la n) {i j k l : Nat} (h1 : i ≤ j) (hj : j < n) (h2 : l ≤ k) : RD K la lb x y i (j + 1) k l = RD K la lb x y i j k l + K.del (x j) := by
  unfold RD; rw [fr_nil h2, fr_succ hN h1 hj, FD_sn, fr_open hN h1 hj]
theorem RD_right (hM : Nest lb m) {i j k l : Nat} (h1 : j ≤ i) (h2 : k ≤ l) (hl : l < m) : RD K la lb x y i j k (l + 1) = RD K la lb x y i j k l + K.ins (y l) := by
  unfold RD; rw [fr_nil h1, fr_succ hM h2 hl, FD_ns, fr_open hM h2 hl]
theorem RD_both (hN : Nest la n) (hM : Nest lb m) {i j k l : Nat} (h1 : i ≤ j) (hj : j < n) (h2 : k ≤ l) (hl : l < m) :
    RD K la lb x y i (j + 1) k (l + 1) = min (min (RD K la lb x y i j k (l + 1) + K.del (x j)) (RD K la lb x y i (j + 1) k l + K.ins (y l)))
      (RD K la lb x y i (max i (la j)) k (max k (lb l)) + RD K la lb x y (max i (la j)) j (max k (lb l)) l + K.rel (x j) (y l)) := by
  unfold RD
  rw [fr_succ hN h1 hj, fr_succ hM h2 hl, FD_ss, fr_open hN h1 hj, fr_open hM h2 hl]
/-- by way of the subtrees' distance -/
theorem RD_trees (hN : Nest la n) (hM : Nest lb m) {i j k l : Nat} (h1 : i ≤ la j) (hj : j < n) (h2 : k ≤ lb l) (hl : l < m) :
    RD K la lb x y i (j + 1) k (l + 1) = min (min (RD K la lb x y i j k (l + 1) + K.del (x j)) (RD K la lb x y i (j + 1) k l + K.ins (y l)))
      (RD K la lb x y i (la j) k (lb l) + TD K la lb x y j l) := by
  have a := (hN j hj).1
  have b := (hM l hl).1
  unfold TD RD
  rw [fr_tree hN hj, fr_tree hM hl, fr_succ hN (i := i) (by omega) hj, fr_succ hM (i := k) (by omega) hl, FD_trees, fr_open hN (by omega) hj, fr_open hM (by omega) hl, show max i (la j) = la j by omega, show max k (lb l) = lb l by omega]
/-- of two subtrees, rows that begin at their first leaves -/
theorem TD_rec (hN : Nest la n) (hM : Nest lb m) {j l : Nat} (hj : j < n) (hl : l < m) :
    TD K la lb x y j l = min (min (RD K la lb x y (la j) j (lb l) (l + 1) + K.del (x j)) (RD K la lb x y (la j) (j + 1) (lb l) l + K.ins (y l)))
      (RD K la lb x y (la j) j (lb l) l + K.rel (x j) (y l)) := by
  unfold TD
  rw [RD_both hN hM (hN j hj).1 hj (hM l hl).1 hl, Nat.max_self, Nat.max_self, RD_none (Nat.le_refl _) (Nat.le_refl _)]
  omega
end

end Go.Proofs.Ytnfjdlocmdgefaa

/- Contracts (KinP). -/
namespace Go.Proofs.Ytnfjdlocmdgefaa
open Go.RowKit
set_option linter.unusedVariables false

/-! mathematics of the laws on kin -/
/-- the five ways in which two nodes stand to one another -/
def Tr.ways (xs : Tr) (i j : Nat) : List Bool := [decide ((i : Int) = j), Tr.under xs i j, Tr.under xs j i, Tr.leftOf xs i j, Tr.leftOf xs j i]
def Bs.count (bs : List Bool) (k : Nat) : Nat := (bs.take k).countP id
section
variable {xs : Tr} (hok : Tr.ok xs = true)
include hok
end

end Go.Proofs.Ytnfjdlocmdgefaa

/- Contracts (IdxP). -/
namespace Go.Proofs.Ytnfjdlocmdgefaa
open Go.RowKit
set_option linter.unusedVariables false

theorem Zs.last_iff (F : List Nat) (k m : Nat) : Zs.lastTo F k m = true ↔ ∀ j, j < m → k < j → F.getD j 0 ≠ F.getD k 0 := by
  simp only [Zs.lastTo, List.all_eq_true, List.mem_range, Bool.or_eq_true, decide_eq_true_eq]
  constructor
  · intro h j h1 h2
    rcases h j h1 with q | q
    · omega
    · exact q
  · intro h j h1
    by_cases q : j ≤ k
    · exact .inl q
    · exact .inr (h j h1 (by omega))
section
variable {xs : Tr} (hok : Tr.ok xs = true)
include hok
theorem Tr.krs_last : ∃ r, Tr.krs xs = r ++ [xs.length - 1] := by
  have hlen : (Tr.lfs xs).length = xs.length := by rw [Tr.lfs_length, Tr.post_length hok]
  have h1 := (Tr.ok_iff.1 hok).2
  refine ⟨Tr.krTo xs (xs.length - 1), ?_⟩
  unfold Tr.krs
  have := Tr.krTo_succ xs (xs.length - 1)
  rw [show xs.length - 1 + 1 = xs.length by omega, hlen] at this
  rw [hlen, this, if_pos ((Zs.last_iff _ _ _).2 fun j h2 h3 => by omega)]
end
theorem Tr.krs_rise {xs : Tr} {a b : Nat} (hab : a < b) (hb : b < (Tr.krs xs).length) : (Tr.krs xs)[a] < (Tr.krs xs)[b] := by
  have hpw : List.Pairwise (· < ·) (Tr.krs xs) := by unfold Tr.krs Tr.krTo; exact List.pairwise_lt_range.filter _
  exact List.pairwise_iff_getElem.1 hpw a b (by omega) hb hab

end Go.Proofs.Ytnfjdlocmdgefaa
