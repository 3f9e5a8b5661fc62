/- Texts of one claim laid into one file, in build order: Fst, Fr, IdxP, FrT, Co, Mem3, InS, LabOkS. -/
import Derived.Test.YtgkkeejhfofcaaaHf1
import Derived.Test.YtgkkeejhfofcaaaHf2
import Derived.Test.YtgkkeejhfofcaaaHf6
import Derived.Maps.AppendAt
import Derived.Test.YtgkkeejhfofcaaaRows
/- Contracts (Fst). -/
namespace Go.Proofs.Ytgkkeejhfofcaaa
open Go.RowKit
set_option linter.unusedVariables false

/-! Ordered forests and their edit distance, as plain mathematics. -/
/-- a forest: the trees ahead, the last tree's root, the trees under it -/
inductive Fst where
  | nil : Fst
  | snoc : Fst → Int → Fst → Fst
def Fst.size : Fst → Nat
  | .nil => 0
  | .snoc l _ s => l.size + s.size + 1
def Fst.cat (f : Fst) : Fst → Fst
  | .nil => f
  | .snoc l a s => .snoc (f.cat l) a s
theorem Fst.nil_cat (f : Fst) : Fst.nil.cat f = f := by
  induction f with
  | nil => rfl
  | snoc l a s ih _ => rw [Fst.cat, ih]
theorem Fst.cat_assoc (f g h : Fst) : (f.cat g).cat h = f.cat (g.cat h) := by
  induction h with
  | nil => rfl
  | snoc l a s ih _ => rw [Fst.cat, Fst.cat, Fst.cat, ih]
theorem Fst.size_cat (f g : Fst) : (f.cat g).size = f.size + g.size := by
  induction g with
  | nil => rfl
  | snoc l a s ih _ => simp only [Fst.cat, Fst.size, ih]; omega
/-- costs as functions of labels -/
structure Cs where
  del : Int → Int
  ins : Int → Int
  rel : Int → Int → Int
def Cs.swap (K : Cs) : Cs := ⟨K.ins, K.del, fun a b => K.rel b a⟩
/-- the least cost of turning one forest into another -/
def FD (K : Cs) : Fst → Fst → Int
  | .nil, .nil => 0
  | .snoc l a s, .nil => FD K (l.cat s) .nil + K.del a
  | .nil, .snoc m b t => FD K .nil (m.cat t) + K.ins b
  | .snoc l a s, .snoc m b t => min (min (FD K (l.cat s) (.snoc m b t) + K.del a) (FD K (.snoc l a s) (m.cat t) + K.ins b)) (FD K l m + FD K s t + K.rel a b)
termination_by f g => f.size + g.size
decreasing_by all_goals (simp only [Fst.size, Fst.size_cat]; omega)
section
variable (K : Cs)
theorem FD_nn : FD K .nil .nil = 0 := by rw [FD]
theorem FD_sn (l s : Fst) (a : Int) : FD K (.snoc l a s) .nil = FD K (l.cat s) .nil + K.del a := by rw [FD]
theorem FD_ns (m t : Fst) (b : Int) : FD K .nil (.snoc m b t) = FD K .nil (m.cat t) + K.ins b := by rw [FD]
theorem FD_ss (l s m t : Fst) (a b : Int) : FD K (.snoc l a s) (.snoc m b t) = min (min (FD K (l.cat s) (.snoc m b t) + K.del a) (FD K (.snoc l a s) (m.cat t) + K.ins b)) (FD K l m + FD K s t + K.rel a b) := by rw [FD]
theorem FD_del (l s g : Fst) (a : Int) : FD K (.snoc l a s) g ≤ FD K (l.cat s) g + K.del a := by
  cases g with
  | nil => rw [FD_sn]; exact Int.le_refl _
  | snoc m b t => rw [FD_ss]; omega
theorem FD_ins (f m t : Fst) (b : Int) : FD K f (.snoc m b t) ≤ FD K f (m.cat t) + K.ins b := by
  cases f with
  | nil => rw [FD_ns]; exact Int.le_refl _
  | snoc l a s => rw [FD_ss]; omega
theorem FD_match (l s m t : Fst) (a b : Int) : FD K (.snoc l a s) (.snoc m b t) ≤ FD K l m + FD K s t + K.rel a b := by rw [FD_ss]; omega
/-- which of the three is met -/
theorem FD_cases (l s m t : Fst) (a b : Int) : FD K (.snoc l a s) (.snoc m b t) = FD K (l.cat s) (.snoc m b t) + K.del a ∨ FD K (.snoc l a s) (.snoc m b t) = FD K (.snoc l a s) (m.cat t) + K.ins b ∨ FD K (.snoc l a s) (.snoc m b t) = FD K l m + FD K s t + K.rel a b := by
  rw [FD_ss]; omega
/-- forests side by side -/
theorem FD_cat : ∀ (n : Nat) (A B C D : Fst), B.size + D.size = n → FD K (A.cat B) (C.cat D) ≤ FD K A C + FD K B D := by
  intro n
  induction n using Nat.strongRecOn with
  | ind n ih =>
    intro A B C D hn
    cases B with
    | nil =>
      cases D with
      | nil => rw [FD_nn]; simp only [Fst.cat]; omega
      | snoc m b t =>
        have h := ih (Fst.nil.size + (m.cat t).size) (by simp only [Fst.size, Fst.size_cat] at hn ⊢; omega) A .nil C (m.cat t) rfl
        have h2 := FD_ins K A (C.cat m) t b
        rw [Fst.cat_assoc] at h2
        rw [FD_ns]
        simp only [Fst.cat] at h ⊢
        omega
    | snoc l a s =>
      cases D with
      | nil =>
        have h := ih ((l.cat s).size + Fst.nil.size) (by simp only [Fst.size, Fst.size_cat] at hn ⊢; omega) A (l.cat s) C .nil rfl
        have h2 := FD_del K (A.cat l) s C a
        rw [Fst.cat_assoc] at h2
        rw [FD_sn]
        simp only [Fst.cat] at h ⊢
        omega
      | snoc m b t =>
        rcases FD_cases K l s m t a b with e | e | e
        · have h := ih ((l.cat s).size + (Fst.snoc m b t).size) (by simp only [Fst.size, Fst.size_cat] at hn ⊢; omega) A (l.cat s) C (.snoc m b t) rfl
          have h2 := FD_del K (A.cat l) s (C.cat (.snoc m b t)) a
          rw [Fst.cat_assoc] at h2
          rw [e]
          simp only [Fst.cat] at h h2 ⊢
          omega
        · have h := ih ((Fst.snoc l a s).size + (m.cat t).size) (by simp only [Fst.size, Fst.size_cat] at hn ⊢; omega) A (.snoc l a s) C (m.cat t) rfl
          have h2 := FD_ins K (A.cat (.snoc l a s)) (C.cat m) t b
          rw [Fst.cat_assoc] at h2
          rw [e]
          simp only [Fst.cat] at h h2 ⊢
          omega
        · have h := ih (l.size + m.size) (by simp only [Fst.size] at hn ⊢; omega) A l C m rfl
          have h2 := FD_match K (A.cat l) s (C.cat m) t a b
          rw [e]
          simp only [Fst.cat]
          omega
/-- the last tree alone -/
def Fst.one (a : Int) (s : Fst) : Fst := .snoc .nil a s
theorem Fst.cat_one (l : Fst) (a : Int) (s : Fst) : l.cat (.one a s) = .snoc l a s := rfl
/-- the third way by the last trees' own distance -/
theorem FD_trees (l s m t : Fst) (a b : Int) : FD K (.snoc l a s) (.snoc m b t) = min (min (FD K (l.cat s) (.snoc m b t) + K.del a) (FD K (.snoc l a s) (m.cat t) + K.ins b)) (FD K l m + FD K (.one a s) (.one b t)) := by
  have h1 := FD_cat K _ l (.one a s) m (.one b t) rfl
  have h2 := FD_match K .nil s .nil t a b
  rw [Fst.cat_one, Fst.cat_one] at h1
  rw [FD_nn] at h2
  rw [FD_ss] at h1 ⊢
  unfold Fst.one at h1 ⊢
  omega
/-- costs that stand n times as high -/
def Cs.times (K : Cs) (n : Int) : Cs := ⟨fun a => n * K.del a, fun a => n * K.ins a, fun a b => n * K.rel a b⟩
end
end Go.Proofs.Ytgkkeejhfofcaaa

/- Contracts (Fr). -/
namespace Go.Proofs.Ytgkkeejhfofcaaa
open Go.RowKit
set_option linter.unusedVariables false

/-! A row of places in postorder as a forest: la p the place of the first leaf under p, x p its label. -/
def fr (la : Nat → Nat) (x : Nat → Int) (i j : Nat) : Fst :=
  if j ≤ i then .nil else .snoc (fr la x i (min (j - 1) (max i (la (j - 1))))) (x (j - 1)) (fr la x (min (j - 1) (max i (la (j - 1)))) (j - 1))
termination_by j - i
decreasing_by all_goals omega
/-- first leaves of the first n places: each stands no later than its node, and all that lies between belongs to the node -/
def Nest (la : Nat → Nat) (n : Nat) : Prop := ∀ p, p < n → la p ≤ p ∧ ∀ q, la p ≤ q → q < p → la p ≤ la q
theorem fr_nil {la : Nat → Nat} {x : Nat → Int} {i j : Nat} (h : j ≤ i) : fr la x i j = .nil := by rw [fr, if_pos h]
section
variable {la : Nat → Nat} {x : Nat → Int} {n : Nat} (hN : Nest la n)
include hN
theorem fr_succ {i j : Nat} (h : i ≤ j) (hj : j < n) : fr la x i (j + 1) = .snoc (fr la x i (max i (la j))) (x j) (fr la x (max i (la j)) j) := by
  have h1 := (hN j hj).1
  rw [fr, if_neg (by omega)]
  simp only [Nat.add_sub_cancel]
  rw [show min j (max i (la j)) = max i (la j) by omega]
/-- a row parted where no node's subtree is cut -/
theorem fr_cat {i p : Nat} (hip : i ≤ p) : ∀ (m j : Nat), j - p = m → p ≤ j → j ≤ n → (∀ q, p ≤ q → q < j → p ≤ la q) → fr la x i j = (fr la x i p).cat (fr la x p j) := by
  intro m
  induction m using Nat.strongRecOn with
  | ind m ih =>
    intro j hm hpj hj hall
    by_cases e : j = p
    · subst e; rw [fr_nil (i := j) (Nat.le_refl _)]; rfl
    · obtain ⟨j, rfl⟩ : ∃ k, j = k + 1 := ⟨j - 1, by omega⟩
      have h1 := (hN j (by omega)).1
      have h2 := hall j (by omega) (by omega)
      rw [fr_succ hN (i := i) (by omega) (by omega), fr_succ hN (i := p) (by omega) (by omega), Fst.cat]
      rw [show max i (la j) = la j by omega, show max p (la j) = la j by omega]
      rw [ih _ (by omega) (la j) rfl (by omega) (by omega) (fun q a b => hall q a (by omega))]
/-- the last root taken out -/
theorem fr_open {i j : Nat} (h : i ≤ j) (hj : j < n) : (fr la x i (max i (la j))).cat (fr la x (max i (la j)) j) = fr la x i j := by
  have h1 := hN j hj
  by_cases e : la j ≤ i
  · rw [show max i (la j) = i by omega, fr_nil (j := i) (Nat.le_refl _), Fst.nil_cat]
  · rw [show max i (la j) = la j by omega]
    exact (fr_cat hN (by omega) _ j rfl h1.1 (by omega) h1.2).symm
/-- a whole subtree -/
theorem fr_tree {p : Nat} (hp : p < n) : fr la x (la p) (p + 1) = .one (x p) (fr la x (la p) p) := by
  rw [fr_succ hN (hN p hp).1 hp, Nat.max_self, fr_nil (Nat.le_refl _)]
  rfl
end
/-- the distance of two rows of places -/
def RD (K : Cs) (la lb : Nat → Nat) (x y : Nat → Int) (i j k m : Nat) : Int := FD K (fr la x i j) (fr lb y k m)
/-- .. of two subtrees -/
def TD (K : Cs) (la lb : Nat → Nat) (x y : Nat → Int) (p q : Nat) : Int := RD K la lb x y (la p) (p + 1) (lb q) (q + 1)
section
variable {K : Cs} {la lb : Nat → Nat} {x y : Nat → Int} {n m : Nat}
theorem RD_none {i j k l : Nat} (h1 : j ≤ i) (h2 : l ≤ k) : RD K la lb x y i j k l = 0 := by unfold RD; rw [fr_nil h1, fr_nil h2, FD_nn]
theorem RD_left (hN : Nest la n) {i j k l : Nat} (h1 : i ≤ j) (hj : j < n) (h2 : l ≤ k) : RD K la lb x y i (j + 1) k l = RD K la lb x y i j k l + K.del (x j) := by
  unfold RD; rw [fr_nil h2, fr_succ hN h1 hj, FD_sn, fr_open hN h1 hj]
theorem RD_right (hM : Nest lb m) {i j k l : Nat} (h1 : j ≤ i) (h2 : k ≤ l) (hl : l < m) : RD K la lb x y i j k (l + 1) = RD K la lb x y i j k l + K.ins (y l) := by
  unfold RD; rw [fr_nil h1, fr_succ hM h2 hl, FD_ns, fr_open hM h2 hl]
theorem RD_both (hN : Nest la n) (hM : Nest lb m) {i j k l : Nat} (h1 : i ≤ j) (hj : j < n) (h2 : k ≤ l) (hl : l < m) :
    RD K la lb x y i (j + 1) k (l + 1) = min (min (RD K la lb x y i j k (l + 1) + K.del (x j)) (RD K la lb x y i (j + 1) k l + K.ins (y l)))
      (RD K la lb x y i (max i (la j)) k (max k (lb l)) + RD K la lb x y (max i (la j)) j (max k (lb l)) l + K.rel (x j) (y l)) := by
  unfold RD
  rw [fr_succ hN h1 hj, fr_succ hM h2 hl, FD_ss, fr_open hN h1 hj, fr_open hM h2 hl]
/-- by way of the subtrees' distance -/
theorem RD_trees (hN : Nest la n) (hM : Nest lb m) {i j k l : Nat} (h1 : i ≤ la j) (hj : j < n) (h2 : k ≤ lb l) (hl : l < m) :
    RD K la lb x y i (j + 1) k (l + 1) = min (min (RD K la lb x y i j k (l + 1) + K.del (x j)) (RD K la lb x y i (j + 1) k l + K.ins (y l)))
      (RD K la lb x y i (la j) k (lb l) + TD K la lb x y j l) := by
  have a := (hN j hj).1
  have b := (hM l hl).1
  unfold TD RD
  rw [fr_tree hN hj, fr_tree hM hl, fr_succ hN (i := i) (by omega) hj, fr_succ hM (i := k) (by omega) hl, FD_trees, fr_open hN (by omega) hj, fr_open hM (by omega) hl, show max i (la j) = la j by omega, show max k (lb l) = lb l by omega]
/-- of two subtrees, rows that begin at their first leaves -/
theorem TD_rec (hN : Nest la n) (hM : Nest lb m) {j l : Nat} (hj : j < n) (hl : l < m) :
    TD K la lb x y j l = min (min (RD K la lb x y (la j) j (lb l) (l + 1) + K.del (x j)) (RD K la lb x y (la j) (j + 1) (lb l) l + K.ins (y l)))
      (RD K la lb x y (la j) j (lb l) l + K.rel (x j) (y l)) := by
  unfold TD
  rw [RD_both hN hM (hN j hj).1 hj (hM l hl).1 hl, Nat.max_self, Nat.max_self, RD_none (Nat.le_refl _) (Nat.le_refl _)]
  omega
end

end Go.Proofs.Ytgkkeejhfofcaaa

/- Contracts (IdxP). -/
namespace Go.Proofs.Ytgkkeejhfofcaaa
open Go.RowKit
set_option linter.unusedVariables false

theorem Zs.last_iff (F : List Nat) (k m : Nat) : Zs.lastTo F k m = true ↔ ∀ j, j < m → k < j → F.getD j 0 ≠ F.getD k 0 := by
  simp only [Zs.lastTo, List.all_eq_true, List.mem_range, Bool.or_eq_true, decide_eq_true_eq]
  constructor
  · intro h j h1 h2
    rcases h j h1 with q | q
    · omega
    · exact q
  · intro h j h1
    by_cases q : j ≤ k
    · exact .inl q
    · exact .inr (h j h1 (by omega))
section
variable {xs : Tr} (hok : Tr.ok xs = true)
include hok
theorem Tr.krs_last : ∃ r, Tr.krs xs = r ++ [xs.length - 1] := by
  have hlen : (Tr.lfs xs).length = xs.length := by rw [Tr.lfs_length, Tr.post_length hok]
  have h1 := (Tr.ok_iff.1 hok).2
  refine ⟨Tr.krTo xs (xs.length - 1), ?_⟩
  unfold Tr.krs
  have := Tr.krTo_succ xs (xs.length - 1)
  rw [show xs.length - 1 + 1 = xs.length by omega, hlen] at this
  rw [hlen, this, if_pos ((Zs.last_iff _ _ _).2 fun j h2 h3 => by omega)]
end
theorem Tr.krs_rise {xs : Tr} {a b : Nat} (hab : a < b) (hb : b < (Tr.krs xs).length) : (Tr.krs xs)[a] < (Tr.krs xs)[b] := by
  have hpw : List.Pairwise (· < ·) (Tr.krs xs) := by unfold Tr.krs Tr.krTo; exact List.pairwise_lt_range.filter _
  exact List.pairwise_iff_getElem.1 hpw a b (by omega) hb hab

end Go.Proofs.Ytgkkeejhfofcaaa

/- Contracts (FrT). -/
namespace Go.Proofs.Ytgkkeejhfofcaaa
open Go.RowKit
set_option linter.unusedVariables false

/-! The first leaves of a right tree nest; its key roots. -/
def Tr.la (xs : Tr) (p : Nat) : Nat := (Tr.lfs xs).getD p 0
def Tr.lab (xs : Tr) : List Int := (Tr.post xs).map fun i => Tr.l xs i
def Tr.xa (xs : Tr) (p : Nat) : Int := (Tr.lab xs).getD p 0
section
variable {xs : Tr} (hok : Tr.ok xs = true)
include hok
theorem Tr.la_at {p : Nat} (hp : p < xs.length) : ∃ i, i < xs.length ∧ Tr.rk xs i = p ∧ Tr.la xs p = i - Tr.dn xs i ∧ Tr.xa xs p = Tr.l xs i ∧ (Tr.post xs)[p]? = some i := by
  obtain ⟨i, h1, h2, h3⟩ := Tr.post_get hok hp
  refine ⟨i, h1, h3, ?_, ?_, h2⟩
  · unfold Tr.la Tr.lfs
    rw [List.getD_eq_getElem?_getD, List.getElem?_map, h2]
    rfl
  · unfold Tr.xa Tr.lab
    rw [List.getD_eq_getElem?_getD, List.getElem?_map, h2]
    rfl
theorem Tr.la_nest : Nest (Tr.la xs) xs.length := by
  intro p hp
  obtain ⟨i, h1, h2, h3, _⟩ := Tr.la_at hok hp
  have a := Tr.endN_dn hok h1
  have b := Tr.dn_le hok h1
  have e : Tr.rk xs i = Tr.endN xs i - 1 - Tr.dn xs i := rfl
  refine ⟨by rw [h3, ← h2, e]; omega, fun q hq hqp => ?_⟩
  obtain ⟨j, k1, k2, k3, _⟩ := Tr.la_at hok (p := q) (by omega)
  rw [h3] at hq
  rw [h3, k3]
  have c := Tr.endN_dn hok k1
  have d := Tr.dn_le hok k1
  have e2 : Tr.rk xs j = Tr.endN xs j - 1 - Tr.dn xs j := rfl
  have hij : i < j := by
    rcases Nat.lt_trichotomy i j with h | h | h
    · exact h
    · subst h; omega
    · by_cases hu : i < Tr.endN xs j
      · have := Tr.rk_under hok k1 h hu
        omega
      · have h5 := Tr.gap_mono hok (i := Tr.endN xs j) (j := i) (by omega) h1
        rcases c.2.2.2 with h6 | ⟨h6, h7⟩
        · omega
        · omega
  have := Tr.gap_mono hok (i := i) (j := j) (by omega) k1
  omega
/-- the last place of the whole tree -/
theorem Tr.la_last : Tr.la xs (xs.length - 1) = 0 := by
  have h1 := (Tr.ok_iff.1 hok).2
  obtain ⟨i, a, b, c, _⟩ := Tr.la_at hok (p := xs.length - 1) (by omega)
  have h0 := Tr.rk_inj hok (i := 0) (j := i) (by omega) a (by
    rw [b]
    unfold Tr.rk
    rw [Tr.endN_zero hok, Tr.dn_zero hok]
    omega)
  rw [c, ← h0]
  omega
/-- each place has its key root: the last one with the same first leaf -/
theorem Tr.kr_ex {p : Nat} (hp : p < xs.length) : ∃ q, q ∈ Tr.krs xs ∧ p ≤ q ∧ q < xs.length ∧ Tr.la xs q = Tr.la xs p := by
  have hlen : (Tr.lfs xs).length = xs.length := by rw [Tr.lfs_length, Tr.post_length hok]
  have key : ∀ r p, xs.length - p = r → p < xs.length → ∃ q, p ≤ q ∧ q < xs.length ∧ Zs.lastTo (Tr.lfs xs) q xs.length = true ∧ Tr.la xs q = Tr.la xs p := by
    intro r
    induction r using Nat.strongRecOn with
    | ind r ih =>
      intro p hr hp
      by_cases h : Zs.lastTo (Tr.lfs xs) p xs.length = true
      · exact ⟨p, Nat.le_refl _, hp, h, rfl⟩
      · have h2 : ∃ j, j < xs.length ∧ p < j ∧ (Tr.lfs xs).getD j 0 = (Tr.lfs xs).getD p 0 := by
          refine Classical.byContradiction fun hn => h ((Zs.last_iff _ p _).2 fun j h1 h3 e => hn ⟨j, h1, h3, e⟩)
        obtain ⟨j, h3, h4, h5⟩ := h2
        obtain ⟨q, q1, q2, q3, q4⟩ := ih (xs.length - j) (by omega) j rfl h3
        exact ⟨q, by omega, q2, q3, q4.trans h5⟩
  obtain ⟨q, h1, h2, h3, h4⟩ := key _ p rfl hp
  refine ⟨q, ?_, h1, h2, h4⟩
  unfold Tr.krs Tr.krTo
  rw [hlen]
  simp [h2, h3]
theorem Tr.kr_last {q j : Nat} (hq : q ∈ Tr.krs xs) (hj : j < xs.length) (hqj : q < j) : Tr.la xs j ≠ Tr.la xs q := by
  have hlen : (Tr.lfs xs).length = xs.length := by rw [Tr.lfs_length, Tr.post_length hok]
  unfold Tr.krs Tr.krTo at hq
  rw [hlen] at hq
  simp only [List.mem_filter, List.mem_range] at hq
  exact (Zs.last_iff _ _ _).1 hq.2 j hj hqj
/-- of a place under key root i that begins later, the key root stands ahead of i -/
theorem Tr.kr_under {i p q : Nat} (hi : i < xs.length) (hp1 : Tr.la xs i ≤ p) (hp2 : p ≤ i) (hla : Tr.la xs p ≠ Tr.la xs i) (hq : q < xs.length) (hqp : p ≤ q) (hql : Tr.la xs q = Tr.la xs p) : q < i := by
  have hN := Tr.la_nest hok
  have h1 : Tr.la xs i ≤ Tr.la xs p := by
    rcases Nat.lt_or_ge p i with h | h
    · exact (hN i hi).2 p hp1 h
    · have : p = i := by omega
      subst this; exact absurd rfl hla
  rcases Nat.lt_trichotomy q i with h | h | h
  · exact h
  · subst h; omega
  · have h2 := (hN q hq).2 i (by have := (hN p (by omega)).1; omega) h
    omega
end

end Go.Proofs.Ytgkkeejhfofcaaa

/- Contracts (Co). -/
namespace Go.Proofs.Ytgkkeejhfofcaaa
open Go.RowKit
set_option linter.unusedVariables false

/-! Costs: three rows of numbers. -/
structure Co where
  d : List Int
  i : List Int
  r : List Int
def Zs.fit (zs : List Int) (n : Nat) : Bool := zs.all (fun z => decide (0 ≤ z ∧ z ≤ 1000)) && decide (zs.length = n)
def Co.diag (k : Co) : Bool := (List.range 6).all fun a => decide (k.r.getD (a * 6 + a) 0 = 0)
def Co.ok (k : Co) : Bool := Zs.fit k.d 6 && Zs.fit k.i 6 && Zs.fit k.r 36 && Co.diag k
def Co.del (k : Co) (a : Int) : Int := if Co.ok k && Lab.ok a then Zs.at k.d a.toNat else 0
def Co.ins (k : Co) (a : Int) : Int := if Co.ok k && Lab.ok a then Zs.at k.i a.toNat else 0
def Co.rel (k : Co) (a b : Int) : Int := if Co.ok k && Lab.ok a && Lab.ok b then Zs.at k.r (a * 6 + b).toNat else 0
theorem Co.ok_iff {k : Co} : Co.ok k = true ↔ Zs.fit k.d 6 = true ∧ Zs.fit k.i 6 = true ∧ Zs.fit k.r 36 = true ∧ Co.diag k = true := by
  simp only [Co.ok, Bool.and_eq_true, and_assoc]
/-- the three slices of a cost read as k -/
def CoIn (w : World) (B : Nat) (A0 A1 A2 : Option Addr) (n0 n1 n2 : Nat) (k : Co) : Prop := IntIn w B A0 n0 k.d ∧ IntIn w B A1 n1 k.i ∧ IntIn w B A2 n2 k.r
section
variable {w w' : World} {B : Nat} {A0 A1 A2 : Option Addr} {n0 n1 n2 : Nat} {k : Co}
theorem CoIn.below (h : CoIn w B A0 A1 A2 n0 n1 n2 k) (hb : Below B w w') : CoIn w' B A0 A1 A2 n0 n1 n2 k := ⟨h.1.below hb, h.2.1.below hb, h.2.2.below hb⟩
theorem CoIn.drawn (h : CoIn w B A0 A1 A2 n0 n1 n2 k) (hd : Drawn w w') : CoIn w' B A0 A1 A2 n0 n1 n2 k := ⟨h.1.drawn hd, h.2.1.drawn hd, h.2.2.drawn hd⟩
theorem CoIn.to_below (h : CoIn w w.heap.size A0 A1 A2 n0 n1 n2 k) (hb : Below w.heap.size w w') : CoIn w' w'.heap.size A0 A1 A2 n0 n1 n2 k := ⟨h.1.to_below hb, h.2.1.to_below hb, h.2.2.to_below hb⟩
theorem CoIn.to_drawn (h : CoIn w w.heap.size A0 A1 A2 n0 n1 n2 k) (hd : Drawn w w') : CoIn w' w'.heap.size A0 A1 A2 n0 n1 n2 k := h.to_below hd.toBelow
theorem CoIn.more {B' : Nat} (h : CoIn w B A0 A1 A2 n0 n1 n2 k) (hB : B ≤ B') : CoIn w B' A0 A1 A2 n0 n1 n2 k := ⟨h.1.more hB, h.2.1.more hB, h.2.2.more hB⟩
theorem CoIn.len (h : CoIn w B A0 A1 A2 n0 n1 n2 k) : k.d.length = n0 ∧ k.i.length = n1 ∧ k.r.length = n2 := ⟨h.1.1, h.2.1.1, h.2.2.1⟩
end

end Go.Proofs.Ytgkkeejhfofcaaa

/- Contracts (Mem3). -/
namespace Go.Proofs.Ytgkkeejhfofcaaa
open Go.RowKit
set_option linter.unusedVariables false

/-- the rows a and b lie in blocks apart (a's may be none) -/
def Apart (a b : Value) : Prop := a.ownBlock = none ∨ a.ownBlock ≠ b.ownBlock
end Go.Proofs.Ytgkkeejhfofcaaa

/- Contracts (InS). -/
namespace Go.Proofs.Ytgkkeejhfofcaaa
open Go.RowKit
set_option linter.unusedVariables false

set_option maxHeartbeats 400000 in
theorem l1In_any (x a b : Int) (w : World) :
    Calls Try.prog 56 #[.int .i64 x, .int .i64 a, .int .i64 b] w fun e w' => e = .returned (.bool (decide (a ≤ x ∧ x ≤ b))) ∧ w = w' := by
  go_enter Try.func56, Try.ntmps56
  go_wp2
  all_goals go_ret
  all_goals exact ⟨Kit.ret_bool (by simp; try omega), rfl⟩

end Go.Proofs.Ytgkkeejhfofcaaa

/- Contracts (LabOkS). -/
namespace Go.Proofs.Ytgkkeejhfofcaaa
open Go.RowKit
set_option linter.unusedVariables false

set_option maxHeartbeats 400000 in
theorem specLabelOk_any (n : Int) (w : World) :
    Calls Try.prog 55 #[.int .i64 n] w fun e w' => e = .returned (.bool (Lab.ok n)) ∧ w = w' := by
  go_enter Try.func55, Try.ntmps55
  go_wp2_with fail
  refine (l1In_any _ _ _ _).mono ?_
  rintro e w' ⟨rfl, rfl⟩
  go_wp2
  go_ret
  exact ⟨Kit.ret_bool (by simp [Lab.ok]), rfl⟩

end Go.Proofs.Ytgkkeejhfofcaaa
