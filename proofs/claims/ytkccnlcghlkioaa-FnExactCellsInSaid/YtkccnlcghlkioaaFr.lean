/- Contracts (Fr). -/
import Derived.Test.YtkccnlcghlkioaaFst
namespace Go.Proofs.Ytkccnlcghlkioaa
open Go.RowKit
set_option linter.unusedVariables false

/-! A row of places in postorder as a forest: la p the place of the first leaf under p, x p its label. -/
def fr (la : Nat → Nat) (x : Nat → Int) (i j : Nat) : Fst :=
  if j ≤ i then .nil else .snoc (fr la x i (min (j - 1) (max i (la (j - 1))))) (x (j - 1)) (fr la x (min (j - 1) (max i (la (j - 1)))) (j - 1))
termination_by j - i
decreasing_by all_goals omega
/-- first leaves of the first n places: each stands no later than its node, and all that lies between belongs to the node -/
def Nest (la : Nat → Nat) (n : Nat) : Prop := ∀ p, p < n → la p ≤ p ∧ ∀ q, la p ≤ q → q < p → la p ≤ la q
theorem fr_nil {la : Nat → Nat} {x : Nat → Int} {i j : Nat} (h : j ≤ i) : fr la x i j = .nil := by rw [fr, if_pos h]
section
variable {la : Nat → Nat} {x : Nat → Int} {n : Nat} (hN : Nest la n)
include hN
theorem fr_succ {i j : Nat} (h : i ≤ j) (hj : j < n) : fr la x i (j + 1) = .snoc (fr la x i (max i (la j))) (x j) (fr la x (max i (la j)) j) := by
  have h1 := (hN j hj).1
  rw [fr, if_neg (by omega)]
  simp only [Nat.add_sub_cancel]
  rw [show min j (max i (la j)) = max i (la j) by omega]
theorem fr_size : ∀ (m i j : Nat), j - i = m → i ≤ j → j ≤ n → (fr la x i j).size = j - i := by
  intro m
  induction m using Nat.strongRecOn with
  | ind m ih =>
    intro i j hm hij hj
    by_cases e : j = i
    · subst e; rw [fr_nil (Nat.le_refl _)]; simp [Fst.size]
    · obtain ⟨j, rfl⟩ : ∃ k, j = k + 1 := ⟨j - 1, by omega⟩
      have h1 := (hN j (by omega)).1
      rw [fr_succ hN (by omega) (by omega)]
      simp only [Fst.size]
      rw [ih _ (by omega) i (max i (la j)) rfl (by omega) (by omega), ih _ (by omega) (max i (la j)) j rfl (by omega) (by omega)]
      omega
/-- a row parted where no node's subtree is cut -/
theorem fr_cat {i p : Nat} (hip : i ≤ p) : ∀ (m j : Nat), j - p = m → p ≤ j → j ≤ n → (∀ q, p ≤ q → q < j → p ≤ la q) → fr la x i j = (fr la x i p).cat (fr la x p j) := by
  intro m
  induction m using Nat.strongRecOn with
  | ind m ih =>
    intro j hm hpj hj hall
    by_cases e : j = p
    · subst e; rw [fr_nil (i := j) (Nat.le_refl _)]; rfl
    · obtain ⟨j, rfl⟩ : ∃ k, j = k + 1 := ⟨j - 1, by omega⟩
      have h1 := (hN j (by omega)).1
      have h2 := hall j (by omega) (by omega)
      rw [fr_succ hN (i := i) (by omega) (by omega), fr_succ hN (i := p) (by omega) (by omega), Fst.cat]
      rw [show max i (la j) = la j by omega, show max p (la j) = la j by omega]
      rw [ih _ (by omega) (la j) rfl (by omega) (by omega) (fun q a b => hall q a (by omega))]
/-- the last root taken out -/
theorem fr_open {i j : Nat} (h : i ≤ j) (hj : j < n) : (fr la x i (max i (la j))).cat (fr la x (max i (la j)) j) = fr la x i j := by
  have h1 := hN j hj
  by_cases e : la j ≤ i
  · rw [show max i (la j) = i by omega, fr_nil (j := i) (Nat.le_refl _), Fst.nil_cat]
  · rw [show max i (la j) = la j by omega]
    exact (fr_cat hN (by omega) _ j rfl h1.1 (by omega) h1.2).symm
/-- a whole subtree -/
theorem fr_tree {p : Nat} (hp : p < n) : fr la x (la p) (p + 1) = .one (x p) (fr la x (la p) p) := by
  rw [fr_succ hN (hN p hp).1 hp, Nat.max_self, fr_nil (Nat.le_refl _)]
  rfl
end
/-- the distance of two rows of places -/
def RD (K : Cs) (la lb : Nat → Nat) (x y : Nat → Int) (i j k m : Nat) : Int := FD K (fr la x i j) (fr lb y k m)
/-- .. of two subtrees -/
def TD (K : Cs) (la lb : Nat → Nat) (x y : Nat → Int) (p q : Nat) : Int := RD K la lb x y (la p) (p + 1) (lb q) (q + 1)
section
variable {K : Cs} {la lb : Nat → Nat} {x y : Nat → Int} {n m : Nat}
theorem RD_none {i j k l : Nat} (h1 : j ≤ i) (h2 : l ≤ k) : RD K la lb x y i j k l = 0 := by unfold RD; rw [fr_nil h1, fr_nil h2, FD_nn]
theorem RD_left (hN : Nest la n) {i j k l : Nat} (h1 : i ≤ j) (hj : j < n) (h2 : l ≤ k) : RD K la lb x y i (j + 1) k l = RD K la lb x y i j k l + K.del (x j) := by
  unfold RD; rw [fr_nil h2, fr_succ hN h1 hj, FD_sn, fr_open hN h1 hj]
theorem RD_right (hM : Nest lb m) {i j k l : Nat} (h1 : j ≤ i) (h2 : k ≤ l) (hl : l < m) : RD K la lb x y i j k (l + 1) = RD K la lb x y i j k l + K.ins (y l) := by
  unfold RD; rw [fr_nil h1, fr_succ hM h2 hl, FD_ns, fr_open hM h2 hl]
theorem RD_both (hN : Nest la n) (hM : Nest lb m) {i j k l : Nat} (h1 : i ≤ j) (hj : j < n) (h2 : k ≤ l) (hl : l < m) :
    RD K la lb x y i (j + 1) k (l + 1) = min (min (RD K la lb x y i j k (l + 1) + K.del (x j)) (RD K la lb x y i (j + 1) k l + K.ins (y l)))
      (RD K la lb x y i (max i (la j)) k (max k (lb l)) + RD K la lb x y (max i (la j)) j (max k (lb l)) l + K.rel (x j) (y l)) := by
  unfold RD
  rw [fr_succ hN h1 hj, fr_succ hM h2 hl, FD_ss, fr_open hN h1 hj, fr_open hM h2 hl]
/-- by way of the subtrees' distance -/
theorem RD_trees (hN : Nest la n) (hM : Nest lb m) {i j k l : Nat} (h1 : i ≤ la j) (hj : j < n) (h2 : k ≤ lb l) (hl : l < m) :
    RD K la lb x y i (j + 1) k (l + 1) = min (min (RD K la lb x y i j k (l + 1) + K.del (x j)) (RD K la lb x y i (j + 1) k l + K.ins (y l)))
      (RD K la lb x y i (la j) k (lb l) + TD K la lb x y j l) := by
  have a := (hN j hj).1
  have b := (hM l hl).1
  unfold TD RD
  rw [fr_tree hN hj, fr_tree hM hl, fr_succ hN (i := i) (by omega) hj, fr_succ hM (i := k) (by omega) hl, FD_trees, fr_open hN (by omega) hj, fr_open hM (by omega) hl, show max i (la j) = la j by omega, show max k (lb l) = lb l by omega]
/-- of two subtrees, rows that begin at their first leaves -/
theorem TD_rec (hN : Nest la n) (hM : Nest lb m) {j l : Nat} (hj : j < n) (hl : l < m) :
    TD K la lb x y j l = min (min (RD K la lb x y (la j) j (lb l) (l + 1) + K.del (x j)) (RD K la lb x y (la j) (j + 1) (lb l) l + K.ins (y l)))
      (RD K la lb x y (la j) j (lb l) l + K.rel (x j) (y l)) := by
  unfold TD
  rw [RD_both hN hM (hN j hj).1 hj (hM l hl).1 hl, Nat.max_self, Nat.max_self, RD_none (Nat.le_refl _) (Nat.le_refl _)]
  omega
end

end Go.Proofs.Ytkccnlcghlkioaa
