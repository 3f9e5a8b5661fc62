/- Contracts (Cod). -/
import Derived.Test.YtfchmdhlfhoogaaC1P
import Derived.Test.YtfchmdhlfhoogaaTr
namespace Go.Proofs.Ytfchmdhlfhoogaa
open Go.RowKit
set_option linter.unusedVariables false


theorem Num.varF_len' (f q : Nat) : (Num.varF f q).length ≤ f + 1 := by
  induction f generalizing q with
  | zero => by_cases h : q < 128 <;> simp [Num.varF]
  | succ f ih =>
    by_cases h : q < 128
    · rw [Num.varF_small _ _ h]; simp
    · rw [Num.varF_big _ _ (by omega)]
      have := ih (q / 128)
      simp; omega
/-- the bytes of a number -/
def Num.varB (n : Int) : ByteArray := ⟨(Num.varR n).toArray⟩
theorem Num.varB_size (n : Int) : (Num.varB n).size ≤ 7 := by
  unfold Num.varB
  show (Num.varR n).toArray.size ≤ 7
  simp only [List.size_toArray]
  unfold Num.varR
  split
  · have := Num.varF_len' 6 n.toNat
    omega
  · simp
/-- the bytes of a tree's count and of its first k nodes -/
def Tr.putTo (xs : Tr) : Nat → ByteArray
  | 0 => Num.varB xs.length
  | k + 1 => Tr.putTo xs k ++ Num.varB (Tr.l xs k) ++ Num.varB (Tr.d xs k)
def Tr.put (xs : Tr) : ByteArray := if Tr.ok xs then Tr.putTo xs xs.length else ⟨#[]⟩
theorem Tr.putTo_size (xs : Tr) (k : Nat) : (Tr.putTo xs k).size ≤ 7 + 14 * k := by
  induction k with
  | zero => exact Num.varB_size _
  | succ k ih =>
    have h1 := Num.varB_size (Tr.l xs k)
    have h2 := Num.varB_size (Tr.d xs k)
    simp only [Tr.putTo, ByteArray.size_append]
    omega
theorem Tr.putTo_two (xs : Tr) (k : Nat) : Tr.putTo xs (k + 1) = Tr.putTo xs k ++ (Num.varB (Tr.l xs k) ++ Num.varB (Tr.d xs k)) := by
  simp only [Tr.putTo, ByteArray.append_assoc]

/-- may a node of depth d come behind the first n nodes -/
def Tr.fits (xs : Tr) (n : Nat) (d : Int) : Bool := if n = 0 then decide (d = 0) else decide (1 ≤ d ∧ d ≤ Tr.d xs (n - 1) + 1)
theorem Tr.okAt_fits {xs : Tr} {k : Nat} (h1 : 0 ≤ Tr.l xs k ∧ Tr.l xs k ≤ 5) (h0 : 0 < k → 0 ≤ Tr.d xs (k - 1)) : Tr.okAt xs k = (decide (Tr.d xs k ≤ 12) && Tr.fits xs k (Tr.d xs k)) := by
  rw [Tr.okAt, Tr.fits, Bool.eq_iff_iff]
  by_cases hk : k = 0
  · simp [hk] at h1 ⊢; omega
  · have := h0 (by omega)
    simp [hk]; omega

/-- what stands behind the first u bytes -/
def Num.rest (t : ByteArray) (u : Nat) : ByteArray := t.extract u t.size
theorem Num.rest_size (t : ByteArray) (u : Nat) : (Num.rest t u).size = t.size - u := by simp [Num.rest]
theorem Num.rest_rest (t : ByteArray) (u v : Nat) : Num.rest (Num.rest t u) v = Num.rest t (u + v) := by
  unfold Num.rest
  rw [ByteArray.extract_extract, ByteArray.size_extract]
  congr 1
  omega

/-- the node at the start of t, behind the nodes xs: the node, its length, its code -/
def Tr.node (t : ByteArray) (xs : Tr) : (Int × Int) × Nat × Int :=
  if Num.rvK t = 0 then ((0, 0), 0, 1)
  else if Lab.ok (Num.rvN t) = false then ((0, 0), 0, 3)
  else if Num.rvK (Num.rest t (Num.rvK t)) = 0 then ((0, 0), 0, 1)
  else if 12 < Num.rvN (Num.rest t (Num.rvK t)) then ((0, 0), 0, 4)
  else if Tr.fits xs xs.length (Num.rvN (Num.rest t (Num.rvK t))) = false then ((0, 0), 0, 5)
  else (((Num.rvN t : Int), (Num.rvN (Num.rest t (Num.rvK t)) : Int)), Num.rvK t + Num.rvK (Num.rest t (Num.rvK t)), 0)
/-- r nodes off t, behind the nodes xs: all nodes and the code -/
def Tr.getB : Nat → ByteArray → Tr → Tr × Int
  | 0, t, xs => if t.size = 0 then (xs, 0) else ([], 6)
  | r + 1, t, xs => if (Tr.node t xs).2.2 = 0 then Tr.getB r (Num.rest t (Tr.node t xs).2.1) (xs ++ [(Tr.node t xs).1]) else ([], (Tr.node t xs).2.2)
def Tr.get (s : ByteArray) : Tr × Int :=
  if Num.rvK s = 0 then ([], 1)
  else if 1 ≤ Num.rvN s ∧ Num.rvN s ≤ 24 then Tr.getB (Num.rvN s) (Num.rest s (Num.rvK s)) []
  else ([], 2)

section
variable {t : ByteArray} {xs : Tr}
theorem Tr.node_n1 (h : Num.rvK t = 0) : Tr.node t xs = ((0, 0), 0, 1) := by unfold Tr.node; rw [if_pos h]
theorem Tr.node_n2 (h : ¬ Num.rvK t = 0) (h2 : Lab.ok (Num.rvN t) = false) : Tr.node t xs = ((0, 0), 0, 3) := by unfold Tr.node; rw [if_neg h, if_pos h2]
theorem Tr.node_n3 (h : ¬ Num.rvK t = 0) (h2 : Lab.ok (Num.rvN t) = true) (h3 : Num.rvK (Num.rest t (Num.rvK t)) = 0) : Tr.node t xs = ((0, 0), 0, 1) := by
  unfold Tr.node; rw [if_neg h, if_neg (by simp [h2]), if_pos h3]
theorem Tr.node_n4 (h : ¬ Num.rvK t = 0) (h2 : Lab.ok (Num.rvN t) = true) (h3 : ¬ Num.rvK (Num.rest t (Num.rvK t)) = 0) (h4 : 12 < Num.rvN (Num.rest t (Num.rvK t))) : Tr.node t xs = ((0, 0), 0, 4) := by
  unfold Tr.node; rw [if_neg h, if_neg (by simp [h2]), if_neg h3, if_pos h4]
theorem Tr.node_n5 (h : ¬ Num.rvK t = 0) (h2 : Lab.ok (Num.rvN t) = true) (h3 : ¬ Num.rvK (Num.rest t (Num.rvK t)) = 0) (h4 : ¬ 12 < Num.rvN (Num.rest t (Num.rvK t)))
    (h5 : Tr.fits xs xs.length (Num.rvN (Num.rest t (Num.rvK t))) = false) : Tr.node t xs = ((0, 0), 0, 5) := by
  unfold Tr.node; rw [if_neg h, if_neg (by simp [h2]), if_neg h3, if_neg h4, if_pos h5]
theorem Tr.node_y (h : ¬ Num.rvK t = 0) (h2 : Lab.ok (Num.rvN t) = true) (h3 : ¬ Num.rvK (Num.rest t (Num.rvK t)) = 0) (h4 : ¬ 12 < Num.rvN (Num.rest t (Num.rvK t)))
    (h5 : Tr.fits xs xs.length (Num.rvN (Num.rest t (Num.rvK t))) = true) :
    Tr.node t xs = (((Num.rvN t : Int), (Num.rvN (Num.rest t (Num.rvK t)) : Int)), Num.rvK t + Num.rvK (Num.rest t (Num.rvK t)), 0) := by
  unfold Tr.node; rw [if_neg h, if_neg (by simp [h2]), if_neg h3, if_neg h4, if_neg (by simp [h5])]
theorem Num.rvK_le (s : ByteArray) : Num.rvK s ≤ 7 ∧ Num.rvK s ≤ s.size := by
  have := Num.vsize_le s.data.toList
  unfold Num.rvK
  split
  · simpa using this
  · omega
theorem Num.rvN_le (s : ByteArray) : Num.rvN s ≤ 562949953421311 := Num.val7_small _ (by have := (Num.rvK_le s).1; simp; omega)
/-- a node is read, or there is none -/
theorem Tr.node_cases (t : ByteArray) (xs : Tr) : (∃ code : Int, Tr.node t xs = ((0, 0), 0, code) ∧ 1 ≤ code ∧ code ≤ 5) ∨
    (∃ (l d : Int) (u : Nat), Tr.node t xs = ((l, d), u, 0) ∧ u ≤ t.size ∧ (0 ≤ l ∧ l ≤ 5) ∧ (0 ≤ d ∧ d ≤ 12)) := by
  by_cases h : Num.rvK t = 0
  · exact .inl ⟨_, Tr.node_n1 h, by omega, by omega⟩
  · rcases h2 : Lab.ok (Num.rvN t) with _ | _
    · exact .inl ⟨_, Tr.node_n2 h h2, by omega, by omega⟩
    · by_cases h3 : Num.rvK (Num.rest t (Num.rvK t)) = 0
      · exact .inl ⟨_, Tr.node_n3 h h2 h3, by omega, by omega⟩
      · by_cases h4 : 12 < Num.rvN (Num.rest t (Num.rvK t))
        · exact .inl ⟨_, Tr.node_n4 h h2 h3 h4, by omega, by omega⟩
        · rcases h5 : Tr.fits xs xs.length (Num.rvN (Num.rest t (Num.rvK t))) with _ | _
          · exact .inl ⟨_, Tr.node_n5 h h2 h3 h4 h5, by omega, by omega⟩
          · refine .inr ⟨_, _, _, Tr.node_y h h2 h3 h4 h5, ?_, ?_, ?_⟩
            · have h6 := Num.rvK_le (Num.rest t (Num.rvK t))
              have h7 := Num.rvK_le t
              rw [Num.rest_size] at h6
              omega
            · simpa [Lab.ok] using h2
            · omega
end
theorem Tr.getB_end {t : ByteArray} {xs : Tr} (h : t.size = 0) : Tr.getB 0 t xs = (xs, 0) := by unfold Tr.getB; rw [if_pos h]
theorem Tr.getB_left {t : ByteArray} {xs : Tr} (h : ¬ t.size = 0) : Tr.getB 0 t xs = ([], 6) := by unfold Tr.getB; rw [if_neg h]
theorem Tr.getB_no {r : Nat} {t : ByteArray} {xs : Tr} {p : Int × Int} {u : Nat} {code : Int} (h : Tr.node t xs = (p, u, code)) (hc : 1 ≤ code) : Tr.getB (r + 1) t xs = ([], code) := by
  unfold Tr.getB; rw [h, if_neg (show ¬ code = 0 by omega)]
theorem Tr.getB_yes {r : Nat} {t : ByteArray} {xs : Tr} {p : Int × Int} {u : Nat} (h : Tr.node t xs = (p, u, 0)) : Tr.getB (r + 1) t xs = Tr.getB r (Num.rest t u) (xs ++ [p]) := by
  show (if (Tr.node t xs).2.2 = 0 then Tr.getB r (Num.rest t (Tr.node t xs).2.1) (xs ++ [(Tr.node t xs).1]) else ([], (Tr.node t xs).2.2)) = _
  rw [h, if_pos rfl]
theorem Tr.getB_len (r : Nat) (t : ByteArray) (xs : Tr) : (Tr.getB r t xs).1.length ≤ xs.length + r := by
  induction r generalizing t xs with
  | zero => unfold Tr.getB; split <;> simp
  | succ r ih =>
    unfold Tr.getB
    split
    · refine Nat.le_trans (ih _ _) ?_
      simp; omega
    · simp
theorem Tr.get_len (s : ByteArray) : (Tr.get s).1.length ≤ 24 := by
  unfold Tr.get
  split
  · simp
  · split
    · refine Nat.le_trans (Tr.getB_len _ _ _) ?_
      simp; omega
    · simp
theorem Tr.get_n1 {s : ByteArray} (h : Num.rvK s = 0) : Tr.get s = ([], 1) := by unfold Tr.get; rw [if_pos h]
theorem Tr.get_n2 {s : ByteArray} (h : ¬ Num.rvK s = 0) (h2 : ¬ (1 ≤ Num.rvN s ∧ Num.rvN s ≤ 24)) : Tr.get s = ([], 2) := by unfold Tr.get; rw [if_neg h, if_neg h2]
theorem Tr.get_y {s : ByteArray} (h : ¬ Num.rvK s = 0) (h2 : 1 ≤ Num.rvN s ∧ Num.rvN s ≤ 24) : Tr.get s = Tr.getB (Num.rvN s) (Num.rest s (Num.rvK s)) [] := by unfold Tr.get; rw [if_neg h, if_pos h2]

end Go.Proofs.Ytfchmdhlfhoogaa
