/- Contracts (GetM). -/
import Derived.Test.YtpdpkcadolcbmaaPutM
namespace Go.Proofs.Ytpdpkcadolcbmaa
open Go.RowKit
set_option linter.unusedVariables false

/-- up to n numbers at the head of t, and what follows them; it stops where none begins -/
def Zs.getTo : Nat → ByteArray → List Int × ByteArray
  | 0, t => ([], t)
  | n + 1, t => if Num.rvK t = 0 then ([], t) else ((Num.rvN t : Int) :: (Zs.getTo n (Num.rest t (Num.rvK t))).1, (Zs.getTo n (Num.rest t (Num.rvK t))).2)
theorem Zs.getTo_no {t : ByteArray} (h : Num.rvK t = 0) (n : Nat) : Zs.getTo n t = ([], t) := by
  cases n with
  | zero => rfl
  | succ n => unfold Zs.getTo; rw [if_pos h]
theorem Zs.getTo_yes {t : ByteArray} (h : ¬ Num.rvK t = 0) (n : Nat) : Zs.getTo (n + 1) t = ((Num.rvN t : Int) :: (Zs.getTo n (Num.rest t (Num.rvK t))).1, (Zs.getTo n (Num.rest t (Num.rvK t))).2) := by
  show (if _ then _ else _) = _
  rw [if_neg h]
theorem Zs.getTo_len (n : Nat) (t : ByteArray) : (Zs.getTo n t).1.length ≤ n := by
  induction n generalizing t with
  | zero => exact Nat.le_refl 0
  | succ n ih =>
    by_cases h : Num.rvK t = 0
    · rw [Zs.getTo_no h]; simp
    · rw [Zs.getTo_yes h]
      have := ih (Num.rest t (Num.rvK t))
      simp; omega
theorem Zs.getTo_size (n : Nat) (t : ByteArray) : (Zs.getTo n t).2.size ≤ t.size := by
  induction n generalizing t with
  | zero => exact Nat.le_refl _
  | succ n ih =>
    by_cases h : Num.rvK t = 0
    · rw [Zs.getTo_no h]; exact Nat.le_refl _
    · rw [Zs.getTo_yes h]
      have := ih (Num.rest t (Num.rvK t))
      rw [Num.rest_size] at this
      simp only
      omega
theorem Zs.getTo_add (a b : Nat) (t : ByteArray) : Zs.getTo (a + b) t = ((Zs.getTo a t).1 ++ (Zs.getTo b (Zs.getTo a t).2).1, (Zs.getTo b (Zs.getTo a t).2).2) := by
  induction a generalizing t with
  | zero => simp [Zs.getTo]
  | succ a ih =>
    by_cases h : Num.rvK t = 0
    · rw [Zs.getTo_no h, Zs.getTo_no h, Zs.getTo_no h]; rfl
    · rw [show a + 1 + b = a + b + 1 by omega, Zs.getTo_yes h, Zs.getTo_yes h, ih]
      rfl
def Co.read (s : ByteArray) : Co × ByteArray :=
  (⟨(Zs.getTo 6 s).1, (Zs.getTo 6 (Zs.getTo 6 s).2).1, (Zs.getTo 36 (Zs.getTo 6 (Zs.getTo 6 s).2).2).1⟩, (Zs.getTo 36 (Zs.getTo 6 (Zs.getTo 6 s).2).2).2)
def Co.none : Co := ⟨[], [], []⟩
def Co.get (s : ByteArray) : Co × Bool := if (Co.read s).2.size = 0 ∧ Co.ok (Co.read s).1 = true then ((Co.read s).1, true) else (Co.none, false)
theorem Co.get_yes {s : ByteArray} (h0 : (Co.read s).2.size = 0) (h1 : Co.ok (Co.read s).1 = true) : Co.get s = ((Co.read s).1, true) := by unfold Co.get; rw [if_pos ⟨h0, h1⟩]
theorem Co.get_left {s : ByteArray} (h0 : ¬ (Co.read s).2.size = 0) : Co.get s = (Co.none, false) := by unfold Co.get; rw [if_neg (fun e => h0 e.1)]
theorem Co.get_bad {s : ByteArray} (h1 : Co.ok (Co.read s).1 = false) : Co.get s = (Co.none, false) := by unfold Co.get; rw [if_neg (fun e => by rw [h1] at e; exact absurd e.2 (by decide))]
theorem Co.read_lens (s : ByteArray) : (Co.read s).1.d.length ≤ 6 ∧ (Co.read s).1.i.length ≤ 6 ∧ (Co.read s).1.r.length ≤ 36 := by
  unfold Co.read
  generalize hq : Zs.getTo 6 s = q
  generalize hp : Zs.getTo 6 q.2 = p
  generalize ho : Zs.getTo 36 p.2 = o
  have h1 := Zs.getTo_len 6 s
  have h2 := Zs.getTo_len 6 q.2
  have h3 := Zs.getTo_len 36 p.2
  rw [hq] at h1
  rw [hp] at h2
  rw [ho] at h3
  exact ⟨h1, h2, h3⟩
theorem Co.get_len (s : ByteArray) : (Co.get s).1.d.length ≤ 36 ∧ (Co.get s).1.i.length ≤ 36 ∧ (Co.get s).1.r.length ≤ 36 := by
  have h := Co.read_lens s
  unfold Co.get
  generalize Co.read s = q at h ⊢
  split
  · exact ⟨Nat.le_trans h.1 (by decide), Nat.le_trans h.2.1 (by decide), h.2.2⟩
  · exact ⟨Nat.zero_le _, Nat.zero_le _, Nat.zero_le _⟩
theorem Co.read_all (s : ByteArray) : Zs.getTo 48 s = (Co.all (Co.read s).1, (Co.read s).2) := by
  have e := Zs.getTo_add 6 42 s
  have e2 := Zs.getTo_add 6 36 (Zs.getTo 6 s).2
  unfold Co.read
  generalize Zs.getTo 6 s = q at e e2 ⊢
  generalize Zs.getTo 6 q.2 = p at e e2 ⊢
  generalize Zs.getTo 36 p.2 = o at e e2 ⊢
  have e3 : Zs.getTo 42 q.2 = (p.1 ++ o.1, o.2) := e2
  have e4 : Zs.getTo 48 s = (q.1 ++ (Zs.getTo 42 q.2).1, (Zs.getTo 42 q.2).2) := e
  rw [e4, e3]
  simp only [Co.all, List.append_assoc]
/-- too few numbers -/
theorem Co.get_few {s : ByteArray} (h : (Zs.getTo 48 s).1.length ≠ 48) : Co.get s = (Co.none, false) := by
  cases h1 : Co.ok (Co.read s).1 with
  | false => exact Co.get_bad h1
  | true =>
    have hl := Co.ok_len h1
    rw [Co.read_all] at h
    simp only [Co.all, List.length_append] at h
    omega
/-- all numbers: where the three tables lie -/
theorem Co.read_cut {s : ByteArray} {L : List Int} {r : ByteArray} (h : Zs.getTo 48 s = (L, r)) (hl : L.length = 48) : Co.read s = (⟨L.take 6, (L.take 12).drop 6, L.drop 12⟩, r) := by
  have ha := Co.read_all s
  rw [h] at ha
  obtain ⟨hd, hi, hr⟩ := Co.read_lens s
  rcases hq : Co.read s with ⟨⟨d, i, e⟩, q⟩
  rw [hq] at ha hd hi hr
  simp only [Co.all, Prod.mk.injEq] at ha hd hi hr
  obtain ⟨h1, h2⟩ := ha
  have hs : d.length + i.length + e.length = 48 := by rw [← hl, h1]; simp only [List.length_append]
  have l0 : d.length = 6 := by omega
  have l1 : i.length = 6 := by omega
  have x0 : L.take 6 = d := by
    rw [h1, List.append_assoc, List.take_append_of_le_length (by omega)]
    exact List.take_of_length_le (by omega)
  have x2 : L.drop 12 = e := by
    rw [h1, List.drop_append, List.drop_of_length_le (by rw [List.length_append]; omega), List.length_append]
    simp [l0, l1]
  have x1 : (L.take 12).drop 6 = i := by
    rw [h1, List.take_append_of_le_length (by rw [List.length_append]; omega), List.take_of_length_le (by rw [List.length_append]; omega), List.drop_append, List.drop_of_length_le (by omega), l0]
    simp
  rw [x0, x1, x2, h2]

end Go.Proofs.Ytpdpkcadolcbmaa
