/- Texts of one claim laid into one file, in build order: Opm, Com, Bm, Dtb. -/
import Derived.Test.YtgkkeejhfofcaaaHf1
import Derived.Test.YtgkkeejhfofcaaaHf2
import Derived.Test.YtgkkeejhfofcaaaHf6
import Derived.Test.YtgkkeejhfofcaaaHf7
import Derived.Test.YtgkkeejhfofcaaaHf9
/- Contracts (Opm). -/
namespace Go.Proofs.Ytgkkeejhfofcaaa
open Go.RowKit
set_option linter.unusedVariables false


/-! Mathematics of chapter 13: operations on lists of nodes. -/
/-- nodes from place f up to t, so much deeper -/
def Tr.sh (xs : Tr) (f t : Nat) (dd : Int) : Tr := (List.range (t - f)).map fun j => (Tr.l xs (f + j), Tr.d xs (f + j) + dd)
theorem Tr.sh_len (xs : Tr) (f t : Nat) (dd : Int) : (Tr.sh xs f t dd).length = t - f := by simp [Tr.sh]
theorem Tr.sh_succ (xs : Tr) {f t : Nat} (dd : Int) (h : f ≤ t) : Tr.sh xs f (t + 1) dd = Tr.sh xs f t dd ++ [(Tr.l xs t, Tr.d xs t + dd)] := by
  unfold Tr.sh
  rw [show t + 1 - f = (t - f) + 1 by omega, List.range_succ, List.map_append]
  simp [show f + (t - f) = t by omega]
theorem Tr.sh_nil (xs : Tr) (f : Nat) (dd : Int) : Tr.sh xs f f dd = [] := by simp [Tr.sh]
theorem Tr.sh_l {xs : Tr} {f t k : Nat} {dd : Int} (h : k < t - f) : Tr.l (Tr.sh xs f t dd) k = Tr.l xs (f + k) := by
  simp [Tr.l, Tr.sh, List.getD_eq_getElem?_getD, h]
theorem Tr.sh_d {xs : Tr} {f t k : Nat} {dd : Int} (h : k < t - f) : Tr.d (Tr.sh xs f t dd) k = Tr.d xs (f + k) + dd := by
  simp [Tr.d, Tr.sh, List.getD_eq_getElem?_getD, h]
theorem Tr.l_app (xs ys : Tr) (k : Nat) : Tr.l (xs ++ ys) k = if k < xs.length then Tr.l xs k else Tr.l ys (k - xs.length) := by
  unfold Tr.l
  rw [List.getD_eq_getElem?_getD, List.getElem?_append]
  split <;> simp [List.getD_eq_getElem?_getD]
theorem Tr.d_app (xs ys : Tr) (k : Nat) : Tr.d (xs ++ ys) k = if k < xs.length then Tr.d xs k else Tr.d ys (k - xs.length) := by
  unfold Tr.d
  rw [List.getD_eq_getElem?_getD, List.getElem?_append]
  split <;> simp [List.getD_eq_getElem?_getD]
/-- node i out, its kids in its place -/
def Oc.del (xs : Tr) (i : Nat) : Tr := (Tr.sh xs 0 i 0 ++ Tr.sh xs (i + 1) (Tr.endN xs i) (-1)) ++ Tr.sh xs (Tr.endN xs i) xs.length 0
/-- a node below i at place f, those up to t below it -/
def Oc.ins (xs : Tr) (i : Nat) (a : Int) (f t : Nat) : Tr := ((Tr.sh xs 0 f 0 ++ [(a, Tr.d xs i + 1)]) ++ Tr.sh xs f t 1) ++ Tr.sh xs t xs.length 0
def Oc.rel (xs : Tr) (i : Nat) (a : Int) : Tr := xs.set i (a, Tr.d xs i)
section
variable {xs : Tr} {i f t k : Nat} {a : Int}
theorem Oc.del_len (hi : i < xs.length) : (Oc.del xs i).length = xs.length - 1 := by
  obtain ⟨h1, h2, _⟩ := Tr.endN_spec xs i hi
  simp only [Oc.del, List.length_append, Tr.sh_len]
  omega
theorem Oc.del_l (hi : i < xs.length) (hk : k < xs.length - 1) : Tr.l (Oc.del xs i) k = if k < i then Tr.l xs k else Tr.l xs (k + 1) := by
  obtain ⟨h1, h2, _⟩ := Tr.endN_spec xs i hi
  unfold Oc.del
  rw [Tr.l_app, Tr.l_app]
  simp only [List.length_append, Tr.sh_len]
  by_cases c1 : k < i
  · rw [if_pos (by omega), if_pos (by omega), if_pos c1, Tr.sh_l (by omega)]
    congr 1; omega
  · rw [if_neg c1]
    by_cases c2 : k + 1 < Tr.endN xs i
    · rw [if_pos (by omega), if_neg (by omega), Tr.sh_l (by omega)]
      congr 1; omega
    · rw [if_neg (by omega), Tr.sh_l (by omega)]
      congr 1; omega
theorem Oc.del_d (hi : i < xs.length) (hk : k < xs.length - 1) : Tr.d (Oc.del xs i) k = if k < i then Tr.d xs k else if k + 1 < Tr.endN xs i then Tr.d xs (k + 1) - 1 else Tr.d xs (k + 1) := by
  obtain ⟨h1, h2, _⟩ := Tr.endN_spec xs i hi
  unfold Oc.del
  rw [Tr.d_app, Tr.d_app]
  simp only [List.length_append, Tr.sh_len]
  by_cases c1 : k < i
  · rw [if_pos (by omega), if_pos (by omega), if_pos c1, Tr.sh_d (by omega), Int.add_zero]
    congr 1; omega
  · rw [if_neg c1]
    by_cases c2 : k + 1 < Tr.endN xs i
    · rw [if_pos (by omega), if_neg (by omega), if_pos c2, Tr.sh_d (by omega), show i + 1 + (k - (i - 0)) = k + 1 by omega]
      omega
    · rw [if_neg (by omega), if_neg c2, Tr.sh_d (by omega), Int.add_zero]
      congr 1; omega
theorem Oc.ins_len (hft : f ≤ t) (ht : t ≤ xs.length) : (Oc.ins xs i a f t).length = xs.length + 1 := by
  simp only [Oc.ins, List.length_append, Tr.sh_len, List.length_singleton]
  omega
theorem Oc.ins_l (hft : f ≤ t) (ht : t ≤ xs.length) (hk : k < xs.length + 1) : Tr.l (Oc.ins xs i a f t) k = if k < f then Tr.l xs k else if k = f then a else Tr.l xs (k - 1) := by
  unfold Oc.ins
  rw [Tr.l_app, Tr.l_app, Tr.l_app]
  simp only [List.length_append, Tr.sh_len, List.length_singleton]
  by_cases c1 : k < f
  · rw [if_pos (by omega), if_pos (by omega), if_pos (by omega), if_pos c1, Tr.sh_l (by omega)]
    congr 1; omega
  · rw [if_neg c1]
    by_cases c2 : k = f
    · subst c2
      rw [if_pos (by omega), if_pos (by omega), if_neg (by omega), if_pos rfl]
      simp [Tr.l]
    · rw [if_neg c2]
      by_cases c3 : k ≤ t
      · rw [if_pos (by omega), if_neg (by omega), Tr.sh_l (by omega)]
        congr 1; omega
      · rw [if_neg (by omega), Tr.sh_l (by omega)]
        congr 1; omega
theorem Oc.ins_d (hft : f ≤ t) (ht : t ≤ xs.length) (hk : k < xs.length + 1) : Tr.d (Oc.ins xs i a f t) k = if k < f then Tr.d xs k else if k = f then Tr.d xs i + 1 else if k ≤ t then Tr.d xs (k - 1) + 1 else Tr.d xs (k - 1) := by
  unfold Oc.ins
  rw [Tr.d_app, Tr.d_app, Tr.d_app]
  simp only [List.length_append, Tr.sh_len, List.length_singleton]
  by_cases c1 : k < f
  · rw [if_pos (by omega), if_pos (by omega), if_pos (by omega), if_pos c1, Tr.sh_d (by omega), Int.add_zero]
    congr 1; omega
  · rw [if_neg c1]
    by_cases c2 : k = f
    · subst c2
      rw [if_pos (by omega), if_pos (by omega), if_neg (by omega), if_pos rfl]
      simp [Tr.d]
    · rw [if_neg c2]
      by_cases c3 : k ≤ t
      · rw [if_pos (by omega), if_neg (by omega), if_pos c3, Tr.sh_d (by omega)]
        congr 2; omega
      · rw [if_neg (by omega), if_neg c3, Tr.sh_d (by omega), Int.add_zero]
        congr 1; omega
theorem Oc.rel_len : (Oc.rel xs i a).length = xs.length := by simp [Oc.rel]
theorem Oc.rel_d : Tr.d (Oc.rel xs i a) k = Tr.d xs k := by
  by_cases hk : k < xs.length
  · by_cases e : k = i
    · subst e
      simp [Oc.rel, Tr.d, List.getD_eq_getElem?_getD, hk]
    · simp [Oc.rel, Tr.d, List.getD_eq_getElem?_getD, Ne.symm e]
  · simp [Oc.rel, Tr.d, List.getD_eq_getElem?_getD, show xs.length ≤ k by omega]
theorem Oc.rel_l (hi : i < xs.length) : Tr.l (Oc.rel xs i a) k = if k = i then a else Tr.l xs k := by
  by_cases e : k = i
  · subst e
    simp [Oc.rel, Tr.l, List.getD_eq_getElem?_getD, hi]
  · rw [if_neg e]
    simp [Oc.rel, Tr.l, List.getD_eq_getElem?_getD, Ne.symm e]
end
/-! the places between kids -/
/-- where the q-th kid of i begins, or where i ends -/
def Tr.cut (xs : Tr) (i q : Nat) : Nat := (Tr.kidsTo xs i (Tr.endN xs i) ++ [Tr.endN xs i]).getD q 0
section
variable {xs : Tr} (hok : Tr.ok xs = true) {i : Nat} (hi : i < xs.length)
include hok hi
theorem Tr.cut_bound : ∀ q, q ≤ (Tr.kidsTo xs i (Tr.endN xs i)).length → Tr.bound xs i (Tr.cut xs i q) ∧ (Tr.kidsTo xs i (Tr.cut xs i q)).length = q ∧ (q < (Tr.kidsTo xs i (Tr.endN xs i)).length → Tr.cut xs i q < Tr.endN xs i ∧ (Tr.kidsTo xs i (Tr.endN xs i)).getD q 0 = Tr.cut xs i q) := by
  have key : ∀ q, q ≤ (Tr.kidsTo xs i (Tr.endN xs i)).length → ∃ b, Tr.bound xs i b ∧ (Tr.kidsTo xs i b).length = q := fun q => by
    induction q with
    | zero => exact fun _ => ⟨i + 1, Tr.bound_start hok hi, by rw [Tr.kidsTo_start]; rfl⟩
    | succ q ih =>
      intro h
      obtain ⟨b, hb, hq⟩ := ih (by omega)
      obtain ⟨_, _, _, _, _, h1, h2, _⟩ := Tr.kid_round hok hi hb hq (by omega)
      exact ⟨_, h1, h2⟩
  intro q hq
  obtain ⟨b, hb, hl⟩ := key q hq
  rcases Nat.lt_or_ge q (Tr.kidsTo xs i (Tr.endN xs i)).length with h | h
  · have hbe : b < Tr.endN xs i := by
      have := hb.2.1
      by_cases e : b = Tr.endN xs i
      · rw [e] at hl; omega
      · omega
    obtain ⟨r, hr⟩ := Tr.kid_next hok hi hb hbe
    have e1 : (Tr.kidsTo xs i (Tr.endN xs i)).getD q 0 = b := by
      rw [hr, ← hl]
      simp [List.getD_eq_getElem?_getD]
    have e : Tr.cut xs i q = b := by
      unfold Tr.cut
      rw [List.getD_eq_getElem?_getD, List.getElem?_append_left h, ← List.getD_eq_getElem?_getD, e1]
    rw [e]
    exact ⟨hb, hl, fun _ => ⟨hbe, e1⟩⟩
  · have e : Tr.cut xs i q = Tr.endN xs i := by
      unfold Tr.cut
      rw [List.getD_eq_getElem?_getD, List.getElem?_append_right h, show q - (Tr.kidsTo xs i (Tr.endN xs i)).length = 0 by omega]
      rfl
    have hbl := Tr.kid_last hok hi hb hl (by omega)
    rw [e]
    rw [hbl] at hb hl
    exact ⟨hb, hl, fun h' => by omega⟩
theorem Tr.cut_mono {q r : Nat} (hqr : q ≤ r) (hr : r ≤ (Tr.kidsTo xs i (Tr.endN xs i)).length) : Tr.cut xs i q ≤ Tr.cut xs i r := by
  obtain ⟨a1, a2, _⟩ := Tr.cut_bound hok hi q (by omega)
  obtain ⟨b1, b2, _⟩ := Tr.cut_bound hok hi r hr
  by_cases c : Tr.cut xs i q ≤ Tr.cut xs i r
  · exact c
  · exfalso
    obtain ⟨s, hs⟩ := Tr.kidsTo_more xs i (Tr.cut xs i r) (Tr.cut xs i q) (by omega)
    have hlen : (Tr.kidsTo xs i (Tr.cut xs i q)).length = (Tr.kidsTo xs i (Tr.cut xs i r)).length + s.length := by rw [hs, List.length_append]
    have hqr' : q = r := by omega
    rw [hqr'] at c
    exact c (Nat.le_refl _)
end
/-! valid trees stay valid -/
theorem Oc.ok_of {ys : Tr} (h1 : 1 ≤ ys.length) (h2 : ys.length ≤ 24) (h : ∀ k, k < ys.length → (0 ≤ Tr.l ys k ∧ Tr.l ys k ≤ 5) ∧ (0 ≤ Tr.d ys k ∧ Tr.d ys k ≤ 12) ∧ (Tr.d ys k = 0 ↔ k = 0) ∧ (k = 0 ∨ Tr.d ys k ≤ Tr.d ys (k - 1) + 1)) : Tr.ok ys = true :=
  Tr.ok_iff.2 ⟨fun j hj => by simpa [Tr.okAt] using h j hj, h1, h2⟩
section
variable {xs : Tr} (hok : Tr.ok xs = true) {i f t : Nat} {a : Int} (hi : i < xs.length)
include hok hi
theorem Oc.rel_ok (ha : 0 ≤ a ∧ a ≤ 5) : Tr.ok (Oc.rel xs i a) = true := by
  have n := Tr.len24 hok
  refine Oc.ok_of (by rw [Oc.rel_len]; omega) (by rw [Oc.rel_len]; omega) (fun k hk => ?_)
  rw [Oc.rel_len] at hk
  have o := Tr.ok_at hok hk
  rw [Oc.rel_d, Oc.rel_d, Oc.rel_l hi]
  refine ⟨?_, o.2⟩
  split
  · exact ha
  · exact o.1
theorem Oc.del_ok (h0 : 0 < i) : Tr.ok (Oc.del xs i) = true := by
  have n := Tr.len24 hok
  obtain ⟨e1, e2, e3, e4⟩ := Tr.endN_spec xs i hi
  refine Oc.ok_of (by rw [Oc.del_len hi]; omega) (by rw [Oc.del_len hi]; omega) (fun k hk => ?_)
  rw [Oc.del_len hi] at hk
  have oi := Tr.ok_at hok hi
  rw [Oc.del_l hi hk, Oc.del_d hi hk]
  by_cases c1 : k < i
  · have o := Tr.ok_at hok (show k < xs.length by omega)
    rw [if_pos c1, if_pos c1]
    refine ⟨o.1, o.2.1, o.2.2.1, ?_⟩
    rcases Nat.eq_zero_or_pos k with h | h
    · exact .inl h
    · rw [Oc.del_d hi (by omega), if_pos (by omega)]
      exact o.2.2.2
  · have o := Tr.ok_at hok (show k + 1 < xs.length by omega)
    rw [if_neg c1, if_neg c1]
    have o3 := o.2.2.2.resolve_left (by omega)
    rw [show k + 1 - 1 = k by omega] at o3
    have z1 : Tr.d xs (k + 1) ≠ 0 := fun e => by have := o.2.2.1.1 e; omega
    have zi : Tr.d xs i ≠ 0 := fun e => by have := oi.2.2.1.1 e; omega
    have pr : k = 0 ∨ Tr.d (Oc.del xs i) (k - 1) = if k - 1 < i then Tr.d xs (k - 1) else if k < Tr.endN xs i then Tr.d xs k - 1 else Tr.d xs k := by
      rcases Nat.eq_zero_or_pos k with h | h
      · exact .inl h
      · refine .inr ?_
        rw [Oc.del_d hi (by omega), show k - 1 + 1 = k by omega]
    by_cases c2 : k + 1 < Tr.endN xs i
    · have d1 := e3 (k + 1) (by omega) c2
      rw [if_pos c2]
      refine ⟨o.1, by omega, by omega, .inr ?_⟩
      rw [pr.resolve_left (by omega)]
      by_cases c3 : k = i
      · subst c3
        rw [if_pos (by omega)]
        have := oi.2.2.2.resolve_left (by omega)
        omega
      · rw [if_neg (by omega), if_pos (by omega)]
        omega
    · rw [if_neg c2]
      refine ⟨o.1, by omega, by omega, .inr ?_⟩
      rw [pr.resolve_left (by omega)]
      by_cases c3 : k = i
      · subst c3
        rw [if_pos (by omega)]
        have := oi.2.2.2.resolve_left (by omega)
        have hee : Tr.endN xs k = k + 1 := by omega
        rw [hee] at e4
        have := e4.resolve_left (by omega)
        omega
      · rw [if_neg (by omega)]
        by_cases c4 : k < Tr.endN xs i
        · rw [if_pos c4]
          have hee : Tr.endN xs i = k + 1 := by omega
          rw [hee] at e4
          have := e4.resolve_left (by omega)
          have := e3 k (by omega) (by omega)
          omega
        · rw [if_neg c4]
          exact o3
theorem Oc.ins_ok (ha : 0 ≤ a ∧ a ≤ 5) (hf : Tr.bound xs i f) (ht : Tr.bound xs i t) (hft : f ≤ t) (hn : xs.length ≠ 24) (hd : Tr.d xs i + 1 ≤ 12) (hdd : ∀ k, f ≤ k → k < t → Tr.d xs k + 1 ≤ 12) : Tr.ok (Oc.ins xs i a f t) = true := by
  have n := Tr.len24 hok
  obtain ⟨e1, e2, e3, e4⟩ := Tr.endN_spec xs i hi
  have f1 := hf.1
  have t2 := ht.2.1
  have tn : t ≤ xs.length := by omega
  have oi := Tr.ok_at hok hi
  have dni := Tr.dn_eq hok hi
  -- depths at the two places
  have df : f < Tr.endN xs i → Tr.d xs f = Tr.d xs i + 1 := fun h => by
    have := hf.2.2 h
    have := Tr.dn_eq hok (show f < xs.length by omega)
    omega
  have dt : t < xs.length → Tr.d xs t ≤ Tr.d xs i + 1 := fun h => by
    by_cases c : t < Tr.endN xs i
    · have := ht.2.2 c
      have := Tr.dn_eq hok h
      omega
    · have hee : Tr.endN xs i = t := by omega
      rw [hee] at e4
      have := e4.resolve_left (by omega)
      omega
  have ge : ∀ k, i ≤ k → k < Tr.endN xs i → Tr.d xs i ≤ Tr.d xs k := fun k h1 h2 => by
    rcases Nat.lt_or_ge i k with h | h
    · have := e3 k h h2; omega
    · obtain rfl : i = k := by omega
      exact Int.le_refl _
  refine Oc.ok_of (by rw [Oc.ins_len hft tn]; omega) (by rw [Oc.ins_len hft tn]; omega) (fun k hk => ?_)
  rw [Oc.ins_len hft tn] at hk
  rw [Oc.ins_l hft tn hk, Oc.ins_d hft tn hk]
  have pr : k = 0 ∨ Tr.d (Oc.ins xs i a f t) (k - 1) = if k - 1 < f then Tr.d xs (k - 1) else if k - 1 = f then Tr.d xs i + 1 else if k - 1 ≤ t then Tr.d xs (k - 1 - 1) + 1 else Tr.d xs (k - 1 - 1) := by
    rcases Nat.eq_zero_or_pos k with h | h
    · exact .inl h
    · exact .inr (by rw [Oc.ins_d hft tn (by omega)])
  by_cases c1 : k < f
  · have o := Tr.ok_at hok (show k < xs.length by omega)
    rw [if_pos c1, if_pos c1]
    refine ⟨o.1, o.2.1, o.2.2.1, ?_⟩
    rcases pr with h | h
    · exact .inl h
    · rw [h, if_pos (by omega)]; exact o.2.2.2
  · rw [if_neg c1, if_neg c1]
    have p1 := pr.resolve_left (by omega)
    by_cases c2 : k = f
    · subst c2
      rw [if_pos rfl, if_pos rfl]
      refine ⟨ha, by omega, by omega, .inr ?_⟩
      rw [p1, if_pos (by omega)]
      have := ge (k - 1) (by omega) (by have := hf.2.1; omega)
      omega
    · have o := Tr.ok_at hok (show k - 1 < xs.length by omega)
      rw [if_neg c2, if_neg c2]
      have z1 : Tr.d xs (k - 1) ≠ 0 := fun e => by have := o.2.2.1.1 e; omega
      by_cases c3 : k ≤ t
      · rw [if_pos c3]
        have := hdd (k - 1) (by omega) (by omega)
        refine ⟨o.1, by omega, by omega, .inr ?_⟩
        rw [p1, if_neg (by omega)]
        by_cases c4 : k - 1 = f
        · rw [if_pos c4, c4]
          have := df (by omega)
          omega
        · rw [if_neg c4, if_pos (by omega)]
          have := o.2.2.2.resolve_left (by omega)
          omega
      · rw [if_neg c3]
        refine ⟨o.1, o.2.1, by omega, .inr ?_⟩
        rw [p1, if_neg (by omega)]
        by_cases c4 : k - 1 = f
        · have hft' : f = t := by omega
          rw [if_pos c4]
          have hk1 : k - 1 = t := by omega
          rw [hk1]
          have := dt (by omega)
          omega
        · rw [if_neg c4]
          by_cases c5 : k - 1 ≤ t
          · rw [if_pos c5]
            have hk1 : k - 1 = t := by omega
            have := dt (by omega)
            have := ge (t - 1) (by omega) (by omega)
            rw [hk1]
            omega
          · rw [if_neg c5]
            exact o.2.2.2.resolve_left (by omega)
end

end Go.Proofs.Ytgkkeejhfofcaaa

/- Contracts (Com). -/
namespace Go.Proofs.Ytgkkeejhfofcaaa
open Go.RowKit
set_option linter.unusedVariables false

/-- where b leads, by the first k pairs -/
def Cp.out (ns : Tr) (b : Int) : Nat → List Int
  | 0 => []
  | k + 1 => if b = Tr.l ns k then Cp.out ns b k ++ [Tr.d ns k] else Cp.out ns b k
/-- the pairs of a by way of b -/
def Cp.row (a : Int) (zs : List Int) : Tr := zs.map fun z => (a, z)
def Cp.to (ms ns : Tr) : Nat → Tr
  | 0 => []
  | i + 1 => Cp.to ms ns i ++ Cp.row (Tr.l ms i) (Cp.out ns (Tr.d ms i) ns.length)
def Cp.all (ms ns : Tr) : Tr := Cp.to ms ns ms.length
theorem Cp.row_len (a : Int) (zs : List Int) : (Cp.row a zs).length = zs.length := by simp [Cp.row]
theorem Cp.out_yes {ns : Tr} {b : Int} {k : Nat} (h : b = Tr.l ns k) : Cp.out ns b (k + 1) = Cp.out ns b k ++ [Tr.d ns k] := by rw [Cp.out, if_pos h]
theorem Cp.out_no {ns : Tr} {b : Int} {k : Nat} (h : ¬ b = Tr.l ns k) : Cp.out ns b (k + 1) = Cp.out ns b k := by rw [Cp.out, if_neg h]
end Go.Proofs.Ytgkkeejhfofcaaa

/- Contracts (Bm). -/
namespace Go.Proofs.Ytgkkeejhfofcaaa
open Go.RowKit
set_option linter.unusedVariables false

/-- the node at a place -/
def Tr.nd (xs : Tr) (u : Nat) : Nat := (Tr.post xs).getD u 0
section
variable {cmb : Tr → Nat → Nat → Tr → Tr} {xs ys : Tr} {k : Co} {i j p q : Nat}
end
section
variable {xs : Tr} (hok : Tr.ok xs = true)
include hok
theorem Tr.nd_at {u : Nat} (hu : u < xs.length) : Tr.nd xs u < xs.length ∧ Tr.rk xs (Tr.nd xs u) = u ∧ Tr.la xs u = Tr.nd xs u - Tr.dn xs (Tr.nd xs u) ∧ Tr.xa xs u = Tr.l xs (Tr.nd xs u) := by
  obtain ⟨i, h1, h2, h3, h4, h5⟩ := Tr.la_at hok hu
  have : Tr.nd xs u = i := by unfold Tr.nd; rw [List.getD_eq_getElem?_getD, h5]; rfl
  rw [this]
  exact ⟨h1, h2, h3, h4⟩
theorem Tr.nd_rk {i : Nat} (hi : i < xs.length) : Tr.nd xs (Tr.rk xs i) = i := by
  unfold Tr.nd; rw [List.getD_eq_getElem?_getD, Tr.post_rk hok hi]; rfl
/-- ahead of v's first leaf: ahead of v -/
theorem Tr.nd_ahead {u v : Nat} (hv : v < xs.length) (h : u < Tr.la xs v) : Tr.nd xs u < Tr.nd xs v := by
  have l1 := (Tr.la_nest hok v hv).1
  obtain ⟨a1, a2, a3, _⟩ := Tr.nd_at hok (u := u) (by omega)
  obtain ⟨b1, b2, b3, _⟩ := Tr.nd_at hok hv
  rcases Nat.lt_or_ge (Tr.nd xs u) (Tr.nd xs v) with c | c
  · exact c
  · have := Tr.rk_ge hok c a1
    omega
/-- from v's first leaf on: below v -/
theorem Tr.nd_below {u v : Nat} (hv : v < xs.length) (h : Tr.la xs v ≤ u) (huv : u < v) : Tr.nd xs v < Tr.nd xs u ∧ Tr.nd xs u < Tr.endN xs (Tr.nd xs v) := by
  obtain ⟨a1, a2, a3, _⟩ := Tr.nd_at hok (u := u) (by omega)
  obtain ⟨b1, b2, b3, _⟩ := Tr.nd_at hok hv
  have d1 := Tr.dn_le hok a1
  have hlt : Tr.nd xs v < Tr.nd xs u := by
    rcases Nat.lt_trichotomy (Tr.nd xs u) (Tr.nd xs v) with c | c | c
    · by_cases hu : Tr.nd xs v < Tr.endN xs (Tr.nd xs u)
      · have := Tr.rk_under hok a1 c hu; omega
      · have g := Tr.gap_mono hok (i := Tr.endN xs (Tr.nd xs u)) (j := Tr.nd xs v) (by omega) b1
        have e := Tr.endN_dn hok a1
        have r : Tr.rk xs (Tr.nd xs u) = Tr.endN xs (Tr.nd xs u) - 1 - Tr.dn xs (Tr.nd xs u) := rfl
        rcases e.2.2.2 with f | ⟨f1, f2⟩
        · omega
        · omega
    · rw [c] at a2; omega
    · exact c
  refine ⟨hlt, ?_⟩
  rcases Nat.lt_or_ge (Tr.nd xs u) (Tr.endN xs (Tr.nd xs v)) with c | c
  · exact c
  · have := Tr.rk_left hok b1 c a1; omega
theorem Tr.nd_not {u v : Nat} (huv : u ≤ v) (hv : v < xs.length) : Tr.under xs (Tr.nd xs u : Int) (Tr.nd xs v : Int) = false := by
  obtain ⟨a1, a2, a3, _⟩ := Tr.nd_at hok (u := u) (by omega)
  obtain ⟨b1, b2, b3, _⟩ := Tr.nd_at hok hv
  cases e : Tr.under xs (Tr.nd xs u : Int) (Tr.nd xs v : Int) with
  | false => rfl
  | true =>
    simp only [Tr.under, Bool.and_eq_true, decide_eq_true_eq] at e
    obtain ⟨⟨⟨e1, e2⟩, e3⟩, e4⟩ := e
    rw [Tr.endOf_yes e1] at e4
    have := Tr.rk_under hok a1 (by omega) (show Tr.nd xs v < Tr.endN xs (Tr.nd xs u) by omega)
    omega
theorem Tr.has_nd {u : Nat} (hu : u < xs.length) : Tr.has xs (Tr.nd xs u : Int) = true := by
  have := (Tr.nd_at hok hu).1
  rw [Tr.has_iff]
  exact ⟨hok, by omega, by omega⟩
theorem Tr.nd_yes {u v : Nat} (hv : v < xs.length) (h : Tr.la xs v ≤ u) (huv : u < v) : Tr.under xs (Tr.nd xs v : Int) (Tr.nd xs u : Int) = true := by
  obtain ⟨c1, c2⟩ := Tr.nd_below hok hv h huv
  unfold Tr.under
  rw [Tr.has_nd hok hv, Tr.has_nd hok (show u < xs.length by omega), Tr.endOf_yes (Tr.has_nd hok hv), decide_eq_true (by omega), decide_eq_true (by omega)]
  rfl
end

end Go.Proofs.Ytgkkeejhfofcaaa

/- Contracts (Dtb). -/
namespace Go.Proofs.Ytgkkeejhfofcaaa
open Go.RowKit
set_option linter.unusedVariables false

/-! The program's table of distances: one block of 635 cells, the trees' row, the rows that it reads. -/
/-- a row of ints that no store of the table reaches -/
structure RowOff (w : World) (g gt : Nat) (ad : Addr) (n : Nat) (zs : List Int) : Prop where
  len : zs.length = n
  lt : ad.block < w.heap.size
  ng : ad.block ≠ g
  nt : ad.block ≠ gt
  at_ : ∀ k, k < n → w.cell? (ad.add k) = some (.int .i64 (Zs.at zs k))
/-- where the table's parts lie -/
structure DtD where
  g : Nat
  gt : Nat
  a0 : Addr
  a1 : Addr
  a2 : Addr
  b0 : Addr
  b1 : Addr
  b2 : Addr
  k0 : Addr
  k1 : Addr
  k2 : Addr
  ca0 : Nat
  ca1 : Nat
  ca2 : Nat
  cb0 : Nat
  cb1 : Nat
  cb2 : Nat
  ck0 : Nat
  ck1 : Nat
  ck2 : Nat
structure DT (B : Nat) (D : DtD) (xs ys : Tr) (k : Co) (F : Nat → Nat → Int) (T : List Int) (w : World) : Prop where
  gB : B ≤ D.g
  gl : D.g < w.heap.size
  gg : D.gt ≠ D.g
  fz : ∀ off, w.frozen? ⟨D.g, off, none⟩ = false
  h0 : w.cell? ⟨D.g, 0, none⟩ = some (.slice (some D.a0) xs.length D.ca0)
  h1 : w.cell? ⟨D.g, 1, none⟩ = some (.slice (some D.a1) xs.length D.ca1)
  h2 : w.cell? ⟨D.g, 2, none⟩ = some (.slice (some D.a2) (Tr.krs xs).length D.ca2)
  h3 : w.cell? ⟨D.g, 3, none⟩ = some (.slice (some D.b0) ys.length D.cb0)
  h4 : w.cell? ⟨D.g, 4, none⟩ = some (.slice (some D.b1) ys.length D.cb1)
  h5 : w.cell? ⟨D.g, 5, none⟩ = some (.slice (some D.b2) (Tr.krs ys).length D.cb2)
  h6 : w.cell? ⟨D.g, 6, none⟩ = some (.slice (some D.k0) 6 D.ck0)
  h7 : w.cell? ⟨D.g, 7, none⟩ = some (.slice (some D.k1) 6 D.ck1)
  h8 : w.cell? ⟨D.g, 8, none⟩ = some (.slice (some D.k2) 36 D.ck2)
  h9 : w.cell? ⟨D.g, 9, none⟩ = some (.slice (some ⟨D.gt, 0, none⟩) (xs.length * ys.length) (xs.length * ys.length))
  fr : ∀ x y, x < 25 → y < 25 → w.cell? ⟨D.g, 10 + x * 25 + y, none⟩ = some (.int .i64 (F x y))
  row : w.ownsRow B 3 1 (.slice (some ⟨D.gt, 0, none⟩) (xs.length * ys.length) (xs.length * ys.length)) (xs.length * ys.length) (ints T)
  ra0 : RowOff w D.g D.gt D.a0 xs.length (Tr.lab xs)
  ra1 : RowOff w D.g D.gt D.a1 xs.length (Zs.up (Tr.lfs xs))
  ra2 : RowOff w D.g D.gt D.a2 (Tr.krs xs).length (Zs.up (Tr.krs xs))
  rb0 : RowOff w D.g D.gt D.b0 ys.length (Tr.lab ys)
  rb1 : RowOff w D.g D.gt D.b1 ys.length (Zs.up (Tr.lfs ys))
  rb2 : RowOff w D.g D.gt D.b2 (Tr.krs ys).length (Zs.up (Tr.krs ys))
  rk0 : RowOff w D.g D.gt D.k0 6 k.d
  rk1 : RowOff w D.g D.gt D.k1 6 k.i
  rk2 : RowOff w D.g D.gt D.k2 36 k.r
theorem RowOff.keep {w w' : World} {g gt n : Nat} {ad : Addr} {zs : List Int} (h : RowOff w g gt ad n zs) (hs : w.heap.size ≤ w'.heap.size) (hk : ∀ p : Addr, p.block < w.heap.size → p.block ≠ g → p.block ≠ gt → w'.cell? p = w.cell? p) : RowOff w' g gt ad n zs :=
  ⟨h.len, Nat.lt_of_lt_of_le h.lt hs, h.ng, h.nt, fun k hk' => by rw [hk _ (by rw [block_of_add]; exact h.lt) (by rw [block_of_add]; exact h.ng) (by rw [block_of_add]; exact h.nt)]; exact h.at_ k hk'⟩
section
variable {B : Nat} {D : DtD} {xs ys : Tr} {k : Co} {F : Nat → Nat → Int} {T : List Int} {w w' : World}
theorem DT.drawn (h : DT B D xs ys k F T w) (hd : Drawn w w') : DT B D xs ys k F T w' := by obtain ⟨m, rfl⟩ := hd; exact ⟨h.gB, h.gl, h.gg, h.fz, h.h0, h.h1, h.h2, h.h3, h.h4, h.h5, h.h6, h.h7, h.h8, h.h9, h.fr, h.row, ⟨h.ra0.1, h.ra0.2, h.ra0.3, h.ra0.4, h.ra0.5⟩, ⟨h.ra1.1, h.ra1.2, h.ra1.3, h.ra1.4, h.ra1.5⟩, ⟨h.ra2.1, h.ra2.2, h.ra2.3, h.ra2.4, h.ra2.5⟩, ⟨h.rb0.1, h.rb0.2, h.rb0.3, h.rb0.4, h.rb0.5⟩, ⟨h.rb1.1, h.rb1.2, h.rb1.3, h.rb1.4, h.rb1.5⟩, ⟨h.rb2.1, h.rb2.2, h.rb2.3, h.rb2.4, h.rb2.5⟩, ⟨h.rk0.1, h.rk0.2, h.rk0.3, h.rk0.4, h.rk0.5⟩, ⟨h.rk1.1, h.rk1.2, h.rk1.3, h.rk1.4, h.rk1.5⟩, ⟨h.rk2.1, h.rk2.2, h.rk2.3, h.rk2.4, h.rk2.5⟩⟩
end

end Go.Proofs.Ytgkkeejhfofcaaa
