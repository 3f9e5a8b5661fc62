/- Texts of one claim laid into one file, in build order: Opd, Ops, Opp. -/
import Derived.Test.YtgkkeejhfofcaaaHd15
import Derived.Test.YtgkkeejhfofcaaaHd22
import Derived.Test.YtgkkeejhfofcaaaHd23
/- Contracts (Opd). -/
namespace Go.Proofs.Ytgkkeejhfofcaaa
open Go.RowKit
set_option linter.unusedVariables false


/-! One operation costs at most one. -/
theorem Tr.in_iff {xs : Tr} {a b : Nat} (hab : a < b) (hb : b < xs.length) : b < Tr.endN xs a ↔ ∀ m, a < m → m ≤ b → Tr.d xs a < Tr.d xs m := by
  obtain ⟨h1, h2, h3, h4⟩ := Tr.endN_spec xs a (by omega)
  constructor
  · intro h m h5 h6
    exact h3 m h5 (by omega)
  · intro h
    rcases Nat.lt_or_ge b (Tr.endN xs a) with c | c
    · exact c
    · exfalso
      have := h4.resolve_left (by omega)
      have := h (Tr.endN xs a) h1 c
      omega
section
variable {xs : Tr} (hok : Tr.ok xs = true) {i : Nat} (hi : i < xs.length)
include hok hi
/-- where a node stood ahead of a deletion -/
def Oc.was (i k : Nat) : Nat := if k < i then k else k + 1
theorem Oc.del_under (h0 : 0 < i) {k k' : Nat} (hk : k < k') (hk' : k' < xs.length - 1) : Tr.under xs (Oc.was i k : Nat) (Oc.was i k' : Nat) = Tr.under (Oc.del xs i) (k : Nat) (k' : Nat) := by
  have hoy := Oc.del_ok hok hi h0
  have hly := Oc.del_len hi
  obtain ⟨e1, e2, e3, e4⟩ := Tr.endN_spec xs i hi
  have w1 : Oc.was i k < Oc.was i k' := by unfold Oc.was; split <;> split <;> omega
  have w2 : Oc.was i k' < xs.length := by unfold Oc.was; split <;> omega
  rw [Tr.under_nat hok (by omega) w2, Tr.under_nat hoy (by omega) (by omega)]
  have D := fun m (hm : m < xs.length - 1) => Oc.del_d hi hm
  have first : i + 1 < xs.length → Tr.d xs (i + 1) ≤ Tr.d xs i + 1 := fun h => by
    have := (Tr.ok_at hok h).2.2.2.resolve_left (by omega)
    simpa using this
  have ei : Tr.endN xs i < xs.length → Tr.d xs (Tr.endN xs i) ≤ Tr.d xs i := fun h => e4.resolve_left (by omega)
  have key : Oc.was i k' < Tr.endN xs (Oc.was i k) ↔ k' < Tr.endN (Oc.del xs i) k := by
    rw [Tr.in_iff w1 w2, Tr.in_iff hk (by omega)]
    by_cases c : k < i
    · have wk : Oc.was i k = k := by unfold Oc.was; rw [if_pos c]
      have dk : Tr.d (Oc.del xs i) k = Tr.d xs k := by rw [D k (by omega), if_pos c]
      rw [wk, dk]
      constructor
      · intro h m h1 h2
        rw [D m (by omega)]
        by_cases cm : m < i
        · rw [if_pos cm]
          exact h m h1 (by unfold Oc.was; split <;> omega)
        · rw [if_neg cm]
          have wk' : Oc.was i k' = k' + 1 := by unfold Oc.was; rw [if_neg (by omega)]
          have a1 := h (m + 1) (by omega) (by omega)
          have a2 := h i (by omega) (by omega)
          by_cases ce : m + 1 < Tr.endN xs i
          · rw [if_pos ce]
            have := e3 (m + 1) (by omega) ce
            omega
          · rw [if_neg ce]; exact a1
      · intro h m h1 h2
        rcases Nat.lt_trichotomy m i with cm | cm | cm
        · have := h m h1 (by unfold Oc.was at h2; split at h2 <;> omega)
          rwa [D m (by omega), if_pos cm] at this
        · subst cm
          have wk' : m ≤ k' := by unfold Oc.was at h2; split at h2 <;> omega
          have := h m h1 wk'
          rw [D m (by omega), if_neg (by omega)] at this
          by_cases ce : m + 1 < Tr.endN xs m
          · rw [if_pos ce] at this
            have := first (by omega)
            omega
          · rw [if_neg ce] at this
            have hee : Tr.endN xs m = m + 1 := by omega
            rw [hee] at ei
            have := ei (by omega)
            omega
        · have wk' : m ≤ k' + 1 := by unfold Oc.was at h2; split at h2 <;> omega
          have := h (m - 1) (by omega) (by omega)
          rw [D (m - 1) (by omega), if_neg (by omega), show m - 1 + 1 = m by omega] at this
          split at this <;> omega
    · have wk : Oc.was i k = k + 1 := by unfold Oc.was; rw [if_neg c]
      have wk' : Oc.was i k' = k' + 1 := by unfold Oc.was; rw [if_neg (by omega)]
      rw [wk, wk', D k (by omega), if_neg c]
      by_cases ck : k + 1 < Tr.endN xs i
      · have b1 := e3 (k + 1) (by omega) ck
        rw [if_pos ck]
        constructor
        · intro h m h1 h2
          rw [D m (by omega), if_neg (by omega)]
          have a1 := h (m + 1) (by omega) (by omega)
          by_cases ce : m + 1 < Tr.endN xs i
          · rw [if_pos ce]; omega
          · exfalso
            have a2 := h (Tr.endN xs i) ck (by omega)
            have := ei (by omega)
            omega
        · intro h m h1 h2
          by_cases ce : m < Tr.endN xs i
          · have := h (m - 1) (by omega) (by omega)
            rw [D (m - 1) (by omega), if_neg (by omega), show m - 1 + 1 = m by omega, if_pos ce] at this
            omega
          · exfalso
            have := h (Tr.endN xs i - 1) (by omega) (by omega)
            rw [D _ (by omega), if_neg (by omega), show Tr.endN xs i - 1 + 1 = Tr.endN xs i by omega, if_neg (Nat.lt_irrefl _)] at this
            have := ei (by omega)
            omega
      · rw [if_neg ck]
        constructor
        · intro h m h1 h2
          rw [D m (by omega), if_neg (by omega), if_neg (by omega)]
          exact h (m + 1) (by omega) (by omega)
        · intro h m h1 h2
          have := h (m - 1) (by omega) (by omega)
          rwa [D (m - 1) (by omega), if_neg (by omega), show m - 1 + 1 = m by omega, if_neg (by omega)] at this
  rw [Bool.eq_iff_iff, decide_eq_true_eq, decide_eq_true_eq]
  exact ⟨fun h => ⟨hk, key.1 h.2⟩, fun h => ⟨w1, key.2 h.2⟩⟩
end
/-- a mapping of m pairs, told by two rising functions -/
def Mp.row (m : Nat) (u v : Nat → Nat) : Tr := (List.range m).map fun k => ((u k : Int), (v k : Int))
section
variable {xs ys : Tr} {m : Nat} {u v : Nat → Nat}
theorem Mp.row_len : (Mp.row m u v).length = m := by simp [Mp.row]
theorem Mp.row_l {k : Nat} (hk : k < m) : Tr.l (Mp.row m u v) k = (u k : Int) := by simp [Mp.row, Tr.l, List.getD_eq_getElem?_getD, hk]
theorem Mp.row_d {k : Nat} (hk : k < m) : Tr.d (Mp.row m u v) k = (v k : Int) := by simp [Mp.row, Tr.d, List.getD_eq_getElem?_getD, hk]
theorem Mp.row_ok (hx : Tr.ok xs = true) (hy : Tr.ok ys = true) (hu : ∀ k, k < m → u k < xs.length) (hv : ∀ k, k < m → v k < ys.length)
    (mo : ∀ k k', k < k' → k' < m → u k < u k' ∧ v k < v k' ∧ Tr.under xs (u k : Nat) (u k' : Nat) = Tr.under ys (v k : Nat) (v k' : Nat)) : Mp.ok xs ys (Mp.row m u v) = true := by
  refine Mp.ok_iff.2 ⟨hx, hy, fun e he => ?_, ?_⟩
  · obtain ⟨k, hk, rfl⟩ := List.mem_map.1 he
    rw [List.mem_range] at hk
    exact ⟨Tr.has_nat hx (hu k hk), Tr.has_nat hy (hv k hk)⟩
  · rw [List.pairwise_iff_getElem]
    intro p q hp hq hpq
    rw [Mp.row_len] at hp hq
    simp only [Mp.row, List.getElem_map, List.getElem_range]
    obtain ⟨a, b, c⟩ := mo p q hpq hq
    exact ⟨by show (u p : Int) < (u q : Int); omega, by show (v p : Int) < (v q : Int); omega, c⟩
theorem Mp.sum_one {f : Nat → Int} : ∀ n, (∀ k, k < n → f k = 1) → Mp.sum f n = n
  | 0, _ => rfl
  | n + 1, h => by
    unfold Mp.sum
    rw [Mp.sum_one n (fun k hk => h k (by omega)), h n (by omega)]
    omega
theorem Tr.lab_nat {k : Nat} (hx : Tr.ok xs = true) (hk : k < xs.length) : ∃ a : Nat, a < 6 ∧ Tr.l xs k = (a : Int) := by
  have := (Tr.ok_at hx hk).1
  exact ⟨(Tr.l xs k).toNat, by omega, by omega⟩
/-- what such a mapping costs: a node more on either side, less what belongs together, more where labels differ -/
theorem Mp.row_cost (hx : Tr.ok xs = true) (hy : Tr.ok ys = true) (h : Mp.ok xs ys (Mp.row m u v) = true) (hu : ∀ k, k < m → u k < xs.length) (hv : ∀ k, k < m → v k < ys.length) :
    Mp.cost xs ys Co.unit (Mp.row m u v) = (xs.length : Int) + ys.length - 2 * m + Mp.sum (fun k => if Tr.l xs (u k) = Tr.l ys (v k) then 0 else 1) m := by
  have step : ∀ q, q ≤ m → Mp.part xs ys Co.unit (Mp.row m u v) q = (xs.length : Int) + ys.length - 2 * q + Mp.sum (fun k => if Tr.l xs (u k) = Tr.l ys (v k) then 0 else 1) q := fun q => by
    induction q with
    | zero =>
      intro _
      rw [Mp.part_zero, Mp.sum_one _ (fun k hk => ?_), Mp.sum_one _ (fun k hk => ?_)]
      · simp [Mp.sum]
      · obtain ⟨a, ha, e⟩ := Tr.lab_nat hy hk
        rw [e]; exact (Co.unit_dels a ha).2
      · obtain ⟨a, ha, e⟩ := Tr.lab_nat hx hk
        rw [e]; exact (Co.unit_dels a ha).1
    | succ q ih =>
      intro hq
      have hql : q < (Mp.row m u v).length := by rw [Mp.row_len]; omega
      rw [Mp.part_succ hql ((Mp.ok_all h).2.2 q hql) (Mp.row_l (by omega)) (Mp.row_d (by omega)), ih (by omega)]
      obtain ⟨a, ha, ea⟩ := Tr.lab_nat hx (hu q (by omega))
      obtain ⟨b, hb, eb⟩ := Tr.lab_nat hy (hv q (by omega))
      rw [ea, eb, (Co.unit_dels a ha).1, (Co.unit_dels b hb).2, Co.unit_rels a ha b hb]
      have es : Mp.sum (fun k => if Tr.l xs (u k) = Tr.l ys (v k) then (0 : Int) else 1) (q + 1) = Mp.sum (fun k => if Tr.l xs (u k) = Tr.l ys (v k) then 0 else 1) q + if (a : Int) = b then 0 else 1 := by
        rw [Mp.sum, ea, eb]
      rw [es]
      by_cases e : a = b
      · rw [if_pos e, if_pos (by omega)]; omega
      · rw [if_neg e, if_neg (by omega)]; omega
  have := step m (Nat.le_refl _)
  unfold Mp.cost
  rw [h, Co.unit_ok, Bool.and_self, if_pos rfl, Mp.row_len]
  exact this
theorem Mp.row_rooted (hm : 1 ≤ m) (h1 : u 0 = 0) (h2 : v 0 = 0) : Tr.rooted (Mp.row m u v) = true := by
  have a := Mp.row_l (m := m) (u := u) (v := v) (k := 0) (by omega)
  have b := Mp.row_d (m := m) (u := u) (v := v) (k := 0) (by omega)
  have l := Mp.row_len (m := m) (u := u) (v := v)
  unfold Tr.rooted
  rw [a, b, h1, h2, l]
  simp
  omega
end
section
variable {xs : Tr} (hok : Tr.ok xs = true) {i : Nat} (hi : i < xs.length) {a : Int}
include hok hi
end

end Go.Proofs.Ytgkkeejhfofcaaa

/- Contracts (Ops). -/
namespace Go.Proofs.Ytgkkeejhfofcaaa
open Go.RowKit
set_option linter.unusedVariables false


/-! A node that was put in, taken out again; paths. -/
theorem Oc.at_end {xs : Tr} (hok : Tr.ok xs = true) {i t : Nat} (hi : i < xs.length) (ht : Tr.bound xs i t) : t < xs.length → Tr.d xs t ≤ Tr.d xs i + 1 := fun h => by
  obtain ⟨e1, e2, e3, e4⟩ := Tr.endN_spec xs i hi
  have t2 := ht.2.1
  by_cases c : t < Tr.endN xs i
  · have := ht.2.2 c
    have := Tr.dn_eq hok h
    have := Tr.dn_eq hok hi
    omega
  · have hee : Tr.endN xs i = t := by omega
    rw [hee] at e4
    have := e4.resolve_left (by omega)
    omega
section
variable {xs : Tr} (hok : Tr.ok xs = true) {i f t : Nat} {a : Int} (hi : i < xs.length) (hf : Tr.bound xs i f) (ht : Tr.bound xs i t) (hft : f ≤ t)
include hok hi hf ht hft
theorem Oc.ins_end : Tr.endN (Oc.ins xs i a f t) f = t + 1 := by
  obtain ⟨e1, e2, e3, e4⟩ := Tr.endN_spec xs i hi
  have f1 := hf.1
  have t2 := ht.2.1
  have tn : t ≤ xs.length := by omega
  have hl := Oc.ins_len (xs := xs) (i := i) (a := a) hft tn
  have df : Tr.d (Oc.ins xs i a f t) f = Tr.d xs i + 1 := by rw [Oc.ins_d hft tn (by omega), if_neg (Nat.lt_irrefl _), if_pos rfl]
  refine Tr.endN_is (by omega) (by omega) (fun j h1 h2 => ?_) ?_
  · rw [df, Oc.ins_d hft tn (by omega), if_neg (by omega), if_neg (by omega), if_pos (by omega)]
    have := e3 (j - 1) (by omega) (by omega)
    omega
  · rcases Nat.lt_or_ge t xs.length with h | h
    · refine .inr ?_
      rw [df, Oc.ins_d hft tn (by omega), if_neg (by omega), if_neg (by omega), if_neg (by omega), show t + 1 - 1 = t by omega]
      exact Oc.at_end hok hi ht h
    · exact .inl (by omega)
end
/-! paths -/
def Tr.walk (xs : Tr) : Nat → List Int → Int
  | i, [] => i
  | i, x :: p => if 0 ≤ x ∧ x < (Tr.kidsTo xs i (Tr.endN xs i)).length then Tr.walk xs ((Tr.kidsTo xs i (Tr.endN xs i)).getD x.toNat 0) p else -1
def Tr.nodeAt (xs : Tr) (p : List Int) : Int := if Tr.ok xs then Tr.walk xs 0 p else -1
section
variable {xs ys : Tr} (hok : Tr.ok xs = true)
include hok
theorem Tr.walk_range : ∀ (p : List Int) (i : Nat), i < xs.length → Tr.walk xs i p = -1 ∨ ∃ r : Nat, Tr.walk xs i p = r ∧ i ≤ r ∧ r < xs.length
  | [], i, hi => .inr ⟨i, rfl, Nat.le_refl _, hi⟩
  | x :: p, i, hi => by
    unfold Tr.walk
    by_cases c : 0 ≤ x ∧ x < (Tr.kidsTo xs i (Tr.endN xs i)).length
    · rw [if_pos c]
      obtain ⟨h1, h2, h3⟩ := Tr.cut_bound hok hi x.toNat (by omega)
      obtain ⟨h4, h5⟩ := h3 (by omega)
      rw [h5]
      have e2 := (Tr.endN_spec xs i hi).2.1
      rcases Tr.walk_range p (Tr.cut xs i x.toNat) (by omega) with h | ⟨r, hr, h6, h7⟩
      · exact .inl h
      · exact .inr ⟨r, hr, by have := h1.1; omega, h7⟩
    · rw [if_neg c]; exact .inl rfl
/-- where two trees agree up to a node, the same path leads to it -/
theorem Tr.walk_agree {q : Nat} (hq : q ≤ xs.length) (hqy : q ≤ ys.length) (hd : ∀ m, m < q → Tr.d xs m = Tr.d ys m) : ∀ (p : List Int) (i r : Nat), i < xs.length → Tr.walk xs i p = r → r < q → Tr.walk ys i p = r
  | [], i, r, hi, h, hr => h
  | x :: p, i, r, hi, h, hr => by
    unfold Tr.walk at h ⊢
    by_cases c : 0 ≤ x ∧ x < (Tr.kidsTo xs i (Tr.endN xs i)).length
    · rw [if_pos c] at h
      obtain ⟨h1, h2, h3⟩ := Tr.cut_bound hok hi x.toNat (by omega)
      obtain ⟨h4, h5⟩ := h3 (by omega)
      rw [h5] at h
      have e2 := (Tr.endN_spec xs i hi).2.1
      have hb := h1.1
      rcases Tr.walk_range hok p (Tr.cut xs i x.toNat) (by omega) with e | ⟨r', hr', h6, h7⟩
      · rw [e] at h; omega
      · rw [hr'] at h
        obtain rfl : r' = r := by omega
        obtain ⟨b, hbe⟩ : ∃ b, b = Tr.cut xs i x.toNat := ⟨_, rfl⟩
        rw [← hbe] at h1 h2 h4 h5 hr' h6 hb
        -- b is a kid of i in both, after the same kids
        have hby : b < Tr.endN ys i := by
          refine (Tr.in_iff hb (by omega)).2 (fun m h8 h9 => ?_)
          rw [← hd i (by omega), ← hd m (by omega)]
          exact (Tr.endN_spec xs i hi).2.2.1 m h8 (by omega)
        have same : ∀ m, m ≤ b + 1 → Tr.kidsTo xs i m = Tr.kidsTo ys i m := fun m hm => by
          unfold Tr.kidsTo
          refine List.filter_congr (fun j hj => ?_)
          rw [List.mem_range] at hj
          rw [hd j (by omega), hd i (by omega)]
        obtain ⟨s, hs⟩ := Tr.kid_next hok hi h1 h4
        have k1 : Tr.kidsTo xs i (b + 1) = Tr.kidsTo xs i b ++ [b] := Tr.kids_in hok hi h1 h4 (Nat.lt_succ_self _) (by have := (Tr.endN_spec xs b (by omega)).1; omega)
        obtain ⟨s', hs'⟩ := Tr.kidsTo_more ys i (b + 1) (Tr.endN ys i) hby
        rw [← same _ (Nat.le_refl _), k1] at hs'
        have hlen : x.toNat < (Tr.kidsTo ys i (Tr.endN ys i)).length := by rw [hs', List.length_append, List.length_append, h2]; simp; omega
        have hget : (Tr.kidsTo ys i (Tr.endN ys i)).getD x.toNat 0 = b := by
          rw [hs', ← h2]
          simp [List.getD_eq_getElem?_getD]
        rw [if_pos (by omega), hget]
        exact Tr.walk_agree hq hqy hd p b r' (by omega) hr' hr
    · rw [if_neg c] at h; omega
theorem Tr.walk_snoc : ∀ (p : List Int) (i r : Nat) (x : Int), i < xs.length → Tr.walk xs i p = r → Tr.walk xs i (p ++ [x]) = Tr.walk xs r [x]
  | [], i, r, x, hi, h => by
    have h' : (i : Int) = (r : Int) := h
    have : i = r := by omega
    rw [this]; rfl
  | y :: p, i, r, x, hi, h => by
    rw [List.cons_append, Tr.walk]
    rw [Tr.walk] at h
    by_cases c : 0 ≤ y ∧ y < (Tr.kidsTo xs i (Tr.endN xs i)).length
    · rw [if_pos c] at h ⊢
      obtain ⟨h1, h2, h3⟩ := Tr.cut_bound hok hi y.toNat (by omega)
      obtain ⟨h4, h5⟩ := h3 (by omega)
      have e2 := (Tr.endN_spec xs i hi).2.1
      refine Tr.walk_snoc p _ r x (by rw [h5]; omega) h
    · rw [if_neg c] at h; omega
end
/-- how many nodes from f up to t stand at depth d -/
def Tr.cnt (xs : Tr) (d : Int) (f t : Nat) : Nat := ((List.range (t - f)).filter fun j => decide (Tr.d xs (f + j) = d)).length
theorem Tr.cnt_succ (xs : Tr) (d : Int) {f t : Nat} (h : f ≤ t) : Tr.cnt xs d f (t + 1) = Tr.cnt xs d f t + if Tr.d xs t = d then 1 else 0 := by
  unfold Tr.cnt
  rw [show t + 1 - f = (t - f) + 1 by omega, List.range_succ, List.filter_append, List.length_append, show (List.filter (fun j => decide (Tr.d xs (f + j) = d)) [t - f]).length = if Tr.d xs t = d then 1 else 0 by
    rw [List.filter_cons, show f + (t - f) = t by omega]
    split <;> simp_all]
theorem Tr.cnt_nil (xs : Tr) (d : Int) (f : Nat) : Tr.cnt xs d f f = 0 := by simp [Tr.cnt]
theorem Tr.kids_cnt (xs : Tr) (i : Nat) : ∀ k, i < k → (Tr.kidsTo xs i k).length = Tr.cnt xs (Tr.d xs i + 1) (i + 1) k
  | 0, h => absurd h (Nat.not_lt_zero _)
  | k + 1, h => by
    rcases Nat.lt_or_ge i k with c | c
    · rw [Tr.kidsTo_succ xs i k c, Tr.cnt_succ xs _ (by omega), ← Tr.kids_cnt xs i k c]
      split <;> simp
    · obtain rfl : i = k := by omega
      rw [Tr.kidsTo_start, Tr.cnt_nil]; rfl
theorem Tr.cnt_split (xs : Tr) (d : Int) {f t : Nat} (h : f ≤ t) : ∀ u, t ≤ u → Tr.cnt xs d f u = Tr.cnt xs d f t + Tr.cnt xs d t u
  | 0, h' => by
    obtain rfl : t = 0 := by omega
    rw [Tr.cnt_nil]; omega
  | u + 1, h' => by
    rcases Nat.lt_or_ge t (u + 1) with c | c
    · rw [Tr.cnt_succ xs d (by omega), Tr.cnt_succ xs d (by omega), Tr.cnt_split xs d h u (by omega)]
      omega
    · obtain rfl : t = u + 1 := by omega
      rw [Tr.cnt_nil]; omega
theorem Tr.cnt_congr {xs ys : Tr} {d d' : Int} {f t f' : Nat} : ∀ (h : ∀ k, k < t - f → (Tr.d xs (f + k) = d ↔ Tr.d ys (f' + k) = d')), Tr.cnt xs d f t = Tr.cnt ys d' f' (f' + (t - f)) := fun h => by
  unfold Tr.cnt
  rw [show f' + (t - f) - f' = t - f by omega]
  congr 1
  refine List.filter_congr (fun j hj => ?_)
  rw [List.mem_range] at hj
  simp only [h j hj]
section
variable {xs : Tr} (hok : Tr.ok xs = true) {i q c : Nat} {a : Int} (hi : i < xs.length) (hq : q + c ≤ (Tr.kidsTo xs i (Tr.endN xs i)).length) (hoy : Tr.ok (Oc.ins xs i a (Tr.cut xs i q) (Tr.cut xs i (q + c))) = true)
include hok hi hq hoy
/-- a node put in as kid q with c kids: where it is, what it has, what its parent has, what is left when it goes -/
theorem Oc.splice {p : List Int} (hp : Tr.nodeAt xs p = i) :
    Tr.nodeAt (Oc.ins xs i a (Tr.cut xs i q) (Tr.cut xs i (q + c))) p = i ∧
    Tr.nodeAt (Oc.ins xs i a (Tr.cut xs i q) (Tr.cut xs i (q + c))) (p ++ [(q : Int)]) = Tr.cut xs i q ∧
    Tr.cut xs i q < (Oc.ins xs i a (Tr.cut xs i q) (Tr.cut xs i (q + c))).length ∧ 0 < Tr.cut xs i q ∧
    Tr.l (Oc.ins xs i a (Tr.cut xs i q) (Tr.cut xs i (q + c))) (Tr.cut xs i q) = a ∧
    (Tr.kidsTo (Oc.ins xs i a (Tr.cut xs i q) (Tr.cut xs i (q + c))) (Tr.cut xs i q) (Tr.endN (Oc.ins xs i a (Tr.cut xs i q) (Tr.cut xs i (q + c))) (Tr.cut xs i q))).length = c ∧
    (Tr.kidsTo (Oc.ins xs i a (Tr.cut xs i q) (Tr.cut xs i (q + c))) i (Tr.endN (Oc.ins xs i a (Tr.cut xs i q) (Tr.cut xs i (q + c))) i)).length + c = (Tr.kidsTo xs i (Tr.endN xs i)).length + 1 := by
  obtain ⟨bf, lf, _⟩ := Tr.cut_bound hok hi q (by omega)
  obtain ⟨bt, lt, _⟩ := Tr.cut_bound hok hi (q + c) hq
  have hft := Tr.cut_mono hok hi (q := q) (r := q + c) (by omega) hq
  obtain ⟨f, hfe⟩ : ∃ f, f = Tr.cut xs i q := ⟨_, rfl⟩
  obtain ⟨t, hte⟩ : ∃ t, t = Tr.cut xs i (q + c) := ⟨_, rfl⟩
  rw [← hfe] at bf lf hft hoy ⊢
  rw [← hte] at bt lt hft hoy ⊢
  clear hfe hte
  obtain ⟨e1, e2, e3, e4⟩ := Tr.endN_spec xs i hi
  have f1 := bf.1
  have t2 := bt.2.1
  have tn : t ≤ xs.length := by omega
  obtain ⟨ys, hys⟩ : ∃ ys, ys = Oc.ins xs i a f t := ⟨_, rfl⟩
  have hl := Oc.ins_len (xs := xs) (i := i) (a := a) hft tn
  have D := fun k (hk : k < xs.length + 1) => Oc.ins_d (xs := xs) (i := i) (a := a) hft tn hk
  have L := fun k (hk : k < xs.length + 1) => Oc.ins_l (xs := xs) (i := i) (a := a) hft tn hk
  have hend := Oc.ins_end (a := a) hok hi bf bt hft
  rw [← hys] at hl D L hend hoy ⊢
  have df : Tr.d ys f = Tr.d xs i + 1 := by rw [D f (by omega), if_neg (Nat.lt_irrefl _), if_pos rfl]
  have di : Tr.d ys i = Tr.d xs i := by rw [D i (by omega), if_pos (by omega)]
  -- where i ends now
  have hie : Tr.endN ys i = Tr.endN xs i + 1 := by
    refine Tr.endN_is (by omega) (by omega) (fun j h1 h2 => ?_) ?_
    · rw [di, D j (by omega)]
      by_cases c1 : j < f
      · rw [if_pos c1]; exact e3 j h1 (by omega)
      · rw [if_neg c1]
        by_cases c2 : j = f
        · rw [if_pos c2]; omega
        · have := e3 (j - 1) (by omega) (by omega)
          rw [if_neg c2]
          split <;> omega
    · rcases Nat.lt_or_ge (Tr.endN xs i) xs.length with h | h
      · refine .inr ?_
        have := e4.resolve_left (by omega)
        rw [di, D _ (by omega), if_neg (by omega), if_neg (by omega), if_neg (by omega), show Tr.endN xs i + 1 - 1 = Tr.endN xs i by omega]
        exact this
      · exact .inl (by omega)
  have agree : ∀ m, m < f → Tr.d xs m = Tr.d ys m := fun m hm => by rw [D m (by omega), if_pos hm]
  have hw : Tr.walk xs 0 p = i := by unfold Tr.nodeAt at hp; rwa [if_pos hok] at hp
  have n1 := Tr.len24 hok
  have hwy : Tr.walk ys 0 p = i := Tr.walk_agree hok (q := f) (by omega) (by omega) agree p 0 i (by omega) hw f1
  have same : Tr.kidsTo ys i f = Tr.kidsTo xs i f := by
    unfold Tr.kidsTo
    refine List.filter_congr (fun j hj => ?_)
    rw [List.mem_range] at hj
    rw [agree j hj, agree i f1]
  have kf : Tr.kidsTo ys i (f + 1) = Tr.kidsTo xs i f ++ [f] := by
    rw [Tr.kidsTo_succ ys i f f1, if_pos (by rw [df, di]), same]
  obtain ⟨s, hs⟩ := Tr.kidsTo_more ys i (f + 1) (Tr.endN ys i) (by omega)
  rw [kf] at hs
  have hql : q < (Tr.kidsTo ys i (Tr.endN ys i)).length := by rw [hs, List.length_append, List.length_append, lf]; simp; omega
  have hget : (Tr.kidsTo ys i (Tr.endN ys i)).getD q 0 = f := by rw [hs, ← lf]; simp [List.getD_eq_getElem?_getD]
  have kcx : (Tr.kidsTo xs i (Tr.endN xs i)).length = Tr.cnt xs (Tr.d xs i + 1) (i + 1) (Tr.endN xs i) := Tr.kids_cnt xs i _ e1
  have kct : q + c = Tr.cnt xs (Tr.d xs i + 1) (i + 1) t := by rw [← lt]; exact Tr.kids_cnt xs i _ (by omega)
  have kcf : q = Tr.cnt xs (Tr.d xs i + 1) (i + 1) f := by rw [← lf]; exact Tr.kids_cnt xs i _ f1
  have s1 := Tr.cnt_split xs (Tr.d xs i + 1) (f := i + 1) (t := f) (by omega) t hft
  have s2 := Tr.cnt_split xs (Tr.d xs i + 1) (f := i + 1) (t := t) (by omega) (Tr.endN xs i) t2
  refine ⟨by unfold Tr.nodeAt; rw [if_pos hoy]; exact hwy, ?_, by omega, by omega, by rw [L f (by omega), if_neg (Nat.lt_irrefl _), if_pos rfl], ?_, ?_⟩
  · unfold Tr.nodeAt
    rw [if_pos hoy, Tr.walk_snoc hoy p 0 i q (by omega) hwy, Tr.walk, if_pos (by omega), show ((q : Int)).toNat = q by omega, hget]
    rfl
  · rw [hend, Tr.kids_cnt ys f _ (by omega), df]
    have e : Tr.cnt ys (Tr.d xs i + 1 + 1) (f + 1) (t + 1) = Tr.cnt xs (Tr.d xs i + 1) f (f + (t + 1 - (f + 1))) := Tr.cnt_congr (fun k hk => by
      rw [D _ (by omega), if_neg (by omega), if_neg (by omega), if_pos (by omega), show f + 1 + k - 1 = f + k by omega]
      omega)
    rw [e, show f + (t + 1 - (f + 1)) = t by omega]
    omega
  · rw [hie, Tr.kids_cnt ys i _ (by omega), di]
    have a1 : Tr.cnt ys (Tr.d xs i + 1) (i + 1) f = Tr.cnt xs (Tr.d xs i + 1) (i + 1) (i + 1 + (f - (i + 1))) := Tr.cnt_congr (fun k hk => by rw [agree (i + 1 + k) (by omega)])
    rw [show i + 1 + (f - (i + 1)) = f by omega] at a1
    have a2 : Tr.cnt ys (Tr.d xs i + 1) f (f + 1) = 1 := by rw [Tr.cnt_succ ys _ (Nat.le_refl _), Tr.cnt_nil, if_pos df]
    have a3 : Tr.cnt ys (Tr.d xs i + 1) (f + 1) (t + 1) = 0 := by
      have : ∀ u, f + 1 ≤ u → u ≤ t + 1 → Tr.cnt ys (Tr.d xs i + 1) (f + 1) u = 0 := fun u => by
        induction u with
        | zero => intro h; omega
        | succ u ih =>
          intro h1 h2
          rcases Nat.lt_or_ge f u with c1 | c1
          · rw [Tr.cnt_succ ys _ (by omega), ih (by omega) (by omega), if_neg]
            rw [D u (by omega), if_neg (by omega), if_neg (by omega), if_pos (by omega)]
            have := e3 (u - 1) (by omega) (by omega)
            omega
          · obtain rfl : f = u := by omega
            exact Tr.cnt_nil _ _ _
      exact this (t + 1) (by omega) (Nat.le_refl _)
    have a4 : Tr.cnt ys (Tr.d xs i + 1) (t + 1) (Tr.endN xs i + 1) = Tr.cnt xs (Tr.d xs i + 1) t (t + (Tr.endN xs i + 1 - (t + 1))) := Tr.cnt_congr (fun k hk => by
      rw [D _ (by omega), if_neg (by omega), if_neg (by omega), if_neg (by omega), show t + 1 + k - 1 = t + k by omega])
    rw [show t + (Tr.endN xs i + 1 - (t + 1)) = Tr.endN xs i by omega] at a4
    have b1 := Tr.cnt_split ys (Tr.d xs i + 1) (f := i + 1) (t := f) (by omega) (Tr.endN xs i + 1) (by omega)
    have b2 := Tr.cnt_split ys (Tr.d xs i + 1) (f := f) (t := f + 1) (by omega) (Tr.endN xs i + 1) (by omega)
    have b3 := Tr.cnt_split ys (Tr.d xs i + 1) (f := f + 1) (t := t + 1) (by omega) (Tr.endN xs i + 1) (by omega)
    omega
end

end Go.Proofs.Ytgkkeejhfofcaaa

/- Contracts (Opp). -/
namespace Go.Proofs.Ytgkkeejhfofcaaa
open Go.RowKit
set_option linter.unusedVariables false


/-! The path of a node. -/
def Tr.pathF (xs : Tr) : Nat → Int → List Int
  | 0, _ => []
  | f + 1, i => if Tr.kidRank xs i < 0 then [] else Tr.pathF xs f (Tr.parentOf xs i) ++ [Tr.kidRank xs i]
def Tr.path (xs : Tr) (i : Int) : List Int := Tr.pathF xs xs.length i
section
variable {xs : Tr} (hok : Tr.ok xs = true)
include hok
end

end Go.Proofs.Ytgkkeejhfofcaaa
