/- Texts of one claim laid into one file, in build order: Opd. -/
import Derived.Test.YtgkkeejhfofcaaaHf10
import Derived.Test.YtgkkeejhfofcaaaHf14
import Derived.Test.YtgkkeejhfofcaaaHf15
/- Contracts (Opd). -/
namespace Go.Proofs.Ytgkkeejhfofcaaa
open Go.RowKit
set_option linter.unusedVariables false


/-! One operation costs at most one. -/
theorem Tr.in_iff {xs : Tr} {a b : Nat} (hab : a < b) (hb : b < xs.length) : b < Tr.endN xs a ↔ ∀ m, a < m → m ≤ b → Tr.d xs a < Tr.d xs m := by
  obtain ⟨h1, h2, h3, h4⟩ := Tr.endN_spec xs a (by omega)
  constructor
  · intro h m h5 h6
    exact h3 m h5 (by omega)
  · intro h
    rcases Nat.lt_or_ge b (Tr.endN xs a) with c | c
    · exact c
    · exfalso
      have := h4.resolve_left (by omega)
      have := h (Tr.endN xs a) h1 c
      omega
section
variable {xs : Tr} (hok : Tr.ok xs = true) {i : Nat} (hi : i < xs.length)
include hok hi
/-- where a node stood ahead of a deletion -/
def Oc.was (i k : Nat) : Nat := if k < i then k else k + 1
theorem Oc.del_under (h0 : 0 < i) {k k' : Nat} (hk : k < k') (hk' : k' < xs.length - 1) : Tr.under xs (Oc.was i k : Nat) (Oc.was i k' : Nat) = Tr.under (Oc.del xs i) (k : Nat) (k' : Nat) := by
  have hoy := Oc.del_ok hok hi h0
  have hly := Oc.del_len hi
  obtain ⟨e1, e2, e3, e4⟩ := Tr.endN_spec xs i hi
  have w1 : Oc.was i k < Oc.was i k' := by unfold Oc.was; split <;> split <;> omega
  have w2 : Oc.was i k' < xs.length := by unfold Oc.was; split <;> omega
  rw [Tr.under_nat hok (by omega) w2, Tr.under_nat hoy (by omega) (by omega)]
  have D := fun m (hm : m < xs.length - 1) => Oc.del_d hi hm
  have first : i + 1 < xs.length → Tr.d xs (i + 1) ≤ Tr.d xs i + 1 := fun h => by
    have := (Tr.ok_at hok h).2.2.2.resolve_left (by omega)
    simpa using this
  have ei : Tr.endN xs i < xs.length → Tr.d xs (Tr.endN xs i) ≤ Tr.d xs i := fun h => e4.resolve_left (by omega)
  have key : Oc.was i k' < Tr.endN xs (Oc.was i k) ↔ k' < Tr.endN (Oc.del xs i) k := by
    rw [Tr.in_iff w1 w2, Tr.in_iff hk (by omega)]
    by_cases c : k < i
    · have wk : Oc.was i k = k := by unfold Oc.was; rw [if_pos c]
      have dk : Tr.d (Oc.del xs i) k = Tr.d xs k := by rw [D k (by omega), if_pos c]
      rw [wk, dk]
      constructor
      · intro h m h1 h2
        rw [D m (by omega)]
        by_cases cm : m < i
        · rw [if_pos cm]
          exact h m h1 (by unfold Oc.was; split <;> omega)
        · rw [if_neg cm]
          have wk' : Oc.was i k' = k' + 1 := by unfold Oc.was; rw [if_neg (by omega)]
          have a1 := h (m + 1) (by omega) (by omega)
          have a2 := h i (by omega) (by omega)
          by_cases ce : m + 1 < Tr.endN xs i
          · rw [if_pos ce]
            have := e3 (m + 1) (by omega) ce
            omega
          · rw [if_neg ce]; exact a1
      · intro h m h1 h2
        rcases Nat.lt_trichotomy m i with cm | cm | cm
        · have := h m h1 (by unfold Oc.was at h2; split at h2 <;> omega)
          rwa [D m (by omega), if_pos cm] at this
        · subst cm
          have wk' : m ≤ k' := by unfold Oc.was at h2; split at h2 <;> omega
          have := h m h1 wk'
          rw [D m (by omega), if_neg (by omega)] at this
          by_cases ce : m + 1 < Tr.endN xs m
          · rw [if_pos ce] at this
            have := first (by omega)
            omega
          · rw [if_neg ce] at this
            have hee : Tr.endN xs m = m + 1 := by omega
            rw [hee] at ei
            have := ei (by omega)
            omega
        · have wk' : m ≤ k' + 1 := by unfold Oc.was at h2; split at h2 <;> omega
          have := h (m - 1) (by omega) (by omega)
          rw [D (m - 1) (by omega), if_neg (by omega), show m - 1 + 1 = m by omega] at this
          split at this <;> omega
    · have wk : Oc.was i k = k + 1 := by unfold Oc.was; rw [if_neg c]
      have wk' : Oc.was i k' = k' + 1 := by unfold Oc.was; rw [if_neg (by omega)]
      rw [wk, wk', D k (by omega), if_neg c]
      by_cases ck : k + 1 < Tr.endN xs i
      · have b1 := e3 (k + 1) (by omega) ck
        rw [if_pos ck]
        constructor
        · intro h m h1 h2
          rw [D m (by omega), if_neg (by omega)]
          have a1 := h (m + 1) (by omega) (by omega)
          by_cases ce : m + 1 < Tr.endN xs i
          · rw [if_pos ce]; omega
          · exfalso
            have a2 := h (Tr.endN xs i) ck (by omega)
            have := ei (by omega)
            omega
        · intro h m h1 h2
          by_cases ce : m < Tr.endN xs i
          · have := h (m - 1) (by omega) (by omega)
            rw [D (m - 1) (by omega), if_neg (by omega), show m - 1 + 1 = m by omega, if_pos ce] at this
            omega
          · exfalso
            have := h (Tr.endN xs i - 1) (by omega) (by omega)
            rw [D _ (by omega), if_neg (by omega), show Tr.endN xs i - 1 + 1 = Tr.endN xs i by omega, if_neg (Nat.lt_irrefl _)] at this
            have := ei (by omega)
            omega
      · rw [if_neg ck]
        constructor
        · intro h m h1 h2
          rw [D m (by omega), if_neg (by omega), if_neg (by omega)]
          exact h (m + 1) (by omega) (by omega)
        · intro h m h1 h2
          have := h (m - 1) (by omega) (by omega)
          rwa [D (m - 1) (by omega), if_neg (by omega), show m - 1 + 1 = m by omega, if_neg (by omega)] at this
  rw [Bool.eq_iff_iff, decide_eq_true_eq, decide_eq_true_eq]
  exact ⟨fun h => ⟨hk, key.1 h.2⟩, fun h => ⟨w1, key.2 h.2⟩⟩
end
/-- a mapping of m pairs, told by two rising functions -/
def Mp.row (m : Nat) (u v : Nat → Nat) : Tr := (List.range m).map fun k => ((u k : Int), (v k : Int))
section
variable {xs ys : Tr} {m : Nat} {u v : Nat → Nat}
theorem Mp.row_len : (Mp.row m u v).length = m := by simp [Mp.row]
theorem Mp.row_l {k : Nat} (hk : k < m) : Tr.l (Mp.row m u v) k = (u k : Int) := by simp [Mp.row, Tr.l, List.getD_eq_getElem?_getD, hk]
theorem Mp.row_d {k : Nat} (hk : k < m) : Tr.d (Mp.row m u v) k = (v k : Int) := by simp [Mp.row, Tr.d, List.getD_eq_getElem?_getD, hk]
theorem Mp.row_ok (hx : Tr.ok xs = true) (hy : Tr.ok ys = true) (hu : ∀ k, k < m → u k < xs.length) (hv : ∀ k, k < m → v k < ys.length)
    (mo : ∀ k k', k < k' → k' < m → u k < u k' ∧ v k < v k' ∧ Tr.under xs (u k : Nat) (u k' : Nat) = Tr.under ys (v k : Nat) (v k' : Nat)) : Mp.ok xs ys (Mp.row m u v) = true := by
  refine Mp.ok_iff.2 ⟨hx, hy, fun e he => ?_, ?_⟩
  · obtain ⟨k, hk, rfl⟩ := List.mem_map.1 he
    rw [List.mem_range] at hk
    exact ⟨Tr.has_nat hx (hu k hk), Tr.has_nat hy (hv k hk)⟩
  · rw [List.pairwise_iff_getElem]
    intro p q hp hq hpq
    rw [Mp.row_len] at hp hq
    simp only [Mp.row, List.getElem_map, List.getElem_range]
    obtain ⟨a, b, c⟩ := mo p q hpq hq
    exact ⟨by show (u p : Int) < (u q : Int); omega, by show (v p : Int) < (v q : Int); omega, c⟩
theorem Mp.sum_one {f : Nat → Int} : ∀ n, (∀ k, k < n → f k = 1) → Mp.sum f n = n
  | 0, _ => rfl
  | n + 1, h => by
    unfold Mp.sum
    rw [Mp.sum_one n (fun k hk => h k (by omega)), h n (by omega)]
    omega
theorem Tr.lab_nat {k : Nat} (hx : Tr.ok xs = true) (hk : k < xs.length) : ∃ a : Nat, a < 6 ∧ Tr.l xs k = (a : Int) := by
  have := (Tr.ok_at hx hk).1
  exact ⟨(Tr.l xs k).toNat, by omega, by omega⟩
/-- what such a mapping costs: a node more on either side, less what belongs together, more where labels differ -/
theorem Mp.row_cost (hx : Tr.ok xs = true) (hy : Tr.ok ys = true) (h : Mp.ok xs ys (Mp.row m u v) = true) (hu : ∀ k, k < m → u k < xs.length) (hv : ∀ k, k < m → v k < ys.length) :
    Mp.cost xs ys Co.unit (Mp.row m u v) = (xs.length : Int) + ys.length - 2 * m + Mp.sum (fun k => if Tr.l xs (u k) = Tr.l ys (v k) then 0 else 1) m := by
  have step : ∀ q, q ≤ m → Mp.part xs ys Co.unit (Mp.row m u v) q = (xs.length : Int) + ys.length - 2 * q + Mp.sum (fun k => if Tr.l xs (u k) = Tr.l ys (v k) then 0 else 1) q := fun q => by
    induction q with
    | zero =>
      intro _
      rw [Mp.part_zero, Mp.sum_one _ (fun k hk => ?_), Mp.sum_one _ (fun k hk => ?_)]
      · simp [Mp.sum]
      · obtain ⟨a, ha, e⟩ := Tr.lab_nat hy hk
        rw [e]; exact (Co.unit_dels a ha).2
      · obtain ⟨a, ha, e⟩ := Tr.lab_nat hx hk
        rw [e]; exact (Co.unit_dels a ha).1
    | succ q ih =>
      intro hq
      have hql : q < (Mp.row m u v).length := by rw [Mp.row_len]; omega
      rw [Mp.part_succ hql ((Mp.ok_all h).2.2 q hql) (Mp.row_l (by omega)) (Mp.row_d (by omega)), ih (by omega)]
      obtain ⟨a, ha, ea⟩ := Tr.lab_nat hx (hu q (by omega))
      obtain ⟨b, hb, eb⟩ := Tr.lab_nat hy (hv q (by omega))
      rw [ea, eb, (Co.unit_dels a ha).1, (Co.unit_dels b hb).2, Co.unit_rels a ha b hb]
      have es : Mp.sum (fun k => if Tr.l xs (u k) = Tr.l ys (v k) then (0 : Int) else 1) (q + 1) = Mp.sum (fun k => if Tr.l xs (u k) = Tr.l ys (v k) then 0 else 1) q + if (a : Int) = b then 0 else 1 := by
        rw [Mp.sum, ea, eb]
      rw [es]
      by_cases e : a = b
      · rw [if_pos e, if_pos (by omega)]; omega
      · rw [if_neg e, if_neg (by omega)]; omega
  have := step m (Nat.le_refl _)
  unfold Mp.cost
  rw [h, Co.unit_ok, Bool.and_self, if_pos rfl, Mp.row_len]
  exact this
theorem Mp.row_rooted (hm : 1 ≤ m) (h1 : u 0 = 0) (h2 : v 0 = 0) : Tr.rooted (Mp.row m u v) = true := by
  have a := Mp.row_l (m := m) (u := u) (v := v) (k := 0) (by omega)
  have b := Mp.row_d (m := m) (u := u) (v := v) (k := 0) (by omega)
  have l := Mp.row_len (m := m) (u := u) (v := v)
  unfold Tr.rooted
  rw [a, b, h1, h2, l]
  simp
  omega
end
section
variable {xs : Tr} (hok : Tr.ok xs = true) {i : Nat} (hi : i < xs.length) {a : Int}
include hok hi
theorem Oc.del_near (h0 : 0 < i) : Tr.rootDist xs (Oc.del xs i) Co.unit ≤ 1 ∧ Tr.rootDist (Oc.del xs i) xs Co.unit ≤ 1 := by
  have hoy := Oc.del_ok hok hi h0
  have hly := Oc.del_len hi
  have n := Tr.len24 hok
  have wlt : ∀ k, k < xs.length - 1 → Oc.was i k < xs.length := fun k hk => by unfold Oc.was; split <;> omega
  have mo : ∀ k k', k < k' → k' < xs.length - 1 → Oc.was i k < Oc.was i k' := fun k k' h h' => by unfold Oc.was; split <;> split <;> omega
  have w0 : Oc.was i 0 = 0 := by unfold Oc.was; rw [if_pos h0]
  have lab : ∀ k, k < xs.length - 1 → Tr.l xs (Oc.was i k) = Tr.l (Oc.del xs i) k := fun k hk => by
    rw [Oc.del_l hi hk]
    unfold Oc.was
    split <;> rfl
  have z1 : ∀ n (f : Nat → Int), (∀ k, k < n → f k = 0) → Mp.sum f n = 0 := fun n f h => by
    induction n with
    | zero => rfl
    | succ n ih => rw [Mp.sum, ih (fun k hk => h k (by omega)), h n (by omega)]; rfl
  constructor
  · have ok := Mp.row_ok (m := xs.length - 1) (u := Oc.was i) (v := id) hok hoy wlt (fun k hk => by rw [hly]; exact hk) (fun k k' h h' => ⟨mo k k' h h', h, Oc.del_under hok hi h0 h h'⟩)
    have := Lb.root ok (Mp.row_rooted (by omega) w0 rfl) Co.unit_ok
    have es : Mp.sum (fun k => if Tr.l xs (Oc.was i k) = Tr.l (Oc.del xs i) (id k) then (0 : Int) else 1) (xs.length - 1) = 0 := z1 _ _ (fun k hk => if_pos (lab k hk))
    rw [Mp.row_cost hok hoy ok wlt (fun k hk => by rw [hly]; exact hk), es, hly] at this
    omega
  · have ok := Mp.row_ok (m := xs.length - 1) (u := id) (v := Oc.was i) hoy hok (fun k hk => by rw [hly]; exact hk) wlt (fun k k' h h' => ⟨h, mo k k' h h', (Oc.del_under hok hi h0 h h').symm⟩)
    have := Lb.root ok (Mp.row_rooted (by omega) rfl w0) Co.unit_ok
    have es : Mp.sum (fun k => if Tr.l (Oc.del xs i) (id k) = Tr.l xs (Oc.was i k) then (0 : Int) else 1) (xs.length - 1) = 0 := z1 _ _ (fun k hk => if_pos (lab k hk).symm)
    rw [Mp.row_cost hoy hok ok (fun k hk => by rw [hly]; exact hk) wlt, es, hly] at this
    omega
theorem Oc.rel_near (ha : 0 ≤ a ∧ a ≤ 5) : Tr.rootDist xs (Oc.rel xs i a) Co.unit ≤ 1 := by
  have hoy := Oc.rel_ok hok hi ha
  have hly : (Oc.rel xs i a).length = xs.length := Oc.rel_len
  have n := Tr.len24 hok
  have en : ∀ k, k < xs.length → Tr.endN xs k = Tr.endN (Oc.rel xs i a) k := fun k hk => by
    obtain ⟨e1, e2, e3, e4⟩ := Tr.endN_spec xs k hk
    refine (Tr.endN_is e1 (by rw [hly]; exact e2) (fun j h1 h2 => ?_) ?_).symm
    · rw [Oc.rel_d, Oc.rel_d]; exact e3 j h1 h2
    · rw [Oc.rel_d, Oc.rel_d, hly]; exact e4
  have ok := Mp.row_ok (m := xs.length) (u := id) (v := id) hok hoy (fun k hk => hk) (fun k hk => by rw [hly]; exact hk) (fun k k' h h' => ⟨h, h, by
    rw [Tr.under_nat hok (show id k < xs.length by exact Nat.lt_trans h h') (show id k' < xs.length from h'), Tr.under_nat hoy (by rw [hly]; exact Nat.lt_trans h h') (by rw [hly]; exact h'), show Tr.endN xs (id k) = Tr.endN (Oc.rel xs i a) (id k) from en _ (Nat.lt_trans h h')]⟩)
  have := Lb.root ok (Mp.row_rooted (by omega) rfl rfl) Co.unit_ok
  rw [Mp.row_cost hok hoy ok (fun k hk => hk) (fun k hk => by rw [hly]; exact hk), hly] at this
  obtain ⟨F, hF⟩ : ∃ F : Nat → Int, F = fun k => if Tr.l xs (id k) = Tr.l (Oc.rel xs i a) (id k) then (0 : Int) else 1 := ⟨_, rfl⟩
  have F1 : ∀ k, F k ≤ 1 := fun k => by rw [hF]; dsimp only; split <;> omega
  have F0 : ∀ k, k ≠ i → F k = 0 := fun k e => by rw [hF]; exact if_pos (by show Tr.l xs k = Tr.l (Oc.rel xs i a) k; rw [Oc.rel_l hi, if_neg e])
  rw [← hF] at this
  have z : ∀ m, Mp.sum F m ≤ if i < m then 1 else 0 := fun m => by
    induction m with
    | zero => simp [Mp.sum]
    | succ m ih =>
      have e0 : Mp.sum F (m + 1) = Mp.sum F m + F m := rfl
      rw [e0]
      have f1 := F1 m
      by_cases e : m = i
      · rw [if_neg (by omega)] at ih
        rw [if_pos (by omega)]
        omega
      · have f0 := F0 m e
        by_cases c : i < m
        · rw [if_pos c] at ih; rw [if_pos (by omega)]; omega
        · rw [if_neg c] at ih; rw [if_neg (by omega)]; omega
  have z2 := z xs.length
  rw [if_pos hi] at z2
  omega
end

end Go.Proofs.Ytgkkeejhfofcaaa
