/- Texts of one claim laid into one file, in build order: CmM, Lb. -/
import Derived.Test.YtgkkeejhfofcaaaHf10
import Derived.Test.YtgkkeejhfofcaaaHf14
/- Contracts (CmM). -/
namespace Go.Proofs.Ytgkkeejhfofcaaa
open Go.RowKit
set_option linter.unusedVariables false

section
variable {xs ys zs ms ns : Tr} {k : Co}
/-- valid, by pairs -/
theorem Mp.ok_iff : Mp.ok xs ys ms = true ↔ Tr.ok xs = true ∧ Tr.ok ys = true ∧ (∀ e ∈ ms, Tr.has xs e.1 = true ∧ Tr.has ys e.2 = true) ∧ ms.Pairwise (Bm.R xs ys) := by
  constructor
  · intro h
    obtain ⟨h1, h2, h3⟩ := Mp.ok_all h
    refine ⟨h1, h2, fun e he => ?_, ?_⟩
    · obtain ⟨q, hq, rfl⟩ := List.getElem_of_mem he
      obtain ⟨a, b, _⟩ := Mp.okAt_parts (h3 q hq)
      rw [pr_at ms hq]
      exact ⟨a, b⟩
    · refine List.pairwise_iff_getElem.2 fun i j hi hj hij => ?_
      obtain ⟨_, _, c⟩ := Mp.okAt_parts (h3 j hj)
      rw [pr_at ms hi, pr_at ms hj]
      exact c i hij
  · rintro ⟨h1, h2, h3, h4⟩
    rw [Mp.ok_yes, h1, h2]
    · rfl
    · intro i hi
      have e := h3 ms[i] (List.getElem_mem hi)
      rw [pr_at ms hi] at e
      refine Mp.okAt_yes e.1 e.2 (fun m hm => ?_)
      have r := List.pairwise_iff_getElem.1 h4 m i (by omega) hi hm
      rw [pr_at ms hi, pr_at ms (show m < ms.length by omega)] at r
      exact Mp.at_yes r.1 r.2.1 r.2.2
/-- where b leads: at most one place, if first places ascend -/
theorem Cp.out_mem {b z : Int} : ∀ m, z ∈ Cp.out ns b m ↔ ∃ q, q < m ∧ Tr.l ns q = b ∧ Tr.d ns q = z
  | 0 => by simp [Cp.out]
  | m + 1 => by
    have ih := Cp.out_mem (b := b) (z := z) m
    by_cases e : b = Tr.l ns m
    · rw [Cp.out_yes e, List.mem_append, ih, List.mem_singleton]
      constructor
      · rintro (⟨q, h1, h2, h3⟩ | h)
        · exact ⟨q, by omega, h2, h3⟩
        · exact ⟨m, by omega, e.symm, h.symm⟩
      · rintro ⟨q, h1, h2, h3⟩
        by_cases hq : q = m
        · subst hq; exact .inr h3.symm
        · exact .inl ⟨q, by omega, h2, h3⟩
    · rw [Cp.out_no e, ih]
      constructor
      · rintro ⟨q, h1, h2, h3⟩; exact ⟨q, by omega, h2, h3⟩
      · rintro ⟨q, h1, h2, h3⟩
        refine ⟨q, ?_, h2, h3⟩
        by_cases hq : q = m
        · subst hq; exact absurd h2.symm e
        · omega
theorem Cp.out_one {b : Int} (h : ns.Pairwise fun e e' => e.1 < e'.1) : ∀ m, m ≤ ns.length → (Cp.out ns b m).length ≤ 1
  | 0, _ => by simp [Cp.out]
  | m + 1, hm => by
    have ih := Cp.out_one (b := b) h m (by omega)
    by_cases e : b = Tr.l ns m
    · rw [Cp.out_yes e, List.length_append, List.length_singleton]
      have : Cp.out ns b m = [] := by
        refine List.eq_nil_iff_forall_not_mem.2 fun z hz => ?_
        obtain ⟨q, h1, h2, _⟩ := (Cp.out_mem m).1 hz
        have r := List.pairwise_iff_getElem.1 h q m (by omega) (by omega) h1
        rw [pr_at ns (show q < ns.length by omega), pr_at ns (show m < ns.length by omega)] at r
        simp only at r
        omega
      rw [this]; simp
    · rw [Cp.out_no e]; exact ih
/-- a mapping by way of its inverse leads back -/
theorem Cp.back (hm : ms.Pairwise (Bm.R xs ys)) : ∀ m, m ≤ ms.length → Cp.to ms (Tr.turn ms) m = (ms.take m).map fun e => (e.1, e.1)
  | 0, _ => by simp [Cp.to]
  | m + 1, h => by
    have ih := Cp.back hm m (by omega)
    have asc : (Tr.turn ms).Pairwise fun e e' => e.1 < e'.1 := by
      unfold Tr.turn
      rw [List.pairwise_map]
      exact hm.imp (fun h => h.2.1)
    have ho : Cp.out (Tr.turn ms) (Tr.d ms m) (Tr.turn ms).length = [Tr.l ms m] := by
      have hmem : Tr.l ms m ∈ Cp.out (Tr.turn ms) (Tr.d ms m) (Tr.turn ms).length := (Cp.out_mem _).2 ⟨m, by rw [Tr.turn_length]; omega, Tr.turn_l ms (by omega), Tr.turn_d ms (by omega)⟩
      have h1 := Cp.out_one (b := Tr.d ms m) asc _ (Nat.le_refl _)
      rcases hl : Cp.out (Tr.turn ms) (Tr.d ms m) (Tr.turn ms).length with _ | ⟨a, _ | ⟨b, r⟩⟩
      · rw [hl] at hmem; cases hmem
      · rw [hl] at hmem; rw [List.mem_singleton.1 hmem]
      · rw [hl] at h1; simp at h1
    rw [Cp.to, ih, ho, List.take_add_one, List.getElem?_eq_getElem (show m < ms.length by omega), pr_at ms (show m < ms.length by omega), List.map_append]
    rfl
end

end Go.Proofs.Ytgkkeejhfofcaaa

/- Contracts (Lb). -/
namespace Go.Proofs.Ytgkkeejhfofcaaa
open Go.RowKit
set_option linter.unusedVariables false

/-- two pairs of places, one of a node above or to the right of the other, on both sides alike -/
def Lb.D (xs ys : Tr) (e e' : Nat × Nat) : Prop := (e'.1 < e.1 ∧ Tr.la xs e.1 ≤ e'.1 ∧ e'.2 < e.2 ∧ Tr.la ys e.2 ≤ e'.2) ∨ (e.1 < e'.1 ∧ e.1 < Tr.la xs e'.1 ∧ e.2 < e'.2 ∧ e.2 < Tr.la ys e'.2)
def Lb.C (xs ys : Tr) (e e' : Nat × Nat) : Prop := Lb.D xs ys e e' ∨ Lb.D xs ys e' e
def Lb.w (xs ys : Tr) (k : Co) (e : Nat × Nat) : Int := Co.rel k (Tr.xa xs e.1) (Tr.xa ys e.2) - Co.del k (Tr.xa xs e.1) - Co.ins k (Tr.xa ys e.2)
def Lb.ws (xs ys : Tr) (k : Co) : List (Nat × Nat) → Int
  | [] => 0
  | e :: L => Lb.w xs ys k e + Lb.ws xs ys k L
section
variable {xs ys : Tr} {k : Co}
theorem Lb.ws_perm {L L' : List (Nat × Nat)} (h : L.Perm L') : Lb.ws xs ys k L = Lb.ws xs ys k L' := by
  induction h with
  | nil => rfl
  | cons x _ ih => rw [Lb.ws, Lb.ws, ih]
  | swap x y l => simp only [Lb.ws]; omega
  | trans _ _ a b => rw [a, b]
theorem Lb.ws_split (f : Nat × Nat → Bool) : ∀ L : List (Nat × Nat), Lb.ws xs ys k L = Lb.ws xs ys k (L.filter f) + Lb.ws xs ys k (L.filter fun e => !f e)
  | [] => by simp [Lb.ws]
  | e :: L => by
    have ih := Lb.ws_split f L
    cases h : f e with
    | true => rw [List.filter_cons_of_pos h, List.filter_cons_of_neg (by rw [h]; simp), Lb.ws, Lb.ws, ih]; omega
    | false => rw [List.filter_cons_of_neg (by rw [h]; simp), List.filter_cons_of_pos (by rw [h]; rfl), Lb.ws, Lb.ws, ih]; omega
theorem RR_step (hx : Tr.ok xs = true) (hy : Tr.ok ys = true) {i j p q : Nat} (h1 : i < j) (h2 : p < q) (hj : j ≤ xs.length) (hq : q ≤ ys.length) :
    RR xs ys k i j p q = min (min (RR xs ys k i (j - 1) p q + Co.del k (Tr.xa xs (j - 1))) (RR xs ys k i j p (q - 1) + Co.ins k (Tr.xa ys (q - 1)))) (RR xs ys k i (max i (Tr.la xs (j - 1))) p (max p (Tr.la ys (q - 1))) + RR xs ys k (max i (Tr.la xs (j - 1))) (j - 1) (max p (Tr.la ys (q - 1))) (q - 1) + Co.rel k (Tr.xa xs (j - 1)) (Tr.xa ys (q - 1))) := by
  have := RD_both (K := Co.cs k) (x := Tr.xa xs) (y := Tr.xa ys) (Tr.la_nest hx) (Tr.la_nest hy) (i := i) (j := j - 1) (k := p) (l := q - 1) (by omega) (by omega) (by omega) (by omega)
  rw [show j - 1 + 1 = j by omega, show q - 1 + 1 = q by omega] at this
  exact this
theorem Lb.low (hx : Tr.ok xs = true) (hy : Tr.ok ys = true) : ∀ (s i j p q : Nat) (W : List (Nat × Nat)), (j - i) + (q - p) < s → i ≤ j → j ≤ xs.length → p ≤ q → q ≤ ys.length → W.Pairwise (Lb.C xs ys) → (∀ e ∈ W, (i ≤ e.1 ∧ e.1 < j) ∧ p ≤ e.2 ∧ e.2 < q) →
    RR xs ys k i j p q ≤ Bm.sx xs (Co.del k) i j + Bm.sx ys (Co.ins k) p q + Lb.ws xs ys k W := by
  intro s
  induction s with
  | zero => intro i j p q W h; omega
  | succ s ih =>
    intro i j p q W hs hij hj hpq hq hW hin
    rcases Nat.eq_or_lt_of_le hij with e | hij'
    · subst e
      obtain rfl : W = [] := by
        cases W with
        | nil => rfl
        | cons e W => have := hin e List.mem_cons_self; omega
      rw [Bm.rr_ins hy q hpq hq, Bm.sx_self]
      simp only [Lb.ws]
      omega
    · rcases Nat.eq_or_lt_of_le hpq with e | hpq'
      · subst e
        obtain rfl : W = [] := by
          cases W with
          | nil => rfl
          | cons e W => have := hin e List.mem_cons_self; omega
        rw [Bm.rr_del hx j hij hj, Bm.sx_self (xs := ys)]
        simp only [Lb.ws]
        omega
      · have step := RR_step (k := k) hx hy hij' hpq' hj hq
        have s1 := Bm.sx_succ (xs := xs) (Co.del k) i j (by omega)
        have s2 := Bm.sx_succ (xs := ys) (Co.ins k) p q (by omega)
        by_cases a : ∃ e ∈ W, e.1 = j - 1
        · by_cases b : ∃ e ∈ W, e.2 = q - 1
          · obtain ⟨e, he, ea⟩ := a
            obtain ⟨e', he', eb⟩ := b
            have pm := List.perm_cons_erase he
            obtain ⟨hC, hP⟩ := List.pairwise_cons.1 ((pm.pairwise_iff (fun h => Or.symm h)).1 hW)
            have i1 := hin e he
            have ein : ∀ x ∈ W.erase e, x ∈ W := fun x hx => List.mem_of_mem_erase hx
            have e2 : e.2 = q - 1 := by
              by_cases h : e' = e
              · rw [← h]; exact eb
              · have c := hC e' ((List.mem_erase_of_ne h).2 he')
                have i2 := hin e' he'
                unfold Lb.C Lb.D at c
                omega
            have la1 := (Tr.la_nest hx (j - 1) (by omega)).1
            have lb1 := (Tr.la_nest hy (q - 1) (by omega)).1
            have hr : ∀ x ∈ W.erase e, (i ≤ x.1 ∧ p ≤ x.2) ∧ ((Tr.la xs (j - 1) ≤ x.1 ∧ x.1 < j - 1 ∧ Tr.la ys (q - 1) ≤ x.2 ∧ x.2 < q - 1) ∨ (x.1 < Tr.la xs (j - 1) ∧ x.2 < Tr.la ys (q - 1))) := fun x hx => by
              have c := hC x hx
              have i2 := hin x (ein x hx)
              unfold Lb.C Lb.D at c
              rw [ea, e2] at c
              omega
            obtain ⟨P, hPd⟩ : ∃ P, P = max i (Tr.la xs (j - 1)) := ⟨_, rfl⟩
            obtain ⟨Q, hQd⟩ : ∃ Q, Q = max p (Tr.la ys (q - 1)) := ⟨_, rfl⟩
            rw [← hPd, ← hQd] at step
            have f1 := ih P (j - 1) Q (q - 1) ((W.erase e).filter fun x => decide (Tr.la xs (j - 1) ≤ x.1)) (by omega) (by omega) (by omega) (by omega) (by omega) (hP.filter _) (fun x hx => by
              obtain ⟨h1, h2⟩ := List.mem_filter.1 hx
              have := hr x h1
              have h3 := of_decide_eq_true h2
              omega)
            have f2 := ih i P p Q ((W.erase e).filter fun x => !decide (Tr.la xs (j - 1) ≤ x.1)) (by omega) (by omega) (by omega) (by omega) (by omega) (hP.filter _) (fun x hx => by
              obtain ⟨h1, h2⟩ := List.mem_filter.1 hx
              have := hr x h1
              have h3 : ¬ Tr.la xs (j - 1) ≤ x.1 := by simpa using h2
              omega)
            have g := Lb.ws_perm (xs := xs) (ys := ys) (k := k) pm
            rw [Lb.ws, Lb.ws_split (fun x => decide (Tr.la xs (j - 1) ≤ x.1)) (W.erase e)] at g
            unfold Lb.w at g
            rw [ea, e2] at g
            have c1 := Bm.sx_cat (xs := xs) (Co.del k) i P (j - 1)
            have c2 := Bm.sx_cat (xs := ys) (Co.ins k) p Q (q - 1)
            omega
          · have := ih i j p (q - 1) W (by omega) hij hj (by omega) (by omega) hW (fun e he => by
              have h1 := hin e he
              have h2 : ¬ e.2 = q - 1 := fun h => b ⟨e, he, h⟩
              omega)
            omega
        · have := ih i (j - 1) p q W (by omega) (by omega) (by omega) hpq hq hW (fun e he => by
            have h1 := hin e he
            have h2 : ¬ e.1 = j - 1 := fun h => a ⟨e, he, h⟩
            omega)
          omega
/-- nodes as places -/
def Lb.f (xs ys : Tr) (e : Int × Int) : Nat × Nat := (Tr.rk xs e.1.toNat, Tr.rk ys e.2.toNat)
theorem Lb.side (hx : Tr.ok xs = true) {a b : Nat} (ha : a < b) (hb : b < xs.length) : (Tr.under xs (a : Int) (b : Int) = true ∧ Tr.rk xs b < Tr.rk xs a ∧ Tr.la xs (Tr.rk xs a) ≤ Tr.rk xs b) ∨ (Tr.under xs (a : Int) (b : Int) = false ∧ Tr.rk xs a < Tr.rk xs b ∧ Tr.rk xs a < Tr.la xs (Tr.rk xs b)) := by
  have r1 := Tr.rk_lt hx (show a < xs.length by omega)
  have r2 := Tr.rk_lt hx hb
  have n1 := Tr.nd_rk hx (show a < xs.length by omega)
  have n2 := Tr.nd_rk hx hb
  rcases Nat.lt_trichotomy (Tr.rk xs b) (Tr.rk xs a) with h | h | h
  · have hl : Tr.la xs (Tr.rk xs a) ≤ Tr.rk xs b := by
      rcases Nat.lt_or_ge (Tr.rk xs b) (Tr.la xs (Tr.rk xs a)) with c | c
      · have := Tr.nd_ahead hx r1 c
        rw [n1, n2] at this
        omega
      · exact c
    have := Tr.nd_yes hx r1 hl h
    rw [n1, n2] at this
    exact .inl ⟨this, h, hl⟩
  · have := Tr.rk_inj hx hb (show a < xs.length by omega) h
    omega
  · have hf := Tr.nd_not hx (Nat.le_of_lt h) r2
    rw [n1, n2] at hf
    refine .inr ⟨hf, h, ?_⟩
    rcases Nat.lt_or_ge (Tr.rk xs a) (Tr.la xs (Tr.rk xs b)) with c | c
    · exact c
    · have := (Tr.nd_below hx r2 c h).1
      rw [n1, n2] at this
      omega
theorem Lb.pair (hx : Tr.ok xs = true) (hy : Tr.ok ys = true) {e e' : Int × Int} (h : Bm.R xs ys e e') (h1 : 0 ≤ e.1) (h2 : 0 ≤ e.2) (h3 : e'.1 < xs.length) (h4 : e'.2 < ys.length) : Lb.C xs ys (Lb.f xs ys e) (Lb.f xs ys e') := by
  obtain ⟨a, b⟩ := e
  obtain ⟨a', b'⟩ := e'
  obtain ⟨r1, r2, r3⟩ := h
  dsimp only at r1 r2 r3 h1 h2 h3 h4
  obtain ⟨a, rfl⟩ := Int.eq_ofNat_of_zero_le h1
  obtain ⟨b, rfl⟩ := Int.eq_ofNat_of_zero_le h2
  obtain ⟨a', rfl⟩ := Int.eq_ofNat_of_zero_le (show 0 ≤ a' by omega)
  obtain ⟨b', rfl⟩ := Int.eq_ofNat_of_zero_le (show 0 ≤ b' by omega)
  have s1 := Lb.side hx (a := a) (b := a') (by omega) (by omega)
  have s2 := Lb.side hy (a := b) (b := b') (by omega) (by omega)
  rw [r3] at s1
  unfold Lb.C Lb.D Lb.f
  simp only [Int.toNat_natCast]
  rcases s1 with ⟨u1, s1⟩ | ⟨u1, s1⟩ <;> rcases s2 with ⟨u2, s2⟩ | ⟨u2, s2⟩
  · omega
  · rw [u1] at u2; cases u2
  · rw [u1] at u2; cases u2
  · omega
theorem Lb.ws_map (hx : Tr.ok xs = true) (hy : Tr.ok ys = true) : ∀ M : Tr, (∀ e ∈ M, (0 ≤ e.1 ∧ e.1 < xs.length) ∧ 0 ≤ e.2 ∧ e.2 < ys.length) → Lb.ws xs ys k (M.map (Lb.f xs ys)) = Bm.ws xs ys k M
  | [], _ => rfl
  | e :: M, h => by
    have ih := Lb.ws_map hx hy M (fun x hx => h x (List.mem_cons_of_mem _ hx))
    have he := h e List.mem_cons_self
    have l1 : Tr.xa xs (Tr.rk xs e.1.toNat) = Tr.l xs e.1.toNat := by
      have := (Tr.nd_at hx (Tr.rk_lt hx (show e.1.toNat < xs.length by omega))).2.2.2
      rw [Tr.nd_rk hx (by omega)] at this
      exact this
    have l2 : Tr.xa ys (Tr.rk ys e.2.toNat) = Tr.l ys e.2.toNat := by
      have := (Tr.nd_at hy (Tr.rk_lt hy (show e.2.toNat < ys.length by omega))).2.2.2
      rw [Tr.nd_rk hy (by omega)] at this
      exact this
    rw [List.map_cons, Lb.ws, ih, Bm.ws]
    unfold Lb.w Bm.w Lb.f
    dsimp only
    rw [l1, l2]
theorem Tr.rk_root (hx : Tr.ok xs = true) {a : Nat} (h0 : 0 < a) (ha : a < xs.length) : Tr.rk xs a < xs.length - 1 := by
  have h := Tr.rk_under hx (i := 0) (by omega) h0 (by rw [Tr.endN_zero hx]; exact ha)
  rw [show Tr.rk xs 0 = xs.length - 1 by unfold Tr.rk; rw [Tr.endN_zero hx, Tr.dn_zero hx]; omega] at h
  exact h
/-- nothing that belongs together, root to root, costs less than the distance -/
theorem Lb.root {M : Tr} (h : Mp.ok xs ys M = true) (hr : Tr.rooted M = true) (hk : Co.ok k = true) : Tr.rootDist xs ys k ≤ Mp.cost xs ys k M := by
  obtain ⟨hx, hy, h3, h4⟩ := Mp.ok_iff.1 h
  have x1 := (Tr.len24 hx).1
  have y1 := (Tr.len24 hy).1
  obtain ⟨M', rfl⟩ : ∃ M', M = (0, 0) :: M' := by
    cases M with
    | nil => simp [Tr.rooted] at hr
    | cons e M' =>
      refine ⟨M', ?_⟩
      obtain ⟨a, b⟩ := e
      simp [Tr.rooted, Tr.l, Tr.d] at hr
      obtain ⟨rfl, rfl⟩ := hr
      rfl
  have hb : ∀ e ∈ M', (0 ≤ e.1 ∧ e.1 < xs.length) ∧ 0 ≤ e.2 ∧ e.2 < ys.length := fun e he => by
    have a := (Tr.has_iff.1 (h3 e (List.mem_cons_of_mem _ he)).1).2
    have b := (Tr.has_iff.1 (h3 e (List.mem_cons_of_mem _ he)).2).2
    exact ⟨a, b⟩
  obtain ⟨p1, p2⟩ := List.pairwise_cons.1 h4
  have hw := Bm.part_ws (k := k) h _ (Nat.le_refl _)
  rw [List.take_length] at hw
  have lo := Lb.low (k := k) hx hy (xs.length - 1 - 0 + (ys.length - 1 - 0) + 1) 0 (xs.length - 1) 0 (ys.length - 1) (M'.map (Lb.f xs ys)) (by omega) (by omega) (by omega) (by omega) (by omega)
    (List.pairwise_map.2 (p2.imp_of_mem fun ha hb' r => Lb.pair hx hy r (hb _ ha).1.1 (hb _ ha).2.1 (hb _ hb').1.2 (hb _ hb').2.2))
    (fun e he => by
      obtain ⟨u, hu, rfl⟩ := List.mem_map.1 he
      have := p1 u hu
      have b := hb u hu
      have r1 := this.1
      have r2 := this.2.1
      dsimp only at r1 r2
      have q1 := Tr.rk_root hx (a := u.1.toNat) (by omega) (by omega)
      have q2 := Tr.rk_root hy (a := u.2.toNat) (by omega) (by omega)
      unfold Lb.f
      dsimp only
      omega)
  rw [Lb.ws_map hx hy M' hb] at lo
  unfold Mp.cost Tr.rootDist
  rw [h, hk, hx, hy, hw]
  simp only [Bool.and_self, if_true]
  rw [Mp.part_zero, sum_post hx, sum_post hy]
  have s1 := Bm.sx_succ (xs := xs) (Co.del k) 0 xs.length (by omega)
  have s2 := Bm.sx_succ (xs := ys) (Co.ins k) 0 ys.length (by omega)
  unfold Bm.sx at s1 s2 lo
  simp only [Mp.sum] at s1 s2 lo
  have t1 := Tr.xa_last hx
  have t2 := Tr.xa_last hy
  simp only [Bm.ws, Bm.w]
  rw [t1] at s1
  rw [t2] at s2
  simp only [Int.toNat_zero]
  omega
end

end Go.Proofs.Ytgkkeejhfofcaaa
