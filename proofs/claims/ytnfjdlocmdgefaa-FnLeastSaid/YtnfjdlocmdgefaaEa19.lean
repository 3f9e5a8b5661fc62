/- Texts of one claim laid into one file, in build order: Lb, Am, Exu. -/
import Derived.Test.YtnfjdlocmdgefaaEa18
import Derived.Test.YtnfjdlocmdgefaaEa5
/- Contracts (Lb). -/
namespace Go.Proofs.Ytnfjdlocmdgefaa
open Go.RowKit
set_option linter.unusedVariables false

/-- two pairs of places, one of a node above or to the right of the other, on both sides alike -/
def Lb.D (xs ys : Tr) (e e' : Nat × Nat) : Prop := (e'.1 < e.1 ∧ Tr.la xs e.1 ≤ e'.1 ∧ e'.2 < e.2 ∧ Tr.la ys e.2 ≤ e'.2) ∨ (e.1 < e'.1 ∧ e.1 < Tr.la xs e'.1 ∧ e.2 < e'.2 ∧ e.2 < Tr.la ys e'.2)
def Lb.C (xs ys : Tr) (e e' : Nat × Nat) : Prop := Lb.D xs ys e e' ∨ Lb.D xs ys e' e
def Lb.w (xs ys : Tr) (k : Co) (e : Nat × Nat) : Int := Co.rel k (Tr.xa xs e.1) (Tr.xa ys e.2) - Co.del k (Tr.xa xs e.1) - Co.ins k (Tr.xa ys e.2)
def Lb.ws (xs ys : Tr) (k : Co) : List (Nat × Nat) → Int
  | [] => 0
  | e :: L => Lb.w xs ys k e + Lb.ws xs ys k L
section
variable {xs ys : Tr} {k : Co}
theorem Lb.ws_perm {L L' : List (Nat × Nat)} (h : L.Perm L') : Lb.ws xs ys k L = Lb.ws xs ys k L' := by
  induction h with
  | nil => rfl
  | cons x _ ih => rw [Lb.ws, Lb.ws, ih]
  | swap x y l => simp only [Lb.ws]; omega
  | trans _ _ a b => rw [a, b]
theorem Lb.ws_split (f : Nat × Nat → Bool) : ∀ L : List (Nat × Nat), Lb.ws xs ys k L = Lb.ws xs ys k (L.filter f) + Lb.ws xs ys k (L.filter fun e => !f e)
  | [] => by simp [Lb.ws]
  | e :: L => by
    have ih := Lb.ws_split f L
    cases h : f e with
    | true => rw [List.filter_cons_of_pos h, List.filter_cons_of_neg (by rw [h]; simp), Lb.ws, Lb.ws, ih]; omega
    | false => rw [List.filter_cons_of_neg (by rw [h]; simp), List.filter_cons_of_pos (by rw [h]; rfl), Lb.ws, Lb.ws, ih]; omega
theorem RR_step (hx : Tr.ok xs = true) (hy : Tr.ok ys = true) {i j p q : Nat} (h1 : i < j) (h2 : p < q) (hj : j ≤ xs.length) (hq : q ≤ ys.length) :
    RR xs ys k i j p q = min (min (RR xs ys k i (j - 1) p q + Co.del k (Tr.xa xs (j - 1))) (RR xs ys k i j p (q - 1) + Co.ins k (Tr.xa ys (q - 1)))) (RR xs ys k i (max i (Tr.la xs (j - 1))) p (max p (Tr.la ys (q - 1))) + RR xs ys k (max i (Tr.la xs (j - 1))) (j - 1) (max p (Tr.la ys (q - 1))) (q - 1) + Co.rel k (Tr.xa xs (j - 1)) (Tr.xa ys (q - 1))) := by
  have := RD_both (K := Co.cs k) (x := Tr.xa xs) (y := Tr.xa ys) (Tr.la_nest hx) (Tr.la_nest hy) (i := i) (j := j - 1) (k := p) (l := q - 1) (by omega) (by omega) (by omega) (by omega)
  rw [show j - 1 + 1 = j by omega, show q - 1 + 1 = q by omega] at this
  exact this
theorem Lb.low (hx : Tr.ok xs = true) (hy : Tr.ok ys = true) : ∀ (s i j p q : Nat) (W : List (Nat × Nat)), (j - i) + (q - p) < s → i ≤ j → j ≤ xs.length → p ≤ q → q ≤ ys.length → W.Pairwise (Lb.C xs ys) → (∀ e ∈ W, (i ≤ e.1 ∧ e.1 < j) ∧ p ≤ e.2 ∧ e.2 < q) →
    RR xs ys k i j p q ≤ Bm.sx xs (Co.del k) i j + Bm.sx ys (Co.ins k) p q + Lb.ws xs ys k W := by
  intro s
  induction s with
  | zero => intro i j p q W h; omega
  | succ s ih =>
    intro i j p q W hs hij hj hpq hq hW hin
    rcases Nat.eq_or_lt_of_le hij with e | hij'
    · subst e
      obtain rfl : W = [] := by
        cases W with
        | nil => rfl
        | cons e W => have := hin e List.mem_cons_self; omega
      rw [Bm.rr_ins hy q hpq hq, Bm.sx_self]
      simp only [Lb.ws]
      omega
    · rcases Nat.eq_or_lt_of_le hpq with e | hpq'
      · subst e
        obtain rfl : W = [] := by
          cases W with
          | nil => rfl
          | cons e W => have := hin e List.mem_cons_self; omega
        rw [Bm.rr_del hx j hij hj, Bm.sx_self (xs := ys)]
        simp only [Lb.ws]
        omega
      · have step := RR_step (k := k) hx hy hij' hpq' hj hq
        have s1 := Bm.sx_succ (xs := xs) (Co.del k) i j (by omega)
        have s2 := Bm.sx_succ (xs := ys) (Co.ins k) p q (by omega)
        by_cases a : ∃ e ∈ W, e.1 = j - 1
        · by_cases b : ∃ e ∈ W, e.2 = q - 1
          · obtain ⟨e, he, ea⟩ := a
            obtain ⟨e', he', eb⟩ := b
            have pm := List.perm_cons_erase he
            obtain ⟨hC, hP⟩ := List.pairwise_cons.1 ((pm.pairwise_iff (fun h => Or.symm h)).1 hW)
            have i1 := hin e he
            have ein : ∀ x ∈ W.erase e, x ∈ W := fun x hx => List.mem_of_mem_erase hx
            have e2 : e.2 = q - 1 := by
              by_cases h : e' = e
              · rw [← h]; exact eb
              · have c := hC e' ((List.mem_erase_of_ne h).2 he')
                have i2 := hin e' he'
                unfold Lb.C Lb.D at c
                omega
            have la1 := (Tr.la_nest hx (j - 1) (by omega)).1
            have lb1 := (Tr.la_nest hy (q - 1) (by omega)).1
            have hr : ∀ x ∈ W.erase e, (i ≤ x.1 ∧ p ≤ x.2) ∧ ((Tr.la xs (j - 1) ≤ x.1 ∧ x.1 < j - 1 ∧ Tr.la ys (q - 1) ≤ x.2 ∧ x.2 < q - 1) ∨ (x.1 < Tr.la xs (j - 1) ∧ x.2 < Tr.la ys (q - 1))) := fun x hx => by
              have c := hC x hx
              have i2 := hin x (ein x hx)
              unfold Lb.C Lb.D at c
              rw [ea, e2] at c
              omega
            obtain ⟨P, hPd⟩ : ∃ P, P = max i (Tr.la xs (j - 1)) := ⟨_, rfl⟩
            obtain ⟨Q, hQd⟩ : ∃ Q, Q = max p (Tr.la ys (q - 1)) := ⟨_, rfl⟩
            rw [← hPd, ← hQd] at step
            have f1 := ih P (j - 1) Q (q - 1) ((W.erase e).filter fun x => decide (Tr.la xs (j - 1) ≤ x.1)) (by omega) (by omega) (by omega) (by omega) (by omega) (hP.filter _) (fun x hx => by
              obtain ⟨h1, h2⟩ := List.mem_filter.1 hx
              have := hr x h1
              have h3 := of_decide_eq_true h2
              omega)
            have f2 := ih i P p Q ((W.erase e).filter fun x => !decide (Tr.la xs (j - 1) ≤ x.1)) (by omega) (by omega) (by omega) (by omega) (by omega) (hP.filter _) (fun x hx => by
              obtain ⟨h1, h2⟩ := List.mem_filter.1 hx
              have := hr x h1
              have h3 : ¬ Tr.la xs (j - 1) ≤ x.1 := by simpa using h2
              omega)
            have g := Lb.ws_perm (xs := xs) (ys := ys) (k := k) pm
            rw [Lb.ws, Lb.ws_split (fun x => decide (Tr.la xs (j - 1) ≤ x.1)) (W.erase e)] at g
            unfold Lb.w at g
            rw [ea, e2] at g
            have c1 := Bm.sx_cat (xs := xs) (Co.del k) i P (j - 1)
            have c2 := Bm.sx_cat (xs := ys) (Co.ins k) p Q (q - 1)
            omega
          · have := ih i j p (q - 1) W (by omega) hij hj (by omega) (by omega) hW (fun e he => by
              have h1 := hin e he
              have h2 : ¬ e.2 = q - 1 := fun h => b ⟨e, he, h⟩
              omega)
            omega
        · have := ih i (j - 1) p q W (by omega) (by omega) (by omega) hpq hq hW (fun e he => by
            have h1 := hin e he
            have h2 : ¬ e.1 = j - 1 := fun h => a ⟨e, he, h⟩
            omega)
          omega
/-- nodes as places -/
def Lb.f (xs ys : Tr) (e : Int × Int) : Nat × Nat := (Tr.rk xs e.1.toNat, Tr.rk ys e.2.toNat)
theorem Lb.side (hx : Tr.ok xs = true) {a b : Nat} (ha : a < b) (hb : b < xs.length) : (Tr.under xs (a : Int) (b : Int) = true ∧ Tr.rk xs b < Tr.rk xs a ∧ Tr.la xs (Tr.rk xs a) ≤ Tr.rk xs b) ∨ (Tr.under xs (a : Int) (b : Int) = false ∧ Tr.rk xs a < Tr.rk xs b ∧ Tr.rk xs a < Tr.la xs (Tr.rk xs b)) := by
  have r1 := Tr.rk_lt hx (show a < xs.length by omega)
  have r2 := Tr.rk_lt hx hb
  have n1 := Tr.nd_rk hx (show a < xs.length by omega)
  have n2 := Tr.nd_rk hx hb
  rcases Nat.lt_trichotomy (Tr.rk xs b) (Tr.rk xs a) with h | h | h
  · have hl : Tr.la xs (Tr.rk xs a) ≤ Tr.rk xs b := by
      rcases Nat.lt_or_ge (Tr.rk xs b) (Tr.la xs (Tr.rk xs a)) with c | c
      · have := Tr.nd_ahead hx r1 c
        rw [n1, n2] at this
        omega
      · exact c
    have := Tr.nd_yes hx r1 hl h
    rw [n1, n2] at this
    exact .inl ⟨this, h, hl⟩
  · have := Tr.rk_inj hx hb (show a < xs.length by omega) h
    omega
  · have hf := Tr.nd_not hx (Nat.le_of_lt h) r2
    rw [n1, n2] at hf
    refine .inr ⟨hf, h, ?_⟩
    rcases Nat.lt_or_ge (Tr.rk xs a) (Tr.la xs (Tr.rk xs b)) with c | c
    · exact c
    · have := (Tr.nd_below hx r2 c h).1
      rw [n1, n2] at this
      omega
theorem Lb.pair (hx : Tr.ok xs = true) (hy : Tr.ok ys = true) {e e' : Int × Int} (h : Bm.R xs ys e e') (h1 : 0 ≤ e.1) (h2 : 0 ≤ e.2) (h3 : e'.1 < xs.length) (h4 : e'.2 < ys.length) : Lb.C xs ys (Lb.f xs ys e) (Lb.f xs ys e') := by
  obtain ⟨a, b⟩ := e
  obtain ⟨a', b'⟩ := e'
  obtain ⟨r1, r2, r3⟩ := h
  dsimp only at r1 r2 r3 h1 h2 h3 h4
  obtain ⟨a, rfl⟩ := Int.eq_ofNat_of_zero_le h1
  obtain ⟨b, rfl⟩ := Int.eq_ofNat_of_zero_le h2
  obtain ⟨a', rfl⟩ := Int.eq_ofNat_of_zero_le (show 0 ≤ a' by omega)
  obtain ⟨b', rfl⟩ := Int.eq_ofNat_of_zero_le (show 0 ≤ b' by omega)
  have s1 := Lb.side hx (a := a) (b := a') (by omega) (by omega)
  have s2 := Lb.side hy (a := b) (b := b') (by omega) (by omega)
  rw [r3] at s1
  unfold Lb.C Lb.D Lb.f
  simp only [Int.toNat_natCast]
  rcases s1 with ⟨u1, s1⟩ | ⟨u1, s1⟩ <;> rcases s2 with ⟨u2, s2⟩ | ⟨u2, s2⟩
  · omega
  · rw [u1] at u2; cases u2
  · rw [u1] at u2; cases u2
  · omega
theorem Lb.ws_map (hx : Tr.ok xs = true) (hy : Tr.ok ys = true) : ∀ M : Tr, (∀ e ∈ M, (0 ≤ e.1 ∧ e.1 < xs.length) ∧ 0 ≤ e.2 ∧ e.2 < ys.length) → Lb.ws xs ys k (M.map (Lb.f xs ys)) = Bm.ws xs ys k M
  | [], _ => rfl
  | e :: M, h => by
    have ih := Lb.ws_map hx hy M (fun x hx => h x (List.mem_cons_of_mem _ hx))
    have he := h e List.mem_cons_self
    have l1 : Tr.xa xs (Tr.rk xs e.1.toNat) = Tr.l xs e.1.toNat := by
      have := (Tr.nd_at hx (Tr.rk_lt hx (show e.1.toNat < xs.length by omega))).2.2.2
      rw [Tr.nd_rk hx (by omega)] at this
      exact this
    have l2 : Tr.xa ys (Tr.rk ys e.2.toNat) = Tr.l ys e.2.toNat := by
      have := (Tr.nd_at hy (Tr.rk_lt hy (show e.2.toNat < ys.length by omega))).2.2.2
      rw [Tr.nd_rk hy (by omega)] at this
      exact this
    rw [List.map_cons, Lb.ws, ih, Bm.ws]
    unfold Lb.w Bm.w Lb.f
    dsimp only
    rw [l1, l2]
theorem Tr.rk_root (hx : Tr.ok xs = true) {a : Nat} (h0 : 0 < a) (ha : a < xs.length) : Tr.rk xs a < xs.length - 1 := by
  have h := Tr.rk_under hx (i := 0) (by omega) h0 (by rw [Tr.endN_zero hx]; exact ha)
  rw [show Tr.rk xs 0 = xs.length - 1 by unfold Tr.rk; rw [Tr.endN_zero hx, Tr.dn_zero hx]; omega] at h
  exact h
/-- nothing that belongs together, root to root, costs less than the distance -/
theorem Lb.root {M : Tr} (h : Mp.ok xs ys M = true) (hr : Tr.rooted M = true) (hk : Co.ok k = true) : Tr.rootDist xs ys k ≤ Mp.cost xs ys k M := by
  obtain ⟨hx, hy, h3, h4⟩ := Mp.ok_iff.1 h
  have x1 := (Tr.len24 hx).1
  have y1 := (Tr.len24 hy).1
  obtain ⟨M', rfl⟩ : ∃ M', M = (0, 0) :: M' := by
    cases M with
    | nil => simp [Tr.rooted] at hr
    | cons e M' =>
      refine ⟨M', ?_⟩
      obtain ⟨a, b⟩ := e
      simp [Tr.rooted, Tr.l, Tr.d] at hr
      obtain ⟨rfl, rfl⟩ := hr
      rfl
  have hb : ∀ e ∈ M', (0 ≤ e.1 ∧ e.1 < xs.length) ∧ 0 ≤ e.2 ∧ e.2 < ys.length := fun e he => by
    have a := (Tr.has_iff.1 (h3 e (List.mem_cons_of_mem _ he)).1).2
    have b := (Tr.has_iff.1 (h3 e (List.mem_cons_of_mem _ he)).2).2
    exact ⟨a, b⟩
  obtain ⟨p1, p2⟩ := List.pairwise_cons.1 h4
  have hw := Bm.part_ws (k := k) h _ (Nat.le_refl _)
  rw [List.take_length] at hw
  have lo := Lb.low (k := k) hx hy (xs.length - 1 - 0 + (ys.length - 1 - 0) + 1) 0 (xs.length - 1) 0 (ys.length - 1) (M'.map (Lb.f xs ys)) (by omega) (by omega) (by omega) (by omega) (by omega)
    (List.pairwise_map.2 (p2.imp_of_mem fun ha hb' r => Lb.pair hx hy r (hb _ ha).1.1 (hb _ ha).2.1 (hb _ hb').1.2 (hb _ hb').2.2))
    (fun e he => by
      obtain ⟨u, hu, rfl⟩ := List.mem_map.1 he
      have := p1 u hu
      have b := hb u hu
      have r1 := this.1
      have r2 := this.2.1
      dsimp only at r1 r2
      have q1 := Tr.rk_root hx (a := u.1.toNat) (by omega) (by omega)
      have q2 := Tr.rk_root hy (a := u.2.toNat) (by omega) (by omega)
      unfold Lb.f
      dsimp only
      omega)
  rw [Lb.ws_map hx hy M' hb] at lo
  unfold Mp.cost Tr.rootDist
  rw [h, hk, hx, hy, hw]
  simp only [Bool.and_self, if_true]
  rw [Mp.part_zero, sum_post hx, sum_post hy]
  have s1 := Bm.sx_succ (xs := xs) (Co.del k) 0 xs.length (by omega)
  have s2 := Bm.sx_succ (xs := ys) (Co.ins k) 0 ys.length (by omega)
  unfold Bm.sx at s1 s2 lo
  simp only [Mp.sum] at s1 s2 lo
  have t1 := Tr.xa_last hx
  have t2 := Tr.xa_last hy
  simp only [Bm.ws, Bm.w]
  rw [t1] at s1
  rw [t2] at s2
  simp only [Int.toNat_zero]
  omega
end

end Go.Proofs.Ytnfjdlocmdgefaa

/- Contracts (Am). -/
namespace Go.Proofs.Ytnfjdlocmdgefaa
open Go.RowKit
set_option linter.unusedVariables false

/-- all ways to go on with the last r nodes -/
def Am.more (xs ys : Tr) : Nat → Tr → List Tr
  | 0, m => [m]
  | r + 1, m => Am.more xs ys r m ++ (List.range (ys.length - 1)).flatMap fun q => if Mp.ok xs ys (m ++ [(((xs.length - (r + 1) : Nat) : Int), ((q + 1 : Nat) : Int))]) then Am.more xs ys r (m ++ [(((xs.length - (r + 1) : Nat) : Int), ((q + 1 : Nat) : Int))]) else []
def Am.all (xs ys : Tr) : List Tr := if Tr.ok xs && Tr.ok ys && decide (xs.length ≤ 5) && decide (ys.length ≤ 5) then Am.more xs ys (xs.length - 1) [(0, 0)] else []
section
variable {xs ys : Tr}
theorem Am.more_ok : ∀ (r : Nat) (m : Tr), Mp.ok xs ys m = true → ∀ L ∈ Am.more xs ys r m, Mp.ok xs ys L = true ∧ ∃ Z, L = m ++ Z
  | 0, m, h, L, hL => by
    obtain rfl := List.mem_singleton.1 hL
    exact ⟨h, [], by simp⟩
  | r + 1, m, h, L, hL => by
    rcases List.mem_append.1 hL with hL | hL
    · exact Am.more_ok r m h L hL
    · obtain ⟨q, _, hq⟩ := List.mem_flatMap.1 hL
      by_cases c : Mp.ok xs ys (m ++ [(((xs.length - (r + 1) : Nat) : Int), ((q + 1 : Nat) : Int))]) = true
      · rw [if_pos c] at hq
        obtain ⟨h1, Z, rfl⟩ := Am.more_ok r _ c L hq
        exact ⟨h1, _, List.append_assoc _ _ _⟩
      · rw [if_neg c] at hq
        cases hq
theorem Am.more_len (hy : 1 ≤ ys.length) : ∀ (r : Nat) (m : Tr), 1 ≤ (Am.more xs ys r m).length ∧ (Am.more xs ys r m).length ≤ ys.length ^ r
  | 0, m => by simp [Am.more]
  | r + 1, m => by
    have ih := Am.more_len hy r
    have fl : ∀ l : List Nat, (l.flatMap fun q => if Mp.ok xs ys (m ++ [(((xs.length - (r + 1) : Nat) : Int), ((q + 1 : Nat) : Int))]) then Am.more xs ys r (m ++ [(((xs.length - (r + 1) : Nat) : Int), ((q + 1 : Nat) : Int))]) else []).length ≤ l.length * ys.length ^ r := fun l => by
      induction l with
      | nil => simp
      | cons q l il =>
        rw [List.flatMap_cons, List.length_append, List.length_cons, Nat.succ_mul]
        split
        · have := (ih (m ++ [(((xs.length - (r + 1) : Nat) : Int), ((q + 1 : Nat) : Int))])).2
          omega
        · simp only [List.length_nil]; omega
    have f := fl (List.range (ys.length - 1))
    have g := ih m
    rw [List.length_range] at f
    rw [Am.more, List.length_append]
    refine ⟨by omega, ?_⟩
    have e : ys.length ^ (r + 1) = (ys.length - 1) * ys.length ^ r + ys.length ^ r := by
      rw [← Nat.succ_mul, show (ys.length - 1).succ = ys.length by omega, Nat.pow_succ, Nat.mul_comm]
    omega
theorem Am.filter_ok {M : Tr} (h : Mp.ok xs ys M = true) (f : Int × Int → Bool) : Mp.ok xs ys (M.filter f) = true := by
  obtain ⟨h1, h2, h3, h4⟩ := Mp.ok_iff.1 h
  exact Mp.ok_iff.2 ⟨h1, h2, fun e he => h3 e (List.mem_filter.1 he).1, h4.filter _⟩
/-- each one that is valid, root to root, is among them -/
theorem Am.more_has {M : Tr} (h : Mp.ok xs ys M = true) (hp : ∀ e ∈ M, e = (0, 0) ∨ 0 < e.1 ∧ 0 < e.2) : ∀ (r : Nat), r < xs.length → M ∈ Am.more xs ys r (M.filter fun e => decide (e.1 < ((xs.length - r : Nat) : Int)))
  | 0, hr => by
    obtain ⟨_, _, h3, _⟩ := Mp.ok_iff.1 h
    have e : (M.filter fun e => decide (e.1 < ((xs.length - 0 : Nat) : Int))) = M := List.filter_eq_self.2 (fun e he => by
      have := (Tr.has_iff.1 (h3 e he).1).2
      simp only [decide_eq_true_eq]
      omega)
    rw [e]
    exact List.mem_singleton.2 rfl
  | r + 1, hr => by
    have ih := Am.more_has h hp r (by omega)
    obtain ⟨_, _, h3, h4⟩ := Mp.ok_iff.1 h
    have asc : M.Pairwise fun e e' => e.1 < e'.1 := h4.imp fun h => h.1
    have sp := asc_split asc (xs.length - (r + 1))
    rw [show xs.length - (r + 1) + 1 = xs.length - r by omega] at sp
    rw [← sp] at ih
    rw [Am.more]
    rcases one_key asc ((xs.length - (r + 1) : Nat) : Int) with k | ⟨x, k⟩
    · rw [k, List.append_nil] at ih
      exact List.mem_append.2 (.inl ih)
    · rw [k] at ih sp
      have hx : x ∈ M.filter fun e => decide (e.1 = ((xs.length - (r + 1) : Nat) : Int)) := by rw [k]; exact List.mem_singleton.2 rfl
      obtain ⟨hm, hz⟩ := List.mem_filter.1 hx
      have he : x.1 = ((xs.length - (r + 1) : Nat) : Int) := by simpa using hz
      clear hz
      have hd := (Tr.has_iff.1 (h3 x hm).2).2
      have hpos : 0 < x.2 := by
        rcases hp x hm with e | e
        · rw [e] at he
          dsimp only at he
          omega
        · exact e.2
      obtain ⟨x1, x2⟩ := x
      dsimp only at he hd hpos
      obtain ⟨v, rfl⟩ := Int.eq_ofNat_of_zero_le hd.1
      refine List.mem_append.2 (.inr (List.mem_flatMap.2 ⟨v - 1, List.mem_range.2 (by omega), ?_⟩))
      have he' : x1 = ((xs.length - (r + 1) : Nat) : Int) := he
      clear he
      subst he'
      rw [show v - 1 + 1 = v by omega]
      rw [if_pos (by rw [sp]; exact Am.filter_ok h _)]
      exact ih
theorem Am.has {M : Tr} (h : Mp.ok xs ys M = true) (hr : Tr.rooted M = true) : M ∈ Am.more xs ys (xs.length - 1) [(0, 0)] := by
  obtain ⟨hx, hy, h3, h4⟩ := Mp.ok_iff.1 h
  have x1 := (Tr.len24 hx).1
  obtain ⟨M', rfl⟩ : ∃ M', M = (0, 0) :: M' := by
    cases M with
    | nil => simp [Tr.rooted] at hr
    | cons e M' =>
      refine ⟨M', ?_⟩
      obtain ⟨a, b⟩ := e
      simp [Tr.rooted, Tr.l, Tr.d] at hr
      obtain ⟨rfl, rfl⟩ := hr
      rfl
  obtain ⟨p1, p2⟩ := List.pairwise_cons.1 h4
  have g := Am.more_has h (fun e he => by
    rcases List.mem_cons.1 he with e | e
    · exact .inl e
    · exact .inr ⟨(p1 _ e).1, (p1 _ e).2.1⟩) (xs.length - 1) (by omega)
  have e : ((0, 0) :: M').filter (fun e => decide (e.1 < ((xs.length - (xs.length - 1) : Nat) : Int))) = [((0 : Int), (0 : Int))] := by
    rw [show xs.length - (xs.length - 1) = 1 by omega, List.filter_cons_of_pos (by decide)]
    congr 1
    refine List.filter_eq_nil_iff.2 (fun e he => ?_)
    have := (p1 e he).1
    dsimp only at this
    simp only [decide_eq_true_eq]
    omega
  rw [e] at g
  exact g
end

end Go.Proofs.Ytnfjdlocmdgefaa

/- Contracts (Exu). -/
namespace Go.Proofs.Ytnfjdlocmdgefaa
open Go.RowKit
set_option linter.unusedVariables false


section
variable {xs ys ms : Tr} {a b : Int}
theorem Tr.l_snoc {k : Nat} (p : Int × Int) (h : k < ms.length) : Tr.l (ms ++ [p]) k = Tr.l ms k := by
  simp only [Tr.l, List.getD_eq_getElem?_getD, List.getElem?_append_left h]
theorem Tr.d_snoc {k : Nat} (p : Int × Int) (h : k < ms.length) : Tr.d (ms ++ [p]) k = Tr.d ms k := by
  simp only [Tr.d, List.getD_eq_getElem?_getD, List.getElem?_append_left h]
theorem Tr.l_last (p : Int × Int) : Tr.l (ms ++ [p]) ms.length = p.1 := by simp [Tr.l]
theorem Tr.d_last (p : Int × Int) : Tr.d (ms ++ [p]) ms.length = p.2 := by simp [Tr.d]
theorem Mp.at_snoc {k : Nat} (p : Int × Int) (h : k < ms.length) (a b : Int) : Mp.at xs ys (ms ++ [p]) a b k = Mp.at xs ys ms a b k := by
  unfold Mp.at; rw [Tr.l_snoc p h, Tr.d_snoc p h]
theorem all_range_congr {f g : Nat → Bool} {n : Nat} (h : ∀ k, k < n → f k = g k) : (List.range n).all f = (List.range n).all g := by
  rw [Bool.eq_iff_iff]
  simp only [List.all_eq_true, List.mem_range]
  exact ⟨fun q k hk => (h k hk) ▸ q k hk, fun q k hk => (h k hk).symm ▸ q k hk⟩
theorem Mp.after_snoc {n : Nat} (p : Int × Int) (h : n ≤ ms.length) (a b : Int) : Mp.after xs ys (ms ++ [p]) n a b = Mp.after xs ys ms n a b :=
  all_range_congr fun k hk => Mp.at_snoc p (by omega) a b
theorem Mp.okAt_snoc {k : Nat} (p : Int × Int) (h : k < ms.length) : Mp.okAt xs ys (ms ++ [p]) k = Mp.okAt xs ys ms k := by
  unfold Mp.okAt; rw [Tr.l_snoc p h, Tr.d_snoc p h, Mp.after_snoc p (by omega)]
theorem Mp.ok_snoc (h : Mp.ok xs ys ms = true) (ha : Tr.has xs a = true) (hb : Tr.has ys b = true) : Mp.ok xs ys (ms ++ [(a, b)]) = Mp.after xs ys ms ms.length a b := by
  have h' := h
  unfold Mp.ok at h'
  simp only [Bool.and_eq_true] at h'
  unfold Mp.ok
  rw [h'.1.1, h'.1.2, List.length_append, List.length_singleton, List.range_succ, List.all_append, all_range_congr (fun k hk => Mp.okAt_snoc (a, b) hk), h'.2]
  simp only [List.all_cons, List.all_nil, Bool.and_true, Bool.true_and]
  unfold Mp.okAt
  rw [Tr.l_last, Tr.d_last, Mp.after_snoc _ (Nat.le_refl _), ha, hb, Bool.true_and, Bool.true_and]
/-- no node goes with the root of the second tree once the roots are a pair -/
theorem Mp.after_root (h : 1 ≤ ms.length) (h0 : Tr.d ms 0 = 0) : Mp.after xs ys ms ms.length a 0 = false := by
  refine Mp.after_no (k := 0) (by omega) ?_
  unfold Mp.at
  rw [h0]
  simp
end
/-- what the nodes 1 .. y - 1 of the second tree give for one node of the first -/
def Am.upto (xs ys : Tr) (r : Nat) (m : Tr) (y : Nat) : List Tr :=
  (List.range (y - 1)).flatMap fun q => if Mp.ok xs ys (m ++ [(((xs.length - (r + 1) : Nat) : Int), ((q + 1 : Nat) : Int))]) then Am.more xs ys r (m ++ [(((xs.length - (r + 1) : Nat) : Int), ((q + 1 : Nat) : Int))]) else []
section
variable {xs ys m : Tr} {r : Nat}
theorem Am.upto_zero : Am.upto xs ys r m 0 = [] := rfl
theorem Am.upto_one : Am.upto xs ys r m 1 = [] := rfl
theorem Am.upto_succ {y : Nat} (h : 1 ≤ y) : Am.upto xs ys r m (y + 1) = Am.upto xs ys r m y ++ if Mp.ok xs ys (m ++ [(((xs.length - (r + 1) : Nat) : Int), (y : Int))]) then Am.more xs ys r (m ++ [(((xs.length - (r + 1) : Nat) : Int), (y : Int))]) else [] := by
  obtain ⟨q, rfl⟩ : ∃ q, y = q + 1 := ⟨y - 1, by omega⟩
  unfold Am.upto
  rw [show q + 1 + 1 - 1 = q + 1 by omega, show q + 1 - 1 = q by omega, List.range_succ, List.flatMap_append]
  simp
theorem Am.more_upto : Am.more xs ys (r + 1) m = Am.more xs ys r m ++ Am.upto xs ys r m ys.length := rfl
theorem Am.upto_pre : ∀ (y d : Nat), Am.upto xs ys r m y <+: Am.upto xs ys r m (y + d)
  | y, 0 => List.prefix_refl _
  | y, d + 1 => by
    refine (Am.upto_pre y d).trans ?_
    rcases Nat.eq_zero_or_pos (y + d) with h | h
    · rw [show y + (d + 1) = 1 by omega, h, Am.upto_zero]; exact List.nil_prefix
    · rw [show y + (d + 1) = (y + d) + 1 by omega, Am.upto_succ h]; exact List.prefix_append _ _
end

end Go.Proofs.Ytnfjdlocmdgefaa
