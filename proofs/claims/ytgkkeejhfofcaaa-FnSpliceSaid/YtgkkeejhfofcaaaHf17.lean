/- Texts of one claim laid into one file, in build order: Ops, Opp, Pth, AppG. -/
import Derived.Test.YtgkkeejhfofcaaaHf16
import Derived.Test.YtgkkeejhfofcaaaHf2
import Derived.Laws.AppendOwnNone
/- Contracts (Ops). -/
namespace Go.Proofs.Ytgkkeejhfofcaaa
open Go.RowKit
set_option linter.unusedVariables false


/-! A node that was put in, taken out again; paths. -/
theorem Oc.at_end {xs : Tr} (hok : Tr.ok xs = true) {i t : Nat} (hi : i < xs.length) (ht : Tr.bound xs i t) : t < xs.length → Tr.d xs t ≤ Tr.d xs i + 1 := fun h => by
  obtain ⟨e1, e2, e3, e4⟩ := Tr.endN_spec xs i hi
  have t2 := ht.2.1
  by_cases c : t < Tr.endN xs i
  · have := ht.2.2 c
    have := Tr.dn_eq hok h
    have := Tr.dn_eq hok hi
    omega
  · have hee : Tr.endN xs i = t := by omega
    rw [hee] at e4
    have := e4.resolve_left (by omega)
    omega
section
variable {xs : Tr} (hok : Tr.ok xs = true) {i f t : Nat} {a : Int} (hi : i < xs.length) (hf : Tr.bound xs i f) (ht : Tr.bound xs i t) (hft : f ≤ t)
include hok hi hf ht hft
theorem Oc.ins_end : Tr.endN (Oc.ins xs i a f t) f = t + 1 := by
  obtain ⟨e1, e2, e3, e4⟩ := Tr.endN_spec xs i hi
  have f1 := hf.1
  have t2 := ht.2.1
  have tn : t ≤ xs.length := by omega
  have hl := Oc.ins_len (xs := xs) (i := i) (a := a) hft tn
  have df : Tr.d (Oc.ins xs i a f t) f = Tr.d xs i + 1 := by rw [Oc.ins_d hft tn (by omega), if_neg (Nat.lt_irrefl _), if_pos rfl]
  refine Tr.endN_is (by omega) (by omega) (fun j h1 h2 => ?_) ?_
  · rw [df, Oc.ins_d hft tn (by omega), if_neg (by omega), if_neg (by omega), if_pos (by omega)]
    have := e3 (j - 1) (by omega) (by omega)
    omega
  · rcases Nat.lt_or_ge t xs.length with h | h
    · refine .inr ?_
      rw [df, Oc.ins_d hft tn (by omega), if_neg (by omega), if_neg (by omega), if_neg (by omega), show t + 1 - 1 = t by omega]
      exact Oc.at_end hok hi ht h
    · exact .inl (by omega)
theorem Oc.del_ins : Oc.del (Oc.ins xs i a f t) f = xs := by
  obtain ⟨e1, e2, e3, e4⟩ := Tr.endN_spec xs i hi
  have f1 := hf.1
  have t2 := ht.2.1
  have tn : t ≤ xs.length := by omega
  have hl := Oc.ins_len (xs := xs) (i := i) (a := a) hft tn
  have he := Oc.ins_end (a := a) hok hi hf ht hft
  have hf' : f < (Oc.ins xs i a f t).length := by omega
  refine Tr.ext (by rw [Oc.del_len hf', hl]; omega) (fun k hk => ?_)
  rw [Oc.del_len hf', hl] at hk
  rw [Oc.del_l hf' (by omega), Oc.del_d hf' (by omega), he]
  by_cases c : k < f
  · rw [if_pos c, if_pos c, Oc.ins_l hft tn (by omega), Oc.ins_d hft tn (by omega), if_pos c, if_pos c]
    exact ⟨rfl, rfl⟩
  · have hL := Oc.ins_l (xs := xs) (i := i) (a := a) (k := k + 1) hft tn (by omega)
    have hD := Oc.ins_d (xs := xs) (i := i) (a := a) (k := k + 1) hft tn (by omega)
    rw [if_neg (by omega), if_neg (by omega), show k + 1 - 1 = k by omega] at hL
    rw [if_neg (by omega), if_neg (by omega), show k + 1 - 1 = k by omega] at hD
    rw [if_neg c, if_neg c, hL, hD]
    refine ⟨rfl, ?_⟩
    by_cases ct : k + 1 < t + 1
    · rw [if_pos ct, if_pos (by omega)]; omega
    · rw [if_neg ct, if_neg (by omega)]
theorem Oc.ins_near (hoy : Tr.ok (Oc.ins xs i a f t) = true) : Tr.rootDist xs (Oc.ins xs i a f t) Co.unit ≤ 1 := by
  have f1 := hf.1
  have t2 := ht.2.1
  have e2 := (Tr.endN_spec xs i hi).2.1
  have hl := Oc.ins_len (xs := xs) (i := i) (a := a) hft (show t ≤ xs.length by omega)
  have := (Oc.del_near hoy (i := f) (by omega) (by omega)).2
  rwa [Oc.del_ins hok hi hf ht hft] at this
end
/-! paths -/
def Tr.walk (xs : Tr) : Nat → List Int → Int
  | i, [] => i
  | i, x :: p => if 0 ≤ x ∧ x < (Tr.kidsTo xs i (Tr.endN xs i)).length then Tr.walk xs ((Tr.kidsTo xs i (Tr.endN xs i)).getD x.toNat 0) p else -1
def Tr.nodeAt (xs : Tr) (p : List Int) : Int := if Tr.ok xs then Tr.walk xs 0 p else -1
section
variable {xs ys : Tr} (hok : Tr.ok xs = true)
include hok
theorem Tr.walk_range : ∀ (p : List Int) (i : Nat), i < xs.length → Tr.walk xs i p = -1 ∨ ∃ r : Nat, Tr.walk xs i p = r ∧ i ≤ r ∧ r < xs.length
  | [], i, hi => .inr ⟨i, rfl, Nat.le_refl _, hi⟩
  | x :: p, i, hi => by
    unfold Tr.walk
    by_cases c : 0 ≤ x ∧ x < (Tr.kidsTo xs i (Tr.endN xs i)).length
    · rw [if_pos c]
      obtain ⟨h1, h2, h3⟩ := Tr.cut_bound hok hi x.toNat (by omega)
      obtain ⟨h4, h5⟩ := h3 (by omega)
      rw [h5]
      have e2 := (Tr.endN_spec xs i hi).2.1
      rcases Tr.walk_range p (Tr.cut xs i x.toNat) (by omega) with h | ⟨r, hr, h6, h7⟩
      · exact .inl h
      · exact .inr ⟨r, hr, by have := h1.1; omega, h7⟩
    · rw [if_neg c]; exact .inl rfl
/-- where two trees agree up to a node, the same path leads to it -/
theorem Tr.walk_agree {q : Nat} (hq : q ≤ xs.length) (hqy : q ≤ ys.length) (hd : ∀ m, m < q → Tr.d xs m = Tr.d ys m) : ∀ (p : List Int) (i r : Nat), i < xs.length → Tr.walk xs i p = r → r < q → Tr.walk ys i p = r
  | [], i, r, hi, h, hr => h
  | x :: p, i, r, hi, h, hr => by
    unfold Tr.walk at h ⊢
    by_cases c : 0 ≤ x ∧ x < (Tr.kidsTo xs i (Tr.endN xs i)).length
    · rw [if_pos c] at h
      obtain ⟨h1, h2, h3⟩ := Tr.cut_bound hok hi x.toNat (by omega)
      obtain ⟨h4, h5⟩ := h3 (by omega)
      rw [h5] at h
      have e2 := (Tr.endN_spec xs i hi).2.1
      have hb := h1.1
      rcases Tr.walk_range hok p (Tr.cut xs i x.toNat) (by omega) with e | ⟨r', hr', h6, h7⟩
      · rw [e] at h; omega
      · rw [hr'] at h
        obtain rfl : r' = r := by omega
        obtain ⟨b, hbe⟩ : ∃ b, b = Tr.cut xs i x.toNat := ⟨_, rfl⟩
        rw [← hbe] at h1 h2 h4 h5 hr' h6 hb
        -- b is a kid of i in both, after the same kids
        have hby : b < Tr.endN ys i := by
          refine (Tr.in_iff hb (by omega)).2 (fun m h8 h9 => ?_)
          rw [← hd i (by omega), ← hd m (by omega)]
          exact (Tr.endN_spec xs i hi).2.2.1 m h8 (by omega)
        have same : ∀ m, m ≤ b + 1 → Tr.kidsTo xs i m = Tr.kidsTo ys i m := fun m hm => by
          unfold Tr.kidsTo
          refine List.filter_congr (fun j hj => ?_)
          rw [List.mem_range] at hj
          rw [hd j (by omega), hd i (by omega)]
        obtain ⟨s, hs⟩ := Tr.kid_next hok hi h1 h4
        have k1 : Tr.kidsTo xs i (b + 1) = Tr.kidsTo xs i b ++ [b] := Tr.kids_in hok hi h1 h4 (Nat.lt_succ_self _) (by have := (Tr.endN_spec xs b (by omega)).1; omega)
        obtain ⟨s', hs'⟩ := Tr.kidsTo_more ys i (b + 1) (Tr.endN ys i) hby
        rw [← same _ (Nat.le_refl _), k1] at hs'
        have hlen : x.toNat < (Tr.kidsTo ys i (Tr.endN ys i)).length := by rw [hs', List.length_append, List.length_append, h2]; simp; omega
        have hget : (Tr.kidsTo ys i (Tr.endN ys i)).getD x.toNat 0 = b := by
          rw [hs', ← h2]
          simp [List.getD_eq_getElem?_getD]
        rw [if_pos (by omega), hget]
        exact Tr.walk_agree hq hqy hd p b r' (by omega) hr' hr
    · rw [if_neg c] at h; omega
theorem Tr.walk_snoc : ∀ (p : List Int) (i r : Nat) (x : Int), i < xs.length → Tr.walk xs i p = r → Tr.walk xs i (p ++ [x]) = Tr.walk xs r [x]
  | [], i, r, x, hi, h => by
    have h' : (i : Int) = (r : Int) := h
    have : i = r := by omega
    rw [this]; rfl
  | y :: p, i, r, x, hi, h => by
    rw [List.cons_append, Tr.walk]
    rw [Tr.walk] at h
    by_cases c : 0 ≤ y ∧ y < (Tr.kidsTo xs i (Tr.endN xs i)).length
    · rw [if_pos c] at h ⊢
      obtain ⟨h1, h2, h3⟩ := Tr.cut_bound hok hi y.toNat (by omega)
      obtain ⟨h4, h5⟩ := h3 (by omega)
      have e2 := (Tr.endN_spec xs i hi).2.1
      refine Tr.walk_snoc p _ r x (by rw [h5]; omega) h
    · rw [if_neg c] at h; omega
end
/-- how many nodes from f up to t stand at depth d -/
def Tr.cnt (xs : Tr) (d : Int) (f t : Nat) : Nat := ((List.range (t - f)).filter fun j => decide (Tr.d xs (f + j) = d)).length
theorem Tr.cnt_succ (xs : Tr) (d : Int) {f t : Nat} (h : f ≤ t) : Tr.cnt xs d f (t + 1) = Tr.cnt xs d f t + if Tr.d xs t = d then 1 else 0 := by
  unfold Tr.cnt
  rw [show t + 1 - f = (t - f) + 1 by omega, List.range_succ, List.filter_append, List.length_append, show (List.filter (fun j => decide (Tr.d xs (f + j) = d)) [t - f]).length = if Tr.d xs t = d then 1 else 0 by
    rw [List.filter_cons, show f + (t - f) = t by omega]
    split <;> simp_all]
theorem Tr.cnt_nil (xs : Tr) (d : Int) (f : Nat) : Tr.cnt xs d f f = 0 := by simp [Tr.cnt]
theorem Tr.kids_cnt (xs : Tr) (i : Nat) : ∀ k, i < k → (Tr.kidsTo xs i k).length = Tr.cnt xs (Tr.d xs i + 1) (i + 1) k
  | 0, h => absurd h (Nat.not_lt_zero _)
  | k + 1, h => by
    rcases Nat.lt_or_ge i k with c | c
    · rw [Tr.kidsTo_succ xs i k c, Tr.cnt_succ xs _ (by omega), ← Tr.kids_cnt xs i k c]
      split <;> simp
    · obtain rfl : i = k := by omega
      rw [Tr.kidsTo_start, Tr.cnt_nil]; rfl
theorem Tr.cnt_split (xs : Tr) (d : Int) {f t : Nat} (h : f ≤ t) : ∀ u, t ≤ u → Tr.cnt xs d f u = Tr.cnt xs d f t + Tr.cnt xs d t u
  | 0, h' => by
    obtain rfl : t = 0 := by omega
    rw [Tr.cnt_nil]; omega
  | u + 1, h' => by
    rcases Nat.lt_or_ge t (u + 1) with c | c
    · rw [Tr.cnt_succ xs d (by omega), Tr.cnt_succ xs d (by omega), Tr.cnt_split xs d h u (by omega)]
      omega
    · obtain rfl : t = u + 1 := by omega
      rw [Tr.cnt_nil]; omega
theorem Tr.cnt_congr {xs ys : Tr} {d d' : Int} {f t f' : Nat} : ∀ (h : ∀ k, k < t - f → (Tr.d xs (f + k) = d ↔ Tr.d ys (f' + k) = d')), Tr.cnt xs d f t = Tr.cnt ys d' f' (f' + (t - f)) := fun h => by
  unfold Tr.cnt
  rw [show f' + (t - f) - f' = t - f by omega]
  congr 1
  refine List.filter_congr (fun j hj => ?_)
  rw [List.mem_range] at hj
  simp only [h j hj]
section
variable {xs : Tr} (hok : Tr.ok xs = true) {i q c : Nat} {a : Int} (hi : i < xs.length) (hq : q + c ≤ (Tr.kidsTo xs i (Tr.endN xs i)).length) (hoy : Tr.ok (Oc.ins xs i a (Tr.cut xs i q) (Tr.cut xs i (q + c))) = true)
include hok hi hq hoy
/-- a node put in as kid q with c kids: where it is, what it has, what its parent has, what is left when it goes -/
theorem Oc.splice {p : List Int} (hp : Tr.nodeAt xs p = i) :
    Tr.nodeAt (Oc.ins xs i a (Tr.cut xs i q) (Tr.cut xs i (q + c))) p = i ∧
    Tr.nodeAt (Oc.ins xs i a (Tr.cut xs i q) (Tr.cut xs i (q + c))) (p ++ [(q : Int)]) = Tr.cut xs i q ∧
    Tr.cut xs i q < (Oc.ins xs i a (Tr.cut xs i q) (Tr.cut xs i (q + c))).length ∧ 0 < Tr.cut xs i q ∧
    Tr.l (Oc.ins xs i a (Tr.cut xs i q) (Tr.cut xs i (q + c))) (Tr.cut xs i q) = a ∧
    (Tr.kidsTo (Oc.ins xs i a (Tr.cut xs i q) (Tr.cut xs i (q + c))) (Tr.cut xs i q) (Tr.endN (Oc.ins xs i a (Tr.cut xs i q) (Tr.cut xs i (q + c))) (Tr.cut xs i q))).length = c ∧
    (Tr.kidsTo (Oc.ins xs i a (Tr.cut xs i q) (Tr.cut xs i (q + c))) i (Tr.endN (Oc.ins xs i a (Tr.cut xs i q) (Tr.cut xs i (q + c))) i)).length + c = (Tr.kidsTo xs i (Tr.endN xs i)).length + 1 := by
  obtain ⟨bf, lf, _⟩ := Tr.cut_bound hok hi q (by omega)
  obtain ⟨bt, lt, _⟩ := Tr.cut_bound hok hi (q + c) hq
  have hft := Tr.cut_mono hok hi (q := q) (r := q + c) (by omega) hq
  obtain ⟨f, hfe⟩ : ∃ f, f = Tr.cut xs i q := ⟨_, rfl⟩
  obtain ⟨t, hte⟩ : ∃ t, t = Tr.cut xs i (q + c) := ⟨_, rfl⟩
  rw [← hfe] at bf lf hft hoy ⊢
  rw [← hte] at bt lt hft hoy ⊢
  clear hfe hte
  obtain ⟨e1, e2, e3, e4⟩ := Tr.endN_spec xs i hi
  have f1 := bf.1
  have t2 := bt.2.1
  have tn : t ≤ xs.length := by omega
  obtain ⟨ys, hys⟩ : ∃ ys, ys = Oc.ins xs i a f t := ⟨_, rfl⟩
  have hl := Oc.ins_len (xs := xs) (i := i) (a := a) hft tn
  have D := fun k (hk : k < xs.length + 1) => Oc.ins_d (xs := xs) (i := i) (a := a) hft tn hk
  have L := fun k (hk : k < xs.length + 1) => Oc.ins_l (xs := xs) (i := i) (a := a) hft tn hk
  have hend := Oc.ins_end (a := a) hok hi bf bt hft
  rw [← hys] at hl D L hend hoy ⊢
  have df : Tr.d ys f = Tr.d xs i + 1 := by rw [D f (by omega), if_neg (Nat.lt_irrefl _), if_pos rfl]
  have di : Tr.d ys i = Tr.d xs i := by rw [D i (by omega), if_pos (by omega)]
  -- where i ends now
  have hie : Tr.endN ys i = Tr.endN xs i + 1 := by
    refine Tr.endN_is (by omega) (by omega) (fun j h1 h2 => ?_) ?_
    · rw [di, D j (by omega)]
      by_cases c1 : j < f
      · rw [if_pos c1]; exact e3 j h1 (by omega)
      · rw [if_neg c1]
        by_cases c2 : j = f
        · rw [if_pos c2]; omega
        · have := e3 (j - 1) (by omega) (by omega)
          rw [if_neg c2]
          split <;> omega
    · rcases Nat.lt_or_ge (Tr.endN xs i) xs.length with h | h
      · refine .inr ?_
        have := e4.resolve_left (by omega)
        rw [di, D _ (by omega), if_neg (by omega), if_neg (by omega), if_neg (by omega), show Tr.endN xs i + 1 - 1 = Tr.endN xs i by omega]
        exact this
      · exact .inl (by omega)
  have agree : ∀ m, m < f → Tr.d xs m = Tr.d ys m := fun m hm => by rw [D m (by omega), if_pos hm]
  have hw : Tr.walk xs 0 p = i := by unfold Tr.nodeAt at hp; rwa [if_pos hok] at hp
  have n1 := Tr.len24 hok
  have hwy : Tr.walk ys 0 p = i := Tr.walk_agree hok (q := f) (by omega) (by omega) agree p 0 i (by omega) hw f1
  have same : Tr.kidsTo ys i f = Tr.kidsTo xs i f := by
    unfold Tr.kidsTo
    refine List.filter_congr (fun j hj => ?_)
    rw [List.mem_range] at hj
    rw [agree j hj, agree i f1]
  have kf : Tr.kidsTo ys i (f + 1) = Tr.kidsTo xs i f ++ [f] := by
    rw [Tr.kidsTo_succ ys i f f1, if_pos (by rw [df, di]), same]
  obtain ⟨s, hs⟩ := Tr.kidsTo_more ys i (f + 1) (Tr.endN ys i) (by omega)
  rw [kf] at hs
  have hql : q < (Tr.kidsTo ys i (Tr.endN ys i)).length := by rw [hs, List.length_append, List.length_append, lf]; simp; omega
  have hget : (Tr.kidsTo ys i (Tr.endN ys i)).getD q 0 = f := by rw [hs, ← lf]; simp [List.getD_eq_getElem?_getD]
  have kcx : (Tr.kidsTo xs i (Tr.endN xs i)).length = Tr.cnt xs (Tr.d xs i + 1) (i + 1) (Tr.endN xs i) := Tr.kids_cnt xs i _ e1
  have kct : q + c = Tr.cnt xs (Tr.d xs i + 1) (i + 1) t := by rw [← lt]; exact Tr.kids_cnt xs i _ (by omega)
  have kcf : q = Tr.cnt xs (Tr.d xs i + 1) (i + 1) f := by rw [← lf]; exact Tr.kids_cnt xs i _ f1
  have s1 := Tr.cnt_split xs (Tr.d xs i + 1) (f := i + 1) (t := f) (by omega) t hft
  have s2 := Tr.cnt_split xs (Tr.d xs i + 1) (f := i + 1) (t := t) (by omega) (Tr.endN xs i) t2
  refine ⟨by unfold Tr.nodeAt; rw [if_pos hoy]; exact hwy, ?_, by omega, by omega, by rw [L f (by omega), if_neg (Nat.lt_irrefl _), if_pos rfl], ?_, ?_⟩
  · unfold Tr.nodeAt
    rw [if_pos hoy, Tr.walk_snoc hoy p 0 i q (by omega) hwy, Tr.walk, if_pos (by omega), show ((q : Int)).toNat = q by omega, hget]
    rfl
  · rw [hend, Tr.kids_cnt ys f _ (by omega), df]
    have e : Tr.cnt ys (Tr.d xs i + 1 + 1) (f + 1) (t + 1) = Tr.cnt xs (Tr.d xs i + 1) f (f + (t + 1 - (f + 1))) := Tr.cnt_congr (fun k hk => by
      rw [D _ (by omega), if_neg (by omega), if_neg (by omega), if_pos (by omega), show f + 1 + k - 1 = f + k by omega]
      omega)
    rw [e, show f + (t + 1 - (f + 1)) = t by omega]
    omega
  · rw [hie, Tr.kids_cnt ys i _ (by omega), di]
    have a1 : Tr.cnt ys (Tr.d xs i + 1) (i + 1) f = Tr.cnt xs (Tr.d xs i + 1) (i + 1) (i + 1 + (f - (i + 1))) := Tr.cnt_congr (fun k hk => by rw [agree (i + 1 + k) (by omega)])
    rw [show i + 1 + (f - (i + 1)) = f by omega] at a1
    have a2 : Tr.cnt ys (Tr.d xs i + 1) f (f + 1) = 1 := by rw [Tr.cnt_succ ys _ (Nat.le_refl _), Tr.cnt_nil, if_pos df]
    have a3 : Tr.cnt ys (Tr.d xs i + 1) (f + 1) (t + 1) = 0 := by
      have : ∀ u, f + 1 ≤ u → u ≤ t + 1 → Tr.cnt ys (Tr.d xs i + 1) (f + 1) u = 0 := fun u => by
        induction u with
        | zero => intro h; omega
        | succ u ih =>
          intro h1 h2
          rcases Nat.lt_or_ge f u with c1 | c1
          · rw [Tr.cnt_succ ys _ (by omega), ih (by omega) (by omega), if_neg]
            rw [D u (by omega), if_neg (by omega), if_neg (by omega), if_pos (by omega)]
            have := e3 (u - 1) (by omega) (by omega)
            omega
          · obtain rfl : f = u := by omega
            exact Tr.cnt_nil _ _ _
      exact this (t + 1) (by omega) (Nat.le_refl _)
    have a4 : Tr.cnt ys (Tr.d xs i + 1) (t + 1) (Tr.endN xs i + 1) = Tr.cnt xs (Tr.d xs i + 1) t (t + (Tr.endN xs i + 1 - (t + 1))) := Tr.cnt_congr (fun k hk => by
      rw [D _ (by omega), if_neg (by omega), if_neg (by omega), if_neg (by omega), show t + 1 + k - 1 = t + k by omega])
    rw [show t + (Tr.endN xs i + 1 - (t + 1)) = Tr.endN xs i by omega] at a4
    have b1 := Tr.cnt_split ys (Tr.d xs i + 1) (f := i + 1) (t := f) (by omega) (Tr.endN xs i + 1) (by omega)
    have b2 := Tr.cnt_split ys (Tr.d xs i + 1) (f := f) (t := f + 1) (by omega) (Tr.endN xs i + 1) (by omega)
    have b3 := Tr.cnt_split ys (Tr.d xs i + 1) (f := f + 1) (t := t + 1) (by omega) (Tr.endN xs i + 1) (by omega)
    omega
end

end Go.Proofs.Ytgkkeejhfofcaaa

/- Contracts (Opp). -/
namespace Go.Proofs.Ytgkkeejhfofcaaa
open Go.RowKit
set_option linter.unusedVariables false


/-! The path of a node. -/
def Tr.pathF (xs : Tr) : Nat → Int → List Int
  | 0, _ => []
  | f + 1, i => if Tr.kidRank xs i < 0 then [] else Tr.pathF xs f (Tr.parentOf xs i) ++ [Tr.kidRank xs i]
def Tr.path (xs : Tr) (i : Int) : List Int := Tr.pathF xs xs.length i
theorem Tr.rank_no {xs : Tr} {i : Int} (h : Tr.has xs i = false) : Tr.kidRank xs i = -1 := by
  unfold Tr.kidRank
  rw [if_pos (by unfold Tr.parentOf; rw [h]; simp)]
theorem Tr.path_no {xs : Tr} {i : Int} (h : Tr.has xs i = false) : Tr.path xs i = [] := by
  unfold Tr.path
  cases xs.length with
  | zero => rfl
  | succ f => rw [Tr.pathF, if_pos (by rw [Tr.rank_no h]; decide)]
section
variable {xs : Tr} (hok : Tr.ok xs = true)
include hok
theorem Tr.rank_root : Tr.kidRank xs ((0 : Nat) : Int) < 0 := by
  have n := Tr.len24 hok
  have h := Tr.rank_pos hok (j := 0) (by omega)
  by_cases c : 0 ≤ Tr.kidRank xs ((0 : Nat) : Int)
  · exact absurd (h.1 c) (Nat.lt_irrefl _)
  · omega
theorem Tr.pathF_same : ∀ (f i : Nat), i < xs.length → i ≤ f → Tr.pathF xs f (i : Int) = Tr.pathF xs i (i : Int)
  | 0, i, hi, h => by obtain rfl : i = 0 := by omega
                      rfl
  | f + 1, 0, hi, h => by
    have := Tr.rank_root hok
    show (if Tr.kidRank xs ((0 : Nat) : Int) < 0 then _ else _) = _
    rw [if_pos this]; rfl
  | f + 1, i + 1, hi, h => by
    obtain ⟨p, hp, e, _, _⟩ := Tr.parent_pos hok hi (Nat.succ_pos i)
    rw [Tr.pathF, Tr.pathF, e, Tr.pathF_same f p (by omega) (by omega), Tr.pathF_same i p (by omega) (by omega)]
theorem Tr.path_root : Tr.path xs ((0 : Nat) : Int) = [] := by
  have n := Tr.len24 hok
  unfold Tr.path
  rw [Tr.pathF_same hok _ 0 (by omega) (by omega)]
  rfl
/-- one step up -/
theorem Tr.path_up {i : Nat} (hi : i < xs.length) (h0 : 0 < i) : ∃ p : Nat, p < i ∧ Tr.parentOf xs (i : Int) = p ∧ 0 ≤ Tr.kidRank xs (i : Int) ∧ Tr.path xs (i : Int) = Tr.path xs (p : Int) ++ [Tr.kidRank xs (i : Int)] ∧ Tr.walk xs p [Tr.kidRank xs (i : Int)] = i := by
  obtain ⟨p, hp, e, hd, hend⟩ := Tr.parent_pos hok hi h0
  have hr := (Tr.rank_pos hok hi).2 h0
  refine ⟨p, hp, e, hr, ?_, ?_⟩
  · unfold Tr.path
    obtain ⟨q, rfl⟩ : ∃ q, i = q + 1 := ⟨i - 1, by omega⟩
    rw [Tr.pathF_same hok xs.length (q + 1) hi (by omega), Tr.pathF_same hok xs.length p (by omega) (by omega), Tr.pathF, if_neg (by omega), e, Tr.pathF_same hok q p (by omega) (by omega)]
  · have hpn : p < xs.length := by omega
    have a1 := Tr.dn_eq hok hi
    have a2 := Tr.dn_eq hok hpn
    have hb : Tr.bound xs p i := ⟨hp, by omega, fun _ => by omega⟩
    have rk := Tr.kid_rank hok hpn hb hend
    obtain ⟨r, hr'⟩ := Tr.kid_next hok hpn hb hend
    have hl : (Tr.kidsTo xs p i).length < (Tr.kidsTo xs p (Tr.endN xs p)).length := by rw [hr', List.length_append, List.length_cons]; omega
    rw [Tr.walk, rk, if_pos ⟨by omega, by omega⟩, Tr.walk, show (((Tr.kidsTo xs p i).length : Nat) : Int).toNat = (Tr.kidsTo xs p i).length by omega, hr']
    simp [List.getD_eq_getElem?_getD]
end

end Go.Proofs.Ytgkkeejhfofcaaa

/- Contracts (Pth). -/
namespace Go.Proofs.Ytgkkeejhfofcaaa
open Go.RowKit
set_option linter.unusedVariables false

/-- a node's path by one step up -/
theorem Tr.path_step (xs : Tr) (z : Int) : if 0 ≤ Tr.kidRank xs z then ∃ p : Nat, 0 ≤ z ∧ Tr.parentOf xs z = p ∧ (p : Int) < z ∧ Tr.path xs z = Tr.path xs (p : Int) ++ [Tr.kidRank xs z] else Tr.path xs z = [] := by
  rcases h : Tr.has xs z with _ | _
  · rw [if_neg (by rw [Tr.rank_no h]; decide)]
    exact Tr.path_no h
  · obtain ⟨hok, h0, hz⟩ := Tr.has_iff.1 h
    obtain ⟨j, rfl⟩ := Int.eq_ofNat_of_zero_le h0
    have hj : j < xs.length := by omega
    by_cases c : 0 ≤ Tr.kidRank xs (j : Int)
    · rw [if_pos c]
      have hp := (Tr.rank_pos hok hj).1 c
      obtain ⟨p, h1, h2, _, h3, _⟩ := Tr.path_up hok hj hp
      exact ⟨p, by omega, h2, by omega, h3⟩
    · rw [if_neg c]
      have : j = 0 := by
        rcases Nat.eq_zero_or_pos j with e | e
        · exact e
        · exact absurd ((Tr.rank_pos hok hj).2 e) c
      subst this
      exact Tr.path_root hok
theorem Tr.pathF_len (xs : Tr) : ∀ (f : Nat) (i : Int), (Tr.pathF xs f i).length ≤ f
  | 0, i => by simp [Tr.pathF]
  | f + 1, i => by
    rw [Tr.pathF]
    split
    · simp
    · have := Tr.pathF_len xs f (Tr.parentOf xs i)
      simp; omega
theorem Tr.path_len (xs : Tr) (i : Int) : (Tr.path xs i).length ≤ xs.length := Tr.pathF_len xs _ i

end Go.Proofs.Ytgkkeejhfofcaaa

/- Contracts (AppG). -/
namespace Go.Proofs.Ytgkkeejhfofcaaa
open Go.RowKit
set_option linter.unusedVariables false

section
variable {P : Program} {ops : Array Oper} {rest : List Oper} {o : Oper} {a : Act} {Q : Exit → Act → World → Prop}
/-- out = append(out, ys...), out a row of the call's own, ys a row that stands -/
theorem append_own_own (w : World) (hgd : o.guard = none) (s x : Operand) (t : TypeId)
    (ho : o.op = .call { callee := .builtin .append, args := #[s, x], argTypes := #[t, t] })
    (base : Nat) (e : TypeId) (i : TypeInfo) (z : Value) (size bytes : Nat) (ht : P.underlying t = some (.slice e)) (hi : P.info? e = some i) (hz : i.zero = some z)
    (hsize : i.size = size) (hby : i.bytes = bytes) (hzs : z.cells.size = size) (hsz : 0 < size)
    (v : Value) (n : Nat) (xs : List Value) (hs : a.eval s = v) (hown : w.ownsRow base e size v n xs)
    (b2 : Nat) (e2 : TypeId) (u : Value) (m : Nat) (ys : List Value) (hx : a.eval x = u) (hsrc : w.ownsRow b2 e2 size u m ys) (h1 : ∀ u ∈ ys, u.oneCell' = true)
    (h63 : n + m ≤ maxLen) (hbytes : (n + m) * bytes ≤ 140737488355328) (hbase : base ≤ w.heap.size)
    (h : ∀ v' w', w'.ownsRow base e size v' (n + m) (xs ++ ys) → w.grownBy w' v.ownBlock → wpList P ops Q rest (a.put o.dst v') w') : wpList P ops Q (o :: rest) a w := by
  rcases hsrc.2 with ⟨rfl, rfl⟩ | ⟨g, cap, cur, rfl, _⟩
  · have hy : ys = [] := List.length_eq_zero_iff.1 (by have := hsrc.1; omega)
    subst hy
    exact wpList_append_own_none hgd s x t ho base e i size ht hi v n xs hs hown hx (h v w (by simpa using hown) (World.grownBy.refl _ _))
  · exact wpList_append_own w hgd s x t ho base e i z size bytes ht hi hz hsize hby hzs hsz v n xs hs hown ⟨g, 0, none⟩ m cap ys hx hsrc.1 (fun j u hj => by
      have hj' := (List.getElem?_eq_some_iff.1 hj).1
      have := hsrc.cellAt j (by rw [← hsrc.1]; exact hj')
      rw [hj] at this
      have ea : (⟨g, 0, none⟩ : Addr).add j = ⟨g, j, none⟩ := by unfold Addr.add; split <;> simp_all
      rw [ea]
      exact this) h1 h63 hbytes hbase (fun v' w' h2 h3 _ => h v' w' h2 h3)
end
theorem ints_one (zs : List Int) : ∀ u ∈ ints zs, u.oneCell' = true := fun u hu => by
  unfold ints at hu
  obtain ⟨z, _, rfl⟩ := List.mem_map.1 hu
  rfl

end Go.Proofs.Ytgkkeejhfofcaaa
