/- Texts of one claim laid into one file, in build order: UniM, SwpM, BthM, CmM. -/
import Derived.Test.YtlndaflhlkbedaaMc5
import Derived.Test.YtlndaflhlkbedaaMg12
/- The distances of trees whose labels are valid, under costs that agree on those. -/
namespace Go.Proofs.Ytlndaflhlkbedaa
open Go.RowKit
set_option linter.unusedVariables false

def Fst.all (P : Int → Prop) : Fst → Prop
  | .nil => True
  | .snoc l a s => l.all P ∧ P a ∧ s.all P
theorem Fst.all_cat (P : Int → Prop) (f g : Fst) : (f.cat g).all P ↔ f.all P ∧ g.all P := by
  induction g generalizing f with
  | nil => simp [Fst.cat, Fst.all]
  | snoc l a s ih1 ih2 =>
    simp only [Fst.cat, Fst.all]
    rw [ih1]
    constructor
    · rintro ⟨⟨h1, h2⟩, h3, h4⟩; exact ⟨h1, h2, h3, h4⟩
    · rintro ⟨h1, h2, h3, h4⟩; exact ⟨⟨h1, h2⟩, h3, h4⟩
theorem FD_congr {K K' : Cs} {P : Int → Prop} (hd : ∀ a, P a → K.del a = K'.del a) (hi : ∀ a, P a → K.ins a = K'.ins a) (hr : ∀ a b, P a → P b → K.rel a b = K'.rel a b) :
    ∀ (n : Nat) (f g : Fst), f.size + g.size = n → f.all P → g.all P → FD K f g = FD K' f g := by
  intro n
  induction n using Nat.strongRecOn with
  | ind n ih =>
    intro f g hn hf hg
    cases f with
    | nil =>
      cases g with
      | nil => rw [FD_nn, FD_nn]
      | snoc m b t =>
        obtain ⟨g1, g2, g3⟩ := hg
        rw [FD_ns, FD_ns, ih _ (by simp only [Fst.size, Fst.size_cat] at hn ⊢; omega) .nil (m.cat t) rfl trivial ((Fst.all_cat _ _ _).2 ⟨g1, g3⟩), hi b g2]
    | snoc l a s =>
      obtain ⟨f1, f2, f3⟩ := hf
      cases g with
      | nil =>
        rw [FD_sn, FD_sn, ih _ (by simp only [Fst.size, Fst.size_cat] at hn ⊢; omega) (l.cat s) .nil rfl ((Fst.all_cat _ _ _).2 ⟨f1, f3⟩) trivial, hd a f2]
      | snoc m b t =>
        obtain ⟨g1, g2, g3⟩ := hg
        rw [FD_ss, FD_ss, ih _ (by simp only [Fst.size, Fst.size_cat] at hn ⊢; omega) (l.cat s) (.snoc m b t) rfl ((Fst.all_cat _ _ _).2 ⟨f1, f3⟩) ⟨g1, g2, g3⟩,
          ih _ (by simp only [Fst.size, Fst.size_cat] at hn ⊢; omega) (.snoc l a s) (m.cat t) rfl ⟨f1, f2, f3⟩ ((Fst.all_cat _ _ _).2 ⟨g1, g3⟩),
          ih _ (by simp only [Fst.size] at hn ⊢; omega) l m rfl f1 g1, ih _ (by simp only [Fst.size] at hn ⊢; omega) s t rfl f3 g3, hd a f2, hi b g2, hr a b f2 g2]
theorem fr_all {la : Nat → Nat} {x : Nat → Int} {n : Nat} (hN : Nest la n) {P : Int → Prop} : ∀ (m i j : Nat), j - i = m → i ≤ j → j ≤ n → (∀ p, i ≤ p → p < j → P (x p)) → (fr la x i j).all P := by
  intro m
  induction m using Nat.strongRecOn with
  | ind m ih =>
    intro i j hm hij hj hP
    by_cases e : j = i
    · subst e; rw [fr_nil (Nat.le_refl _)]; trivial
    · obtain ⟨j, rfl⟩ : ∃ k, j = k + 1 := ⟨j - 1, by omega⟩
      have h1 := (hN j (by omega)).1
      rw [fr_succ hN (by omega) (by omega)]
      exact ⟨ih _ (by omega) i (max i (la j)) rfl (by omega) (by omega) (fun p a b => hP p a (by omega)), hP j (by omega) (by omega), ih _ (by omega) (max i (la j)) j rfl (by omega) (by omega) (fun p a b => hP p (by omega) (by omega))⟩
/-- a valid label -/
def OkL (a : Int) : Prop := ∃ u : Nat, u < 6 ∧ a = (u : Int)
/-- what lies below a tree's root, as a forest -/
def Tr.inner (xs : Tr) : Fst := fr (Tr.la xs) (Tr.xa xs) 0 (xs.length - 1)
theorem Tr.inner_size {xs : Tr} (h : Tr.ok xs = true) : (Tr.inner xs).size = xs.length - 1 := fr_size (Tr.la_nest h) _ 0 (xs.length - 1) rfl (Nat.zero_le _) (by omega)
theorem Tr.inner_all {xs : Tr} (h : Tr.ok xs = true) : (Tr.inner xs).all OkL := fr_all (Tr.la_nest h) _ 0 (xs.length - 1) rfl (Nat.zero_le _) (by omega) (fun p _ hp => Tr.xa_lab h (by omega))
theorem Tr.root_lab {xs : Tr} (h : Tr.ok xs = true) : OkL (Tr.l xs 0) := by
  have h1 := (Tr.len24 h).1
  rw [← Tr.xa_last h]
  exact Tr.xa_lab h (by omega)
theorem Tr.rootDist_yes {xs ys : Tr} {k : Co} (h1 : Tr.ok xs = true) (h2 : Tr.ok ys = true) (h3 : Co.ok k = true) : Tr.rootDist xs ys k = FD (Co.cs k) (Tr.inner xs) (Tr.inner ys) + Co.rel k (Tr.l xs 0) (Tr.l ys 0) := by
  unfold Tr.rootDist
  rw [h1, h2, h3]
  rfl
theorem Tr.rootDist_no {xs ys : Tr} {k : Co} (h : (Tr.ok xs && Tr.ok ys && Co.ok k) = false) : Tr.rootDist xs ys k = -1 := by
  unfold Tr.rootDist
  rw [h]
  rfl
/-! unit costs -/
def uc : Cs := ⟨fun _ => 1, fun _ => 1, fun a b => if a = b then 0 else 1⟩
theorem uc_metric : uc.metric := by
  refine ⟨⟨fun a => by show (0 : Int) ≤ 1; omega, fun a => by show (0 : Int) ≤ 1; omega, fun a b => by show (0 : Int) ≤ if a = b then 0 else 1; split <;> omega⟩, fun a b => ?_, fun b c => ?_, fun a b c => ?_⟩
  · show (1 : Int) ≤ (if a = b then 0 else 1) + 1; split <;> omega
  · show (1 : Int) ≤ 1 + (if b = c then 0 else 1); split <;> omega
  · show (if a = c then (0 : Int) else 1) ≤ (if a = b then 0 else 1) + (if b = c then 0 else 1)
    by_cases e1 : a = b
    · subst e1; rw [if_pos rfl]; omega
    · rw [if_neg e1]; split <;> split <;> omega
theorem Co.unit_ok : Co.ok Co.unit = true := by decide
theorem Co.unit_dels : ∀ u : Nat, u < 6 → Co.del Co.unit u = 1 ∧ Co.ins Co.unit u = 1 := by decide
theorem Co.unit_rels : ∀ u : Nat, u < 6 → ∀ v : Nat, v < 6 → Co.rel Co.unit u v = if u = v then 0 else 1 := by decide
theorem Co.unit_rel {a b : Int} (ha : OkL a) (hb : OkL b) : Co.rel Co.unit a b = uc.rel a b := by
  obtain ⟨u, hu, rfl⟩ := ha
  obtain ⟨v, hv, rfl⟩ := hb
  rw [Co.unit_rels u hu v hv]
  show _ = if (u : Int) = (v : Int) then 0 else 1
  by_cases e : u = v
  · rw [if_pos e, if_pos (by rw [e])]
  · rw [if_neg e, if_neg (by omega)]
theorem Tr.rootDist_unit {xs ys : Tr} (h1 : Tr.ok xs = true) (h2 : Tr.ok ys = true) : Tr.rootDist xs ys Co.unit = FD uc (Tr.inner xs) (Tr.inner ys) + uc.rel (Tr.l xs 0) (Tr.l ys 0) := by
  rw [Tr.rootDist_yes h1 h2 Co.unit_ok, Co.unit_rel (Tr.root_lab h1) (Tr.root_lab h2)]
  rw [FD_congr (K := Co.cs Co.unit) (K' := uc) (P := OkL) (fun a ha => by obtain ⟨u, hu, rfl⟩ := ha; exact (Co.unit_dels u hu).1) (fun a ha => by obtain ⟨u, hu, rfl⟩ := ha; exact (Co.unit_dels u hu).2) (fun a b ha hb => Co.unit_rel ha hb) _ _ _ rfl (Tr.inner_all h1) (Tr.inner_all h2)]
/-- the law FnTriangle asks for -/
theorem Tr.triangle {xs ys zs : Tr} (h1 : Tr.ok xs = true) (h2 : Tr.ok ys = true) (h3 : Tr.ok zs = true) :
    0 ≤ Tr.rootDist xs ys Co.unit ∧ Tr.rootDist xs ys Co.unit ≤ 48 ∧ Tr.rootDist xs zs Co.unit ≤ Tr.rootDist xs ys Co.unit + Tr.rootDist ys zs Co.unit ∧ (xs.length : Int) - (ys.length : Int) ≤ Tr.rootDist xs ys Co.unit ∧ (ys.length : Int) - (xs.length : Int) ≤ Tr.rootDist xs ys Co.unit ∧ Tr.rootDist xs ys Co.unit ≤ (xs.length : Int) + (ys.length : Int) - 1 := by
  have t := FD_triangle uc_metric _ (Tr.inner xs) (Tr.inner ys) (Tr.inner zs) rfl
  have g := FD_ge (K := uc) uc_metric.pos (fun a => Int.le_refl 1) (fun a => Int.le_refl 1) _ (Tr.inner xs) (Tr.inner ys) rfl
  have l := FD_le (K := uc) (M := 1) (fun a => Int.le_refl 1) (fun a => Int.le_refl 1) _ (Tr.inner xs) (Tr.inner ys) rfl
  have n := FD_nonneg uc_metric.pos _ (Tr.inner xs) (Tr.inner ys) rfl
  have r := uc_metric.rr (Tr.l xs 0) (Tr.l ys 0) (Tr.l zs 0)
  have r0 : 0 ≤ uc.rel (Tr.l xs 0) (Tr.l ys 0) ∧ uc.rel (Tr.l xs 0) (Tr.l ys 0) ≤ 1 := by
    show (0 : Int) ≤ (if Tr.l xs 0 = Tr.l ys 0 then 0 else 1) ∧ (if Tr.l xs 0 = Tr.l ys 0 then (0 : Int) else 1) ≤ 1
    split <;> omega
  have n1 := (Tr.len24 h1)
  have n2 := (Tr.len24 h2)
  rw [Tr.inner_size h1, Tr.inner_size h2] at g l
  rw [Tr.rootDist_unit h1 h2, Tr.rootDist_unit h1 h3, Tr.rootDist_unit h2 h3]
  refine ⟨by omega, by omega, by omega, by omega, by omega, by omega⟩

end Go.Proofs.Ytlndaflhlkbedaa

/- Contracts (SwpM). -/
namespace Go.Proofs.Ytlndaflhlkbedaa
open Go.RowKit
set_option linter.unusedVariables false

/-- costs with what goes and what comes exchanged -/
def Co.turn (k : Co) : Co := ⟨k.i, k.d, (List.range 36).map fun i => Zs.at k.r (i % 6 * 6 + i / 6)⟩
theorem Co.turn_at (k : Co) {i : Nat} (hi : i < 36) : Zs.at (Co.turn k).r i = Zs.at k.r (i % 6 * 6 + i / 6) := by
  simp [Co.turn, Zs.at, List.getD_eq_getElem?_getD, hi]
def Co.turnTo (k : Co) (j : Nat) : List Int := (List.range j).map fun i => Zs.at k.r (i % 6 * 6 + i / 6)
theorem Co.turnTo_length (k : Co) (j : Nat) : (Co.turnTo k j).length = j := by simp [Co.turnTo]
theorem Co.turnTo_succ (k : Co) (j : Nat) : Co.turnTo k (j + 1) = Co.turnTo k j ++ [Zs.at k.r (j % 6 * 6 + j / 6)] := by simp [Co.turnTo, List.range_succ]

end Go.Proofs.Ytlndaflhlkbedaa

/- Contracts (BthM). -/
namespace Go.Proofs.Ytlndaflhlkbedaa
open Go.RowKit
set_option linter.unusedVariables false

theorem Co.turn_ok {k : Co} (hr : k.r.length = 36) : Co.ok (Co.turn k) = Co.ok k := by
  have hl : (Co.turn k).r.length = 36 := by simp [Co.turn]
  have h3 : Zs.fit (Co.turn k).r 36 = true ↔ Zs.fit k.r 36 = true := by
    rw [Zs.fit_iff, Zs.fit_iff, hl, hr]
    refine ⟨fun h => ⟨rfl, fun j hj => ?_⟩, fun h => ⟨rfl, fun j hj => ?_⟩⟩
    · have := h.2 (j % 6 * 6 + j / 6) (by omega)
      rw [Co.turn_at k (by omega), show (j % 6 * 6 + j / 6) % 6 * 6 + (j % 6 * 6 + j / 6) / 6 = j by omega] at this
      exact this
    · rw [Co.turn_at k hj]
      exact h.2 _ (by omega)
  have h4 : Co.diag (Co.turn k) = true ↔ Co.diag k = true := by
    simp only [Co.diag, List.all_eq_true, List.mem_range, decide_eq_true_eq]
    have e : ∀ a, a < 6 → Zs.at (Co.turn k).r (a * 6 + a) = Zs.at k.r (a * 6 + a) := fun a ha => by
      rw [Co.turn_at k (by omega), show (a * 6 + a) % 6 * 6 + (a * 6 + a) / 6 = a * 6 + a by omega]
    exact ⟨fun h a ha => (e a ha).symm.trans (h a ha), fun h a ha => (e a ha).trans (h a ha)⟩
  rw [Bool.eq_iff_iff, Co.ok_iff, Co.ok_iff, h3, h4]
  exact ⟨fun h => ⟨h.2.1, h.1, h.2.2⟩, fun h => ⟨h.2.1, h.1, h.2.2⟩⟩
theorem Co.turn_del {k : Co} (h : Co.ok k = true) (h' : Co.ok (Co.turn k) = true) {u : Nat} (hu : u < 6) : Co.del (Co.turn k) u = Co.ins k u := by
  rw [Co.del_at h' hu, Co.ins_at h hu]; rfl
theorem Co.turn_ins {k : Co} (h : Co.ok k = true) (h' : Co.ok (Co.turn k) = true) {u : Nat} (hu : u < 6) : Co.ins (Co.turn k) u = Co.del k u := by
  rw [Co.ins_at h' hu, Co.del_at h hu]; rfl
theorem Co.turn_rel {k : Co} (h : Co.ok k = true) (h' : Co.ok (Co.turn k) = true) {u v : Nat} (hu : u < 6) (hv : v < 6) : Co.rel (Co.turn k) u v = Co.rel k v u := by
  rw [Co.rel_at h' hu hv, Co.rel_at h hv hu, Co.turn_at k (by omega), show (u * 6 + v) % 6 * 6 + (u * 6 + v) / 6 = v * 6 + u by omega]
theorem FD_turn {k : Co} (h : Co.ok k = true) (h' : Co.ok (Co.turn k) = true) {f g : Fst} (hf : f.all OkL) (hg : g.all OkL) : FD (Co.cs (Co.turn k)) g f = FD (Co.cs k) f g := by
  rw [FD_swap (Co.cs k) _ f g rfl]
  exact FD_congr (K := Co.cs (Co.turn k)) (K' := (Co.cs k).swap) (P := OkL) (fun a ha => by obtain ⟨u, hu, rfl⟩ := ha; exact Co.turn_del h h' hu) (fun a ha => by obtain ⟨u, hu, rfl⟩ := ha; exact Co.turn_ins h h' hu) (fun a b ha hb => by obtain ⟨u, hu, rfl⟩ := ha; obtain ⟨v, hv, rfl⟩ := hb; exact Co.turn_rel h h' hu hv) _ _ _ rfl hg hf
theorem Co.turn_rel' {k : Co} (h : Co.ok k = true) (h' : Co.ok (Co.turn k) = true) {a b : Int} (ha : OkL a) (hb : OkL b) : Co.rel (Co.turn k) a b = Co.rel k b a := by
  obtain ⟨u, hu, rfl⟩ := ha
  obtain ⟨v, hv, rfl⟩ := hb
  exact Co.turn_rel h h' hu hv
theorem Tr.root_turn (xs ys : Tr) {k : Co} (hr : k.r.length = 36) : Tr.rootDist ys xs (Co.turn k) = Tr.rootDist xs ys k := by
  cases hx : Tr.ok xs with
  | false => rw [Tr.rootDist_no (by rw [hx, Bool.and_false]; rfl), Tr.rootDist_no (by rw [hx]; rfl)]
  | true =>
    cases hy : Tr.ok ys with
    | false => rw [Tr.rootDist_no (by rw [hy]; rfl), Tr.rootDist_no (by rw [hy, Bool.and_false]; rfl)]
    | true =>
      cases hk : Co.ok k with
      | false => rw [Tr.rootDist_no (by rw [Co.turn_ok hr, hk, Bool.and_false]), Tr.rootDist_no (by rw [hk, Bool.and_false])]
      | true =>
        have hk' := (Co.turn_ok hr).trans hk
        rw [Tr.rootDist_yes hx hy hk, Tr.rootDist_yes hy hx hk', FD_turn hk hk' (Tr.inner_all hx) (Tr.inner_all hy), Co.turn_rel' hk hk' (Tr.root_lab hy) (Tr.root_lab hx)]
theorem Tr.dist_no {xs ys : Tr} {k : Co} (h : (Tr.ok xs && Tr.ok ys && Co.ok k) = false) : Tr.dist xs ys k = -1 := by
  unfold Tr.dist
  rw [h]
  rfl
def Tr.whole (xs : Tr) : Fst := fr (Tr.la xs) (Tr.xa xs) (Tr.la xs (xs.length - 1)) (xs.length - 1 + 1)
theorem Tr.whole_all {xs : Tr} (h : Tr.ok xs = true) : (Tr.whole xs).all OkL := by
  have h1 := (Tr.len24 h).1
  unfold Tr.whole
  rw [Tr.la_last h]
  exact fr_all (Tr.la_nest h) _ 0 (xs.length - 1 + 1) rfl (Nat.zero_le _) (by omega) (fun p _ hp => Tr.xa_lab h (by omega))
theorem Tr.dist_yes {xs ys : Tr} {k : Co} (h1 : Tr.ok xs = true) (h2 : Tr.ok ys = true) (h3 : Co.ok k = true) : Tr.dist xs ys k = FD (Co.cs k) (Tr.whole xs) (Tr.whole ys) := by
  unfold Tr.dist
  rw [h1, h2, h3]
  rfl
theorem Tr.dist_turn (xs ys : Tr) {k : Co} (hr : k.r.length = 36) : Tr.dist ys xs (Co.turn k) = Tr.dist xs ys k := by
  cases hx : Tr.ok xs with
  | false => rw [Tr.dist_no (by rw [hx, Bool.and_false]; rfl), Tr.dist_no (by rw [hx]; rfl)]
  | true =>
    cases hy : Tr.ok ys with
    | false => rw [Tr.dist_no (by rw [hy]; rfl), Tr.dist_no (by rw [hy, Bool.and_false]; rfl)]
    | true =>
      cases hk : Co.ok k with
      | false => rw [Tr.dist_no (by rw [Co.turn_ok hr, hk, Bool.and_false]), Tr.dist_no (by rw [hk, Bool.and_false])]
      | true =>
        have hk' := (Co.turn_ok hr).trans hk
        rw [Tr.dist_yes hx hy hk, Tr.dist_yes hy hx hk', FD_turn hk hk' (Tr.whole_all hx) (Tr.whole_all hy)]

end Go.Proofs.Ytlndaflhlkbedaa

/- Contracts (CmM). -/
namespace Go.Proofs.Ytlndaflhlkbedaa
open Go.RowKit
set_option linter.unusedVariables false

section
variable {xs ys zs ms ns : Tr} {k : Co}
theorem turn_turn (ms : Tr) : Tr.turn (Tr.turn ms) = ms := by unfold Tr.turn; rw [List.map_map]; exact List.map_id' ms
/-- valid, by pairs -/
theorem Mp.ok_iff : Mp.ok xs ys ms = true ↔ Tr.ok xs = true ∧ Tr.ok ys = true ∧ (∀ e ∈ ms, Tr.has xs e.1 = true ∧ Tr.has ys e.2 = true) ∧ ms.Pairwise (Bm.R xs ys) := by
  constructor
  · intro h
    obtain ⟨h1, h2, h3⟩ := Mp.ok_all h
    refine ⟨h1, h2, fun e he => ?_, ?_⟩
    · obtain ⟨q, hq, rfl⟩ := List.getElem_of_mem he
      obtain ⟨a, b, _⟩ := Mp.okAt_parts (h3 q hq)
      rw [pr_at ms hq]
      exact ⟨a, b⟩
    · refine List.pairwise_iff_getElem.2 fun i j hi hj hij => ?_
      obtain ⟨_, _, c⟩ := Mp.okAt_parts (h3 j hj)
      rw [pr_at ms hi, pr_at ms hj]
      exact c i hij
  · rintro ⟨h1, h2, h3, h4⟩
    rw [Mp.ok_yes, h1, h2]
    · rfl
    · intro i hi
      have e := h3 ms[i] (List.getElem_mem hi)
      rw [pr_at ms hi] at e
      refine Mp.okAt_yes e.1 e.2 (fun m hm => ?_)
      have r := List.pairwise_iff_getElem.1 h4 m i (by omega) hi hm
      rw [pr_at ms hi, pr_at ms (show m < ms.length by omega)] at r
      exact Mp.at_yes r.1 r.2.1 r.2.2
theorem Mp.ok_turn : Mp.ok ys xs (Tr.turn ms) = Mp.ok xs ys ms := by
  rw [Bool.eq_iff_iff, Mp.ok_iff, Mp.ok_iff]
  unfold Tr.turn
  rw [List.pairwise_map]
  constructor
  · rintro ⟨a, b, c, d⟩
    refine ⟨b, a, fun e he => ?_, d.imp (fun h => ⟨h.2.1, h.1, h.2.2.symm⟩)⟩
    have := c (e.2, e.1) (List.mem_map.2 ⟨e, he, rfl⟩)
    exact ⟨this.2, this.1⟩
  · rintro ⟨a, b, c, d⟩
    refine ⟨b, a, fun e he => ?_, d.imp (fun h => ⟨h.2.1, h.1, h.2.2.symm⟩)⟩
    obtain ⟨e', he', rfl⟩ := List.mem_map.1 he
    have := c e' he'
    exact ⟨this.2, this.1⟩
/-- where b leads: at most one place, if first places ascend -/
theorem Cp.out_mem {b z : Int} : ∀ m, z ∈ Cp.out ns b m ↔ ∃ q, q < m ∧ Tr.l ns q = b ∧ Tr.d ns q = z
  | 0 => by simp [Cp.out]
  | m + 1 => by
    have ih := Cp.out_mem (b := b) (z := z) m
    by_cases e : b = Tr.l ns m
    · rw [Cp.out_yes e, List.mem_append, ih, List.mem_singleton]
      constructor
      · rintro (⟨q, h1, h2, h3⟩ | h)
        · exact ⟨q, by omega, h2, h3⟩
        · exact ⟨m, by omega, e.symm, h.symm⟩
      · rintro ⟨q, h1, h2, h3⟩
        by_cases hq : q = m
        · subst hq; exact .inr h3.symm
        · exact .inl ⟨q, by omega, h2, h3⟩
    · rw [Cp.out_no e, ih]
      constructor
      · rintro ⟨q, h1, h2, h3⟩; exact ⟨q, by omega, h2, h3⟩
      · rintro ⟨q, h1, h2, h3⟩
        refine ⟨q, ?_, h2, h3⟩
        by_cases hq : q = m
        · subst hq; exact absurd h2.symm e
        · omega
theorem Cp.out_one {b : Int} (h : ns.Pairwise fun e e' => e.1 < e'.1) : ∀ m, m ≤ ns.length → (Cp.out ns b m).length ≤ 1
  | 0, _ => by simp [Cp.out]
  | m + 1, hm => by
    have ih := Cp.out_one (b := b) h m (by omega)
    by_cases e : b = Tr.l ns m
    · rw [Cp.out_yes e, List.length_append, List.length_singleton]
      have : Cp.out ns b m = [] := by
        refine List.eq_nil_iff_forall_not_mem.2 fun z hz => ?_
        obtain ⟨q, h1, h2, _⟩ := (Cp.out_mem m).1 hz
        have r := List.pairwise_iff_getElem.1 h q m (by omega) (by omega) h1
        rw [pr_at ns (show q < ns.length by omega), pr_at ns (show m < ns.length by omega)] at r
        simp only at r
        omega
      rw [this]; simp
    · rw [Cp.out_no e]; exact ih
theorem Cp.all_mem {e : Int × Int} : ∀ m, e ∈ Cp.to ms ns m → ∃ i q, i < m ∧ q < ns.length ∧ Tr.l ms i = e.1 ∧ Tr.d ms i = Tr.l ns q ∧ Tr.d ns q = e.2
  | 0, h => by simp [Cp.to] at h
  | m + 1, h => by
    rw [Cp.to, List.mem_append] at h
    rcases h with h | h
    · obtain ⟨i, q, a, b⟩ := Cp.all_mem m h
      exact ⟨i, q, by omega, b⟩
    · unfold Cp.row at h
      obtain ⟨z, hz, rfl⟩ := List.mem_map.1 h
      obtain ⟨q, h1, h2, h3⟩ := (Cp.out_mem _).1 hz
      exact ⟨m, q, by omega, h1, rfl, h2.symm, h3⟩
theorem small_pairwise {α : Type} {R : α → α → Prop} {L : List α} (h : L.length ≤ 1) : L.Pairwise R := by
  rcases L with _ | ⟨a, _ | ⟨b, r⟩⟩
  · exact List.Pairwise.nil
  · exact List.pairwise_singleton _ _
  · simp at h
theorem Cp.to_asc (hm : ms.Pairwise (Bm.R xs ys)) (hn : ns.Pairwise (Bm.R ys zs)) : ∀ m, m ≤ ms.length → (Cp.to ms ns m).Pairwise (Bm.R xs zs)
  | 0, _ => by simp [Cp.to]
  | m + 1, h => by
    have ih := Cp.to_asc hm hn m (by omega)
    rw [Cp.to]
    refine List.pairwise_append.2 ⟨ih, small_pairwise (by rw [Cp.row_len]; exact Cp.out_one (hn.imp (fun h => h.1)) _ (Nat.le_refl _)), fun a ha b hb => ?_⟩
    obtain ⟨i, q, h1, h2, h3, h4, h5⟩ := Cp.all_mem m ha
    unfold Cp.row at hb
    obtain ⟨z, hz, rfl⟩ := List.mem_map.1 hb
    obtain ⟨q', g1, g2, g3⟩ := (Cp.out_mem _).1 hz
    have r1 := List.pairwise_iff_getElem.1 hm i m (by omega) (by omega) h1
    rw [pr_at ms (show i < ms.length by omega), pr_at ms (show m < ms.length by omega)] at r1
    obtain ⟨r2, r3, r4⟩ := r1
    simp only at r2 r3 r4
    have hq : q < q' := by
      rcases Nat.lt_trichotomy q q' with c | c | c
      · exact c
      · subst c; omega
      · have r5 := (List.pairwise_iff_getElem.1 hn q' q g1 h2 c).1
        rw [pr_at ns g1, pr_at ns h2] at r5
        simp only at r5
        omega
    have r5 := List.pairwise_iff_getElem.1 hn q q' h2 g1 hq
    rw [pr_at ns h2, pr_at ns g1] at r5
    obtain ⟨r6, r7, r8⟩ := r5
    simp only at r6 r7 r8
    refine ⟨?_, ?_, ?_⟩
    · rw [← h3]; exact r2
    · rw [← h5, ← g3]; exact r7
    · rw [← h3, ← h5]
      show Tr.under xs (Tr.l ms i) (Tr.l ms m) = Tr.under zs (Tr.d ns q) z
      rw [← g3, r4, h4, ← g2, r8]
theorem Mp.ok_comp (hm : Mp.ok xs ys ms = true) (hn : Mp.ok ys zs ns = true) : Mp.ok xs zs (Cp.all ms ns) = true := by
  obtain ⟨a1, a2, a3, a4⟩ := Mp.ok_iff.1 hm
  obtain ⟨b1, b2, b3, b4⟩ := Mp.ok_iff.1 hn
  refine Mp.ok_iff.2 ⟨a1, b2, fun e he => ?_, Cp.to_asc a4 b4 _ (Nat.le_refl _)⟩
  obtain ⟨i, q, h1, h2, h3, h4, h5⟩ := Cp.all_mem _ he
  have c := a3 ms[i] (List.getElem_mem h1)
  have d := b3 ns[q] (List.getElem_mem h2)
  rw [pr_at ms h1] at c
  rw [pr_at ns h2] at d
  rw [← h3, ← h5]
  exact ⟨c.1, d.2⟩
/-- a mapping by way of its inverse leads back -/
theorem Cp.back (hm : ms.Pairwise (Bm.R xs ys)) : ∀ m, m ≤ ms.length → Cp.to ms (Tr.turn ms) m = (ms.take m).map fun e => (e.1, e.1)
  | 0, _ => by simp [Cp.to]
  | m + 1, h => by
    have ih := Cp.back hm m (by omega)
    have asc : (Tr.turn ms).Pairwise fun e e' => e.1 < e'.1 := by
      unfold Tr.turn
      rw [List.pairwise_map]
      exact hm.imp (fun h => h.2.1)
    have ho : Cp.out (Tr.turn ms) (Tr.d ms m) (Tr.turn ms).length = [Tr.l ms m] := by
      have hmem : Tr.l ms m ∈ Cp.out (Tr.turn ms) (Tr.d ms m) (Tr.turn ms).length := (Cp.out_mem _).2 ⟨m, by rw [Tr.turn_length]; omega, Tr.turn_l ms (by omega), Tr.turn_d ms (by omega)⟩
      have h1 := Cp.out_one (b := Tr.d ms m) asc _ (Nat.le_refl _)
      rcases hl : Cp.out (Tr.turn ms) (Tr.d ms m) (Tr.turn ms).length with _ | ⟨a, _ | ⟨b, r⟩⟩
      · rw [hl] at hmem; cases hmem
      · rw [hl] at hmem; rw [List.mem_singleton.1 hmem]
      · rw [hl] at h1; simp at h1
    rw [Cp.to, ih, ho, List.take_add_one, List.getElem?_eq_getElem (show m < ms.length by omega), pr_at ms (show m < ms.length by omega), List.map_append]
    rfl
theorem Cp.back_all (h : Mp.ok xs ys ms = true) : Cp.all ms (Tr.turn ms) = ms.map fun e => (e.1, e.1) := by
  unfold Cp.all
  rw [Cp.back (Mp.ok_iff.1 h).2.2.2 _ (Nat.le_refl _), List.take_length]
/-- the turned mapping costs as much, with insertion and deletion exchanged -/
theorem Mp.cost_turn (h : Mp.ok xs ys ms = true) (hk : Co.ok k = true) (hr : k.r.length = 36) : Mp.cost ys xs (Co.turn k) (Tr.turn ms) = Mp.cost xs ys k ms := by
  have hk' := (Co.turn_ok hr).trans hk
  obtain ⟨a1, a2, a3, a4⟩ := Mp.ok_iff.1 h
  have h' : Mp.ok ys xs (Tr.turn ms) = true := Mp.ok_turn.trans h
  have w1 := Bm.part_ws (k := k) h _ (Nat.le_refl _)
  have w2 := Bm.part_ws (k := Co.turn k) h' _ (Nat.le_refl _)
  rw [List.take_length] at w1 w2
  have lab : ∀ {us : Tr}, Tr.ok us = true → ∀ i, i < us.length → ∃ u : Nat, u < 6 ∧ Tr.l us i = (u : Int) := fun {us} hu i hi => by
    have := (Tr.ok_at hu hi).1
    exact ⟨(Tr.l us i).toNat, by omega, by omega⟩
  have p0 : Mp.part ys xs (Co.turn k) (Tr.turn ms) 0 = Mp.part xs ys k ms 0 := by
    rw [Mp.part_zero, Mp.part_zero, Int.add_comm]
    congr 1
    · refine Mp.sum_congr fun i hi => ?_
      obtain ⟨u, hu, e⟩ := lab a1 i hi
      rw [e, Co.turn_ins hk hk' hu]
    · refine Mp.sum_congr fun i hi => ?_
      obtain ⟨u, hu, e⟩ := lab a2 i hi
      rw [e, Co.turn_del hk hk' hu]
  have ws : ∀ L : Tr, (∀ e ∈ L, Tr.has xs e.1 = true ∧ Tr.has ys e.2 = true) → Bm.ws ys xs (Co.turn k) (Tr.turn L) = Bm.ws xs ys k L := by
    intro L
    induction L with
    | nil => intro _; rfl
    | cons e L ih =>
      intro hL
      have he := hL e (by simp)
      have h1 := (Tr.has_iff.1 he.1).2
      have h2 := (Tr.has_iff.1 he.2).2
      obtain ⟨u, hu, eu⟩ := lab a1 e.1.toNat (by omega)
      obtain ⟨v, hv, ev⟩ := lab a2 e.2.toNat (by omega)
      show Bm.w ys xs (Co.turn k) (e.2, e.1) + Bm.ws ys xs (Co.turn k) (Tr.turn L) = Bm.w xs ys k e + Bm.ws xs ys k L
      rw [ih (fun e' he' => hL e' (by simp [he']))]
      unfold Bm.w
      simp only
      rw [eu, ev, Co.turn_rel hk hk' hv hu, Co.turn_del hk hk' hv, Co.turn_ins hk hk' hu]
      omega
  unfold Mp.cost
  rw [h, h', hk, hk', w1, w2, p0, ws ms a3]
theorem Mp.ok_len (h : Mp.ok xs ys ms = true) : ms.length ≤ xs.length := by
  obtain ⟨a1, a2, a3, a4⟩ := Mp.ok_iff.1 h
  have := Un.count_all (n := xs.length) (L := ms) (a4.imp (fun h => h.1)) (fun e he => by
    have := (Tr.has_iff.1 (a3 e he).1).2
    exact this)
  omega
end

end Go.Proofs.Ytlndaflhlkbedaa
