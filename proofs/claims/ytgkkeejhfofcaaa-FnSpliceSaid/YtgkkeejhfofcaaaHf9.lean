/- Texts of one claim laid into one file, in build order: Dst. -/
import Derived.Test.YtgkkeejhfofcaaaHf7
import Derived.Test.YtgkkeejhfofcaaaHf8
/- Contracts (Dst). -/
namespace Go.Proofs.Ytgkkeejhfofcaaa
open Go.RowKit
set_option linter.unusedVariables false

/-! The distances of two trees under costs, as numbers; what a table under way holds. -/
def Co.cs (k : Co) : Cs := ⟨Co.del k, Co.ins k, Co.rel k⟩
section
variable (xs ys : Tr) (k : Co)
/-- forests from place p to place a (of the first) and from q to b (of the second) -/
def RR (p a q b : Nat) : Int := RD (Co.cs k) (Tr.la xs) (Tr.la ys) (Tr.xa xs) (Tr.xa ys) p a q b
/-- the trees at two places -/
def TT (a b : Nat) : Int := TD (Co.cs k) (Tr.la xs) (Tr.la ys) (Tr.xa xs) (Tr.xa ys) a b
end
section
variable {xs : Tr} (hok : Tr.ok xs = true)
include hok
theorem Tr.len24 : 1 ≤ xs.length ∧ xs.length ≤ 24 := (Tr.ok_iff.1 hok).2
theorem Tr.xa_last : Tr.xa xs (xs.length - 1) = Tr.l xs 0 := by
  have h1 := (Tr.ok_iff.1 hok).2
  obtain ⟨i, a, b, _, d, _⟩ := Tr.la_at hok (p := xs.length - 1) (by omega)
  have h0 := Tr.rk_inj hok (i := 0) (j := i) (by omega) a (by
    rw [b]
    unfold Tr.rk
    rw [Tr.endN_zero hok, Tr.dn_zero hok]
    omega)
  rw [d, ← h0]
theorem Tr.lfs_len : (Tr.lfs xs).length = xs.length := by rw [Tr.lfs_length, Tr.post_length hok]
theorem Tr.krs_lt {q : Nat} (hq : q ∈ Tr.krs xs) : q < xs.length := by
  have hlen := Tr.lfs_len hok
  unfold Tr.krs Tr.krTo at hq
  rw [hlen] at hq
  simp only [List.mem_filter, List.mem_range] at hq
  exact hq.1
end
section
variable {xs ys : Tr} {k : Co}
theorem TT_eq (a b : Nat) : TT xs ys k a b = RR xs ys k (Tr.la xs a) (a + 1) (Tr.la ys b) (b + 1) := rfl
end
theorem idx_inj {m a b x y : Nat} (hb : b < m) (hy : y < m) (h : a * m + b = x * m + y) : a = x ∧ b = y := by
  have h1 : (b + m * a) / m = (y + m * x) / m := by rw [Nat.mul_comm m a, Nat.mul_comm m x]; congr 1; omega
  rw [Nat.add_mul_div_left _ _ (by omega), Nat.add_mul_div_left _ _ (by omega), Nat.div_eq_of_lt hb, Nat.div_eq_of_lt hy] at h1
  have : a = x := by omega
  subst this
  exact ⟨rfl, by omega⟩
theorem idx_lt {n m a b : Nat} (ha : a < n) (hb : b < m) : a * m + b < n * m := by
  have : (a + 1) * m ≤ n * m := Nat.mul_le_mul_right m (by omega)
  rw [Nat.add_mul] at this
  omega
/-- a table of forests from places p and q on under way at places x and y of key roots i and j, and the trees -/
structure Fill (xs ys : Tr) (k : Co) (i j x y : Nat) (F : Nat → Nat → Int) (T0 T : List Int) : Prop where
  f : ∀ a b, Tr.la xs i ≤ a → a ≤ i + 1 → Tr.la ys j ≤ b → b ≤ j + 1 → (a ≤ x ∨ (a = x + 1 ∧ b ≤ y) ∨ b = Tr.la ys j) → F a b = RR xs ys k (Tr.la xs i) a (Tr.la ys j) b
  len : T.length = xs.length * ys.length
  t1 : ∀ a b, a ≤ i → b ≤ j → Tr.la xs a = Tr.la xs i → Tr.la ys b = Tr.la ys j → (a < x ∨ (a = x ∧ b < y)) → Zs.at T (a * ys.length + b) = TT xs ys k a b
  t2 : ∀ a b, a < xs.length → b < ys.length → ¬ (a ≤ i ∧ b ≤ j ∧ Tr.la xs a = Tr.la xs i ∧ Tr.la ys b = Tr.la ys j) → Zs.at T (a * ys.length + b) = Zs.at T0 (a * ys.length + b)
/-- what the trees hold ahead of the table of key roots i and j -/
def Ahead (xs ys : Tr) (k : Co) (i j : Nat) (T : List Int) : Prop :=
  ∀ a b, Tr.la xs i ≤ a → a ≤ i → Tr.la ys j ≤ b → b ≤ j → ¬ (Tr.la xs a = Tr.la xs i ∧ Tr.la ys b = Tr.la ys j) → Zs.at T (a * ys.length + b) = TT xs ys k a b
theorem Zs.at_set {T : List Int} {u v : Nat} {z : Int} (hv : v < T.length) : Zs.at (T.set v z) u = if u = v then z else Zs.at T u := by
  unfold Zs.at
  rw [List.getD_eq_getElem?_getD, List.getD_eq_getElem?_getD, List.getElem?_set]
  by_cases e : v = u
  · subst e; rw [if_pos rfl, if_pos hv, if_pos rfl]; rfl
  · rw [if_neg e, if_neg (fun h => e h.symm)]
section
variable {xs ys : Tr} {k : Co} {i j x y : Nat} {F F' : Nat → Nat → Int} {T0 T : List Int} (hx : Tr.ok xs = true) (hy : Tr.ok ys = true) (hi : i < xs.length) (hj : j < ys.length)
include hx hy hi hj
/-- the facts of one cell -/
theorem Fill.geo (px : Tr.la xs i ≤ x) (xi : x ≤ i) (qy : Tr.la ys j ≤ y) (yj : y ≤ j) : Tr.la xs i ≤ Tr.la xs x ∧ Tr.la xs x ≤ x ∧ Tr.la ys j ≤ Tr.la ys y ∧ Tr.la ys y ≤ y := by
  have A := Tr.la_nest hx
  have B := Tr.la_nest hy
  have a1 : Tr.la xs i ≤ Tr.la xs x := by
    rcases Nat.lt_or_ge x i with h | h
    · exact (A i hi).2 x px h
    · rw [show x = i by omega]; exact Nat.le_refl _
  have b1 : Tr.la ys j ≤ Tr.la ys y := by
    rcases Nat.lt_or_ge y j with h | h
    · exact (B j hj).2 y qy h
    · rw [show y = j by omega]; exact Nat.le_refl _
  exact ⟨a1, (A x (by omega)).1, b1, (B y (by omega)).1⟩
theorem Fill.reads (h : Fill xs ys k i j x y F T0 T) (px : Tr.la xs i ≤ x) (xi : x ≤ i) (qy : Tr.la ys j ≤ y) (yj : y ≤ j) :
    F x (y + 1) = RR xs ys k (Tr.la xs i) x (Tr.la ys j) (y + 1) ∧ F (x + 1) y = RR xs ys k (Tr.la xs i) (x + 1) (Tr.la ys j) y ∧ F x y = RR xs ys k (Tr.la xs i) x (Tr.la ys j) y ∧
    F (Tr.la xs x) (Tr.la ys y) = RR xs ys k (Tr.la xs i) (Tr.la xs x) (Tr.la ys j) (Tr.la ys y) := by
  obtain ⟨g1, g2, g3, g4⟩ := Fill.geo hx hy hi hj px xi qy yj
  exact ⟨h.f _ _ (by omega) (by omega) (by omega) (by omega) (.inl (Nat.le_refl _)), h.f _ _ (by omega) (by omega) (by omega) (by omega) (.inr (.inl ⟨rfl, Nat.le_refl _⟩)),
    h.f _ _ (by omega) (by omega) (by omega) (by omega) (.inl (Nat.le_refl _)), h.f _ _ (by omega) (by omega) (by omega) (by omega) (.inl g2)⟩
theorem Fill.first (hA : Ahead xs ys k i j T0) (h : Fill xs ys k i j x y F T0 T) (px : Tr.la xs i ≤ x) (xi : x ≤ i) (qy : Tr.la ys j ≤ y) (yj : y ≤ j)
    (e : Tr.la xs x = Tr.la xs i ∧ Tr.la ys y = Tr.la ys j) {v : Int} (hv : v = min (min (F x (y + 1) + Co.del k (Tr.xa xs x)) (F (x + 1) y + Co.ins k (Tr.xa ys y))) (F x y + Co.rel k (Tr.xa xs x) (Tr.xa ys y)))
    (hF : ∀ a b, Tr.la xs i ≤ a → a ≤ i + 1 → Tr.la ys j ≤ b → b ≤ j + 1 → F' a b = if a = x + 1 ∧ b = y + 1 then v else F a b) :
    v = TT xs ys k x y ∧ Fill xs ys k i j x (y + 1) F' T0 (T.set (x * ys.length + y) v) := by
  obtain ⟨g1, g2, g3, g4⟩ := Fill.geo hx hy hi hj px xi qy yj
  obtain ⟨r1, r2, r3, _⟩ := Fill.reads hx hy hi hj h px xi qy yj
  have hvT : v = TT xs ys k x y := by
    rw [hv, r1, r2, r3, ← e.1, ← e.2]
    unfold TT
    rw [TD_rec (Tr.la_nest hx) (Tr.la_nest hy) (by omega) (by omega)]
    rfl
  have hvR : v = RR xs ys k (Tr.la xs i) (x + 1) (Tr.la ys j) (y + 1) := by rw [hvT, TT_eq, e.1, e.2]
  have hlt : x * ys.length + y < T.length := by rw [h.len]; exact idx_lt (by omega) (by omega)
  refine ⟨hvT, ⟨fun a b a1 a2 b1 b2 hc => ?_, by rw [List.length_set, h.len], fun a b a1 b1 la lb hc => ?_, fun a b a1 b1 hn => ?_⟩⟩
  · rw [hF a b a1 a2 b1 b2]
    by_cases c : a = x + 1 ∧ b = y + 1
    · rw [if_pos c, c.1, c.2]; exact hvR
    · rw [if_neg c]; exact h.f a b a1 a2 b1 b2 (by omega)
  · rw [Zs.at_set hlt]
    by_cases c : a * ys.length + b = x * ys.length + y
    · obtain ⟨rfl, rfl⟩ := idx_inj (by omega) (by omega) c
      rw [if_pos rfl]; exact hvT
    · rw [if_neg c]
      refine h.t1 a b a1 b1 la lb ?_
      have : ¬ (a = x ∧ b = y) := fun e => c (by rw [e.1, e.2])
      omega
  · rw [Zs.at_set hlt, if_neg, h.t2 a b a1 b1 hn]
    intro c
    obtain ⟨rfl, rfl⟩ := idx_inj (by omega) (by omega) c
    exact hn ⟨xi, yj, e.1, e.2⟩
theorem Fill.other (hA : Ahead xs ys k i j T0) (h : Fill xs ys k i j x y F T0 T) (px : Tr.la xs i ≤ x) (xi : x ≤ i) (qy : Tr.la ys j ≤ y) (yj : y ≤ j)
    (e : ¬ (Tr.la xs x = Tr.la xs i ∧ Tr.la ys y = Tr.la ys j)) {v : Int} (hv : v = min (min (F x (y + 1) + Co.del k (Tr.xa xs x)) (F (x + 1) y + Co.ins k (Tr.xa ys y))) (F (Tr.la xs x) (Tr.la ys y) + Zs.at T (x * ys.length + y)))
    (hF : ∀ a b, Tr.la xs i ≤ a → a ≤ i + 1 → Tr.la ys j ≤ b → b ≤ j + 1 → F' a b = if a = x + 1 ∧ b = y + 1 then v else F a b) :
    Fill xs ys k i j x (y + 1) F' T0 T := by
  obtain ⟨g1, g2, g3, g4⟩ := Fill.geo hx hy hi hj px xi qy yj
  obtain ⟨r1, r2, _, r4⟩ := Fill.reads hx hy hi hj h px xi qy yj
  have hT : Zs.at T (x * ys.length + y) = TT xs ys k x y := by
    rw [h.t2 x y (by omega) (by omega) (fun c => e ⟨c.2.2.1, c.2.2.2⟩)]
    exact hA x y px xi qy yj e
  have hvR : v = RR xs ys k (Tr.la xs i) (x + 1) (Tr.la ys j) (y + 1) := by
    rw [hv, r1, r2, r4, hT]
    unfold RR TT
    rw [RD_trees (Tr.la_nest hx) (Tr.la_nest hy) g1 (by omega) g3 (by omega)]
    rfl
  refine ⟨fun a b a1 a2 b1 b2 hc => ?_, h.len, fun a b a1 b1 la lb hc => ?_, h.t2⟩
  · rw [hF a b a1 a2 b1 b2]
    by_cases c : a = x + 1 ∧ b = y + 1
    · rw [if_pos c, c.1, c.2]; exact hvR
    · rw [if_neg c]; exact h.f a b a1 a2 b1 b2 (by omega)
  · refine h.t1 a b a1 b1 la lb ?_
    have : ¬ (a = x ∧ b = y) := fun c => e (by rw [← c.1, ← c.2]; exact ⟨la, lb⟩)
    omega
/-- borders done, no cell yet -/
theorem Fill.start (hl : T.length = xs.length * ys.length) (h1 : ∀ a, Tr.la xs i ≤ a → a ≤ i + 1 → F a (Tr.la ys j) = RR xs ys k (Tr.la xs i) a (Tr.la ys j) (Tr.la ys j))
    (h2 : ∀ b, Tr.la ys j ≤ b → b ≤ j + 1 → F (Tr.la xs i) b = RR xs ys k (Tr.la xs i) (Tr.la xs i) (Tr.la ys j) b) : Fill xs ys k i j (Tr.la xs i) (Tr.la ys j) F T T := by
  refine ⟨fun a b a1 a2 b1 b2 hc => ?_, hl, fun a b a1 b1 la lb hc => ?_, fun _ _ _ _ _ => rfl⟩
  · rcases hc with c | c | c
    · have : a = Tr.la xs i := by omega
      subst this; exact h2 b b1 b2
    · have : b = Tr.la ys j := by omega
      subst this; exact h1 a a1 a2
    · subst c; exact h1 a a1 a2
  · have := (Tr.la_nest hx a (by omega)).1
    have := (Tr.la_nest hy b (by omega)).1
    omega
end
section
variable {xs ys : Tr} {k : Co} {i j x y : Nat} {F F' : Nat → Nat → Int} {T0 T : List Int}
/-- the value that is read of the trees -/
theorem Fill.tree (hi : i < xs.length) (hj : j < ys.length) (hA : Ahead xs ys k i j T0) (h : Fill xs ys k i j x y F T0 T) (px : Tr.la xs i ≤ x) (xi : x ≤ i) (qy : Tr.la ys j ≤ y) (yj : y ≤ j) (e : ¬ (Tr.la xs x = Tr.la xs i ∧ Tr.la ys y = Tr.la ys j)) :
    Zs.at T (x * ys.length + y) = TT xs ys k x y := by
  rw [h.t2 x y (by omega) (by omega) (fun c => e ⟨c.2.2.1, c.2.2.2⟩)]
  exact hA x y px xi qy yj e
theorem Fill.next (hy : Tr.ok ys = true) (hj : j < ys.length) (h : Fill xs ys k i j x (j + 1) F T0 T) : Fill xs ys k i j (x + 1) (Tr.la ys j) F T0 T := by
  have g := (Tr.la_nest hy j hj).1
  refine ⟨fun a b a1 a2 b1 b2 hc => h.f a b a1 a2 b1 b2 (by omega), h.len, fun a b a1 b1 la lb hc => ?_, h.t2⟩
  have := (Tr.la_nest hy b (by omega)).1
  exact h.t1 a b a1 b1 la lb (by omega)
end
/-! over the pairs of key roots -/
def Tr.kr (xs : Tr) (a : Nat) : Nat := (Tr.krs xs).getD a 0
theorem Tr.kr_mem {xs : Tr} {a : Nat} (h : a < (Tr.krs xs).length) : Tr.kr xs a ∈ Tr.krs xs := by
  unfold Tr.kr
  rw [List.getD_eq_getElem?_getD, List.getElem?_eq_getElem h]
  exact List.getElem_mem h
theorem Tr.kr_rise {xs : Tr} {a b : Nat} (hab : a < b) (hb : b < (Tr.krs xs).length) : Tr.kr xs a < Tr.kr xs b := by
  have := Tr.krs_rise hab hb
  unfold Tr.kr
  rw [List.getD_eq_getElem?_getD, List.getD_eq_getElem?_getD, List.getElem?_eq_getElem hb, List.getElem?_eq_getElem (by omega)]
  exact this
/-- the trees after the first pairs of key roots: all of the first kk, and the first ll beside the next one -/
structure Roots (xs ys : Tr) (k : Co) (kk ll : Nat) (T : List Int) : Prop where
  len : T.length = xs.length * ys.length
  t : ∀ a b a' b', a < xs.length → b < ys.length → a' < (Tr.krs xs).length → b' < (Tr.krs ys).length → (a' < kk ∨ (a' = kk ∧ b' < ll)) → a ≤ Tr.kr xs a' → b ≤ Tr.kr ys b' → Tr.la xs a = Tr.la xs (Tr.kr xs a') → Tr.la ys b = Tr.la ys (Tr.kr ys b') →
    Zs.at T (a * ys.length + b) = TT xs ys k a b
/-- the place of a key root -/
theorem Tr.kr_of {xs : Tr} (hok : Tr.ok xs = true) {p : Nat} (hp : p < xs.length) : ∃ a, a < (Tr.krs xs).length ∧ p ≤ Tr.kr xs a ∧ Tr.la xs (Tr.kr xs a) = Tr.la xs p := by
  obtain ⟨q, h1, h2, h3, h4⟩ := Tr.kr_ex hok hp
  obtain ⟨a, ha, e⟩ := List.getElem_of_mem h1
  refine ⟨a, ha, ?_⟩
  have : Tr.kr xs a = q := by
    unfold Tr.kr
    rw [List.getD_eq_getElem?_getD, List.getElem?_eq_getElem ha, e]
    rfl
  rw [this]
  exact ⟨h2, h4⟩
/-- two key roots with the same first leaf are one -/
theorem Tr.kr_same {xs : Tr} (hok : Tr.ok xs = true) {a b : Nat} (ha : a < (Tr.krs xs).length) (hb : b < (Tr.krs xs).length) (h : Tr.la xs (Tr.kr xs a) = Tr.la xs (Tr.kr xs b)) : a = b := by
  rcases Nat.lt_trichotomy a b with c | c | c
  · exact absurd h.symm (Tr.kr_last hok (Tr.kr_mem ha) (Tr.krs_lt hok (Tr.kr_mem hb)) (Tr.kr_rise c hb))
  · exact c
  · exact absurd h (Tr.kr_last hok (Tr.kr_mem hb) (Tr.krs_lt hok (Tr.kr_mem ha)) (Tr.kr_rise c ha))
section
variable {xs ys : Tr} {k : Co} {kk ll : Nat} {T T' : List Int} (hx : Tr.ok xs = true) (hy : Tr.ok ys = true)
include hx hy
theorem Roots.ahead (hk : kk < (Tr.krs xs).length) (hl : ll < (Tr.krs ys).length) (h : Roots xs ys k kk ll T) : Ahead xs ys k (Tr.kr xs kk) (Tr.kr ys ll) T := by
  intro a b a1 a2 b1 b2 hn
  have i1 := Tr.krs_lt hx (Tr.kr_mem hk)
  have j1 := Tr.krs_lt hy (Tr.kr_mem hl)
  obtain ⟨a', c1, c2, c3⟩ := Tr.kr_of hx (p := a) (by omega)
  obtain ⟨b', d1, d2, d3⟩ := Tr.kr_of hy (p := b) (by omega)
  refine h.t a b a' b' (by omega) (by omega) c1 d1 ?_ c2 d2 c3.symm d3.symm
  by_cases e : Tr.la xs a = Tr.la xs (Tr.kr xs kk)
  · have hkk := Tr.kr_same hx c1 hk (c3.trans e)
    have e2 : Tr.la ys b ≠ Tr.la ys (Tr.kr ys ll) := fun e2 => hn ⟨e, e2⟩
    have := Tr.kr_under hy j1 b1 b2 e2 (Tr.krs_lt hy (Tr.kr_mem d1)) d2 d3
    refine .inr ⟨hkk, ?_⟩
    rcases Nat.lt_trichotomy b' ll with g | g | g
    · exact g
    · subst g; omega
    · have := Tr.kr_rise g d1; omega
  · have := Tr.kr_under hx i1 a1 a2 e (Tr.krs_lt hx (Tr.kr_mem c1)) c2 c3
    refine .inl ?_
    rcases Nat.lt_trichotomy a' kk with g | g | g
    · exact g
    · subst g; omega
    · have := Tr.kr_rise g c1; omega
theorem Roots.all (h : Roots xs ys k (Tr.krs xs).length 0 T) {a b : Nat} (ha : a < xs.length) (hb : b < ys.length) : Zs.at T (a * ys.length + b) = TT xs ys k a b := by
  obtain ⟨a', c1, c2, c3⟩ := Tr.kr_of hx ha
  obtain ⟨b', d1, d2, d3⟩ := Tr.kr_of hy hb
  exact h.t a b a' b' ha hb c1 d1 (.inl c1) c2 d2 c3.symm d3.symm
end
section
variable {xs ys : Tr} {k : Co} {kk ll : Nat} {T T' : List Int}
theorem Roots.step (hk : kk < (Tr.krs xs).length) (hl : ll < (Tr.krs ys).length) (h : Roots xs ys k kk ll T) {F : Nat → Nat → Int} {y : Nat}
    (hf : Fill xs ys k (Tr.kr xs kk) (Tr.kr ys ll) (Tr.kr xs kk + 1) y F T T') : Roots xs ys k kk (ll + 1) T' := by
  refine ⟨hf.len, fun a b a' b' ha hb ha' hb' hc a1 b1 la lb => ?_⟩
  by_cases e : a ≤ Tr.kr xs kk ∧ b ≤ Tr.kr ys ll ∧ Tr.la xs a = Tr.la xs (Tr.kr xs kk) ∧ Tr.la ys b = Tr.la ys (Tr.kr ys ll)
  · exact hf.t1 a b e.1 e.2.1 e.2.2.1 e.2.2.2 (.inl (by omega))
  · rw [hf.t2 a b ha hb e]
    refine h.t a b a' b' ha hb ha' hb' ?_ a1 b1 la lb
    rcases hc with c | ⟨c1, c2⟩
    · exact .inl c
    · refine .inr ⟨c1, ?_⟩
      subst c1
      rcases Nat.lt_or_ge b' ll with g | g
      · exact g
      · have : b' = ll := by omega
        subst this
        exact absurd ⟨a1, b1, la, lb⟩ e
theorem Roots.next (h : Roots xs ys k kk (Tr.krs ys).length T) : Roots xs ys k (kk + 1) 0 T :=
  ⟨h.len, fun a b a' b' ha hb ha' hb' hc a1 b1 la lb => h.t a b a' b' ha hb ha' hb' (by omega) a1 b1 la lb⟩
theorem Roots.start (hl : T.length = xs.length * ys.length) : Roots xs ys k 0 0 T := ⟨hl, fun a b a' b' _ _ _ _ hc => by omega⟩
end
def Tr.rootDist (xs ys : Tr) (k : Co) : Int := if Tr.ok xs && Tr.ok ys && Co.ok k then RR xs ys k 0 (xs.length - 1) 0 (ys.length - 1) + Co.rel k (Tr.l xs 0) (Tr.l ys 0) else -1
end Go.Proofs.Ytgkkeejhfofcaaa
