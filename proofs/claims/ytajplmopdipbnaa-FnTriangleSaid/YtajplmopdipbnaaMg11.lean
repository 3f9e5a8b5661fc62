/- Texts of one claim laid into one file, in build order: Fresh, UniM, RepI, IntH, HarC, UnitI, Tri, ExTri. -/
import Derived.Test.YtajplmopdipbnaaMg10
import Derived.Deep.RegionHeld3
import Derived.Laws.CopyOwn
import Derived.Outline
import Derived.StillTailTactics
import Derived.Test.YtajplmopdipbnaaRows
/- Contracts (Fresh). -/
namespace Go.Proofs.Ytajplmopdipbnaa
open Go.RowKit Kit
set_option linter.unusedVariables false

/-- bytes of the call's own are a code -/
theorem code_of_own {w : World} {base n c : Nat} {v : Value} {l : List UInt8} (h : w.ownsRow base 5 1 v n (bcells l)) (hn : 0 < n) : ∃ (g c : Nat), v = .slice (some ⟨g, 0, none⟩) n c ∧ (l.map fun u => ((u.toNat : Nat) : Int)).length = n ∧ CodeIn w w.heap.size (some ⟨g, 0, none⟩) (l.map fun u => ((u.toNat : Nat) : Int)) := by
  obtain ⟨A, c, rfl⟩ := own_slice h
  obtain ⟨g, rfl, f0, f1⟩ := own_form h hn
  have hlen : l.length = n := by have := h.1; simp [bcells] at this; omega
  refine ⟨g, c, rfl, by simp [hlen], fun j hj => ⟨g, 0, rfl, f1, ?_, ?_, ?_⟩⟩
  · have hj' : j < l.length := by simpa using hj
    have := h.cellAt j (by omega)
    rw [Nat.zero_add, this]
    simp [bcells, List.getD_eq_getElem?_getD, hj']
  · have hj' : j < l.length := by simpa using hj
    simp [List.getD_eq_getElem?_getD, hj']
  · have hj' : j < l.length := by simpa using hj
    have := (l[j]).toNat_lt
    simp [List.getD_eq_getElem?_getD, hj']
    omega
set_option maxHeartbeats 1600000 in
set_option maxRecDepth 100000 in
theorem fresh_any (k : Code) (salt : Nat) (hs : salt < 100) (w : World) (hcode : CodeIn w w.heap.size k.a k.cs) (hlen : k.cs.length ≤ 1048576) :
    Calls Try.prog 36 #[.slice k.a k.cs.length k.cap, .int .i64 salt] w fun e w' => ∃ q : Code, e = .returned (.slice q.a q.cs.length q.cap) ∧ CodeIn w' w'.heap.size q.a q.cs ∧ q.cs.length ≤ 1048576 ∧ Below w.heap.size w w' := by
  have HC := Lib.hid hcode
  obtain ⟨ka, cs, cap⟩ := k
  clear hcode
  obtain ⟨n, hn⟩ : ∃ n, n = cs.length := ⟨_, rfl⟩
  have HN := Lib.hid hn
  have hlen' : cs.length ≤ 1048576 := hlen
  have hn1 : n ≤ 1048576 := by omega
  show Calls _ _ #[.slice ka cs.length cap, _] _ _
  rw [← hn]
  clear hn hlen hlen'
  obtain ⟨i0, hi, hz0, hz1, hz2⟩ := info_parts info_u8
  have Hi := Lib.hid hi
  clear hi
  have o0 : (w.alloc (.cells #[.int .u8 (salt : Int)] 5)).ownsRow w.heap.size 5 1 (.slice (some ⟨w.heap.size, 0, none⟩) 1 1) 1 (bcells [UInt8.ofNat salt]) := by
    rw [show bcells [UInt8.ofNat salt] = (#[.int .u8 (salt : Int)] : Array Value).toList by simp [bcells]; omega]
    exact World.ownsRow_lit (base := w.heap.size) (e := 5) (size := 1) w #[.int .u8 (salt : Int)] 1 (Nat.le_refl _) (by decide) rfl
  have O0 := Lib.hid o0
  have B0 := Lib.hid ((Below.refl w.heap.size w).alloc (Nat.le_refl _) (.cells #[.int .u8 (salt : Int)] 5))
  clear o0
  go_enter Try.func36, Try.ntmps36
  go_wp2
  go_loopw [5, 6] (fun lv iv wr => ∃ (acc : List UInt8) (i : Nat), acc.length = i + 1 ∧ i ≤ n ∧ i ≤ 600 ∧ iv = .int .i64 i ∧ wr.ownsRow w.heap.size 5 1 lv (i + 1) (bcells acc) ∧ Below w.heap.size w wr) (fun _ iv _ => 600 - (intOf iv).toNat)
  case atStart => exact ⟨[UInt8.ofNat salt], 0, rfl, Nat.zero_le _, by omega, rfl, O0.out, B0.out⟩
  case round =>
    clear O0 B0
    obtain ⟨acc, i, hal, hin, hi6, rfl, ho, hb⟩ := hrel
    have HO := Lib.hid ho
    have HB := Lib.hid hb
    have HL := Lib.hid hal
    clear ho hb hal
    obtain ⟨g, c1, rfl, hl, hcode⟩ := code_of_own (c := 0) HO.out (by omega)
    by_cases h1 : i < n
    · have e1 : decide (i < n) = true := by simpa using h1
      by_cases h2 : i < 600
      · have e2 : decide ((i : Int) < 600) = true := decide_eq_true (by omega)
        have e3 : decide (i < 600) = true := decide_eq_true h2
        obtain ⟨b, off, ha, hbl, hc, hb0, hb1⟩ := HC.out i (by rw [← HN.out]; exact h1)
        have hcw := (HB.out.cell (p := ⟨b, off + i, none⟩) hbl).trans hc
        obtain ⟨x, hx⟩ : ∃ x, x = cs.getD i 0 := ⟨_, rfl⟩
        rw [← hx] at hcw hb0 hb1
        have ha' : ka = some ⟨b, off, none⟩ := ha
        subst ha'
        have k1 : (0 : Int) ≤ (i : Int) := by omega
        have k2 : (i : Int) < (n : Int) := by omega
        clear hx hc ha
        have hsx := HB.out.size
        go_wp2_with (at_builtin; go_loud (refine Kit.append_byte wr rfl _ _ 22 rfl w.heap.size 5 i0 Try.underlying22 Hi.out hz0 hz1 hz2 (.slice (some ⟨g, 0, none⟩) (i + 1) c1) (i + 1) acc rfl HO.out HL.out.symm _ (Int.emod_nonneg _ (by decide)) (Int.emod_lt_of_pos _ (by decide)) rfl (by rw [HL.out]; omega) hsx ?_); intro v' w4 hown' hgrow)
        have hb4 := Kit.below_own HB.out HO.out hgrow
        go_roundw
        case rel => exact ⟨_, i + 1, by rw [List.length_append, List.length_singleton, HL.out], by omega, by omega, by go_num, hown', hb4⟩
        case measure => simp [intOf]; omega
      · have e2 : decide ((i : Int) < 600) = false := decide_eq_false (by omega)
        have e3 : decide (i < 600) = false := decide_eq_false h2
        go_wp2
        go_ret
        exact ⟨⟨some ⟨g, 0, none⟩, acc.map fun u => ((u.toNat : Nat) : Int), c1⟩, by show _ = Ending.returned (.slice _ (acc.map fun u => ((u.toNat : Nat) : Int)).length _); rw [hl]; rfl, hcode, by show (acc.map fun u => ((u.toNat : Nat) : Int)).length ≤ _; rw [hl]; omega, HB.out⟩
    · have e1 : decide (i < n) = false := by simpa using h1
      go_wp2
      go_ret
      exact ⟨⟨some ⟨g, 0, none⟩, acc.map fun u => ((u.toNat : Nat) : Int), c1⟩, by show _ = Ending.returned (.slice _ (acc.map fun u => ((u.toNat : Nat) : Int)).length _); rw [hl]; rfl, hcode, by show (acc.map fun u => ((u.toNat : Nat) : Int)).length ≤ _; rw [hl]; omega, HB.out⟩

end Go.Proofs.Ytajplmopdipbnaa

/- The distances of trees whose labels are valid, under costs that agree on those. -/
namespace Go.Proofs.Ytajplmopdipbnaa
open Go.RowKit
set_option linter.unusedVariables false

def Fst.all (P : Int → Prop) : Fst → Prop
  | .nil => True
  | .snoc l a s => l.all P ∧ P a ∧ s.all P
theorem Fst.all_cat (P : Int → Prop) (f g : Fst) : (f.cat g).all P ↔ f.all P ∧ g.all P := by
  induction g generalizing f with
  | nil => simp [Fst.cat, Fst.all]
  | snoc l a s ih1 ih2 =>
    simp only [Fst.cat, Fst.all]
    rw [ih1]
    constructor
    · rintro ⟨⟨h1, h2⟩, h3, h4⟩; exact ⟨h1, h2, h3, h4⟩
    · rintro ⟨h1, h2, h3, h4⟩; exact ⟨⟨h1, h2⟩, h3, h4⟩
theorem FD_congr {K K' : Cs} {P : Int → Prop} (hd : ∀ a, P a → K.del a = K'.del a) (hi : ∀ a, P a → K.ins a = K'.ins a) (hr : ∀ a b, P a → P b → K.rel a b = K'.rel a b) :
    ∀ (n : Nat) (f g : Fst), f.size + g.size = n → f.all P → g.all P → FD K f g = FD K' f g := by
  intro n
  induction n using Nat.strongRecOn with
  | ind n ih =>
    intro f g hn hf hg
    cases f with
    | nil =>
      cases g with
      | nil => rw [FD_nn, FD_nn]
      | snoc m b t =>
        obtain ⟨g1, g2, g3⟩ := hg
        rw [FD_ns, FD_ns, ih _ (by simp only [Fst.size, Fst.size_cat] at hn ⊢; omega) .nil (m.cat t) rfl trivial ((Fst.all_cat _ _ _).2 ⟨g1, g3⟩), hi b g2]
    | snoc l a s =>
      obtain ⟨f1, f2, f3⟩ := hf
      cases g with
      | nil =>
        rw [FD_sn, FD_sn, ih _ (by simp only [Fst.size, Fst.size_cat] at hn ⊢; omega) (l.cat s) .nil rfl ((Fst.all_cat _ _ _).2 ⟨f1, f3⟩) trivial, hd a f2]
      | snoc m b t =>
        obtain ⟨g1, g2, g3⟩ := hg
        rw [FD_ss, FD_ss, ih _ (by simp only [Fst.size, Fst.size_cat] at hn ⊢; omega) (l.cat s) (.snoc m b t) rfl ((Fst.all_cat _ _ _).2 ⟨f1, f3⟩) ⟨g1, g2, g3⟩,
          ih _ (by simp only [Fst.size, Fst.size_cat] at hn ⊢; omega) (.snoc l a s) (m.cat t) rfl ⟨f1, f2, f3⟩ ((Fst.all_cat _ _ _).2 ⟨g1, g3⟩),
          ih _ (by simp only [Fst.size] at hn ⊢; omega) l m rfl f1 g1, ih _ (by simp only [Fst.size] at hn ⊢; omega) s t rfl f3 g3, hd a f2, hi b g2, hr a b f2 g2]
theorem fr_all {la : Nat → Nat} {x : Nat → Int} {n : Nat} (hN : Nest la n) {P : Int → Prop} : ∀ (m i j : Nat), j - i = m → i ≤ j → j ≤ n → (∀ p, i ≤ p → p < j → P (x p)) → (fr la x i j).all P := by
  intro m
  induction m using Nat.strongRecOn with
  | ind m ih =>
    intro i j hm hij hj hP
    by_cases e : j = i
    · subst e; rw [fr_nil (Nat.le_refl _)]; trivial
    · obtain ⟨j, rfl⟩ : ∃ k, j = k + 1 := ⟨j - 1, by omega⟩
      have h1 := (hN j (by omega)).1
      rw [fr_succ hN (by omega) (by omega)]
      exact ⟨ih _ (by omega) i (max i (la j)) rfl (by omega) (by omega) (fun p a b => hP p a (by omega)), hP j (by omega) (by omega), ih _ (by omega) (max i (la j)) j rfl (by omega) (by omega) (fun p a b => hP p (by omega) (by omega))⟩
/-- a valid label -/
def OkL (a : Int) : Prop := ∃ u : Nat, u < 6 ∧ a = (u : Int)
/-- what lies below a tree's root, as a forest -/
def Tr.inner (xs : Tr) : Fst := fr (Tr.la xs) (Tr.xa xs) 0 (xs.length - 1)
theorem Tr.inner_size {xs : Tr} (h : Tr.ok xs = true) : (Tr.inner xs).size = xs.length - 1 := fr_size (Tr.la_nest h) _ 0 (xs.length - 1) rfl (Nat.zero_le _) (by omega)
theorem Tr.inner_all {xs : Tr} (h : Tr.ok xs = true) : (Tr.inner xs).all OkL := fr_all (Tr.la_nest h) _ 0 (xs.length - 1) rfl (Nat.zero_le _) (by omega) (fun p _ hp => Tr.xa_lab h (by omega))
theorem Tr.root_lab {xs : Tr} (h : Tr.ok xs = true) : OkL (Tr.l xs 0) := by
  have h1 := (Tr.len24 h).1
  rw [← Tr.xa_last h]
  exact Tr.xa_lab h (by omega)
theorem Tr.rootDist_yes {xs ys : Tr} {k : Co} (h1 : Tr.ok xs = true) (h2 : Tr.ok ys = true) (h3 : Co.ok k = true) : Tr.rootDist xs ys k = FD (Co.cs k) (Tr.inner xs) (Tr.inner ys) + Co.rel k (Tr.l xs 0) (Tr.l ys 0) := by
  unfold Tr.rootDist
  rw [h1, h2, h3]
  rfl
theorem Tr.rootDist_no {xs ys : Tr} {k : Co} (h : (Tr.ok xs && Tr.ok ys && Co.ok k) = false) : Tr.rootDist xs ys k = -1 := by
  unfold Tr.rootDist
  rw [h]
  rfl
/-! unit costs -/
def uc : Cs := ⟨fun _ => 1, fun _ => 1, fun a b => if a = b then 0 else 1⟩
theorem uc_metric : uc.metric := by
  refine ⟨⟨fun a => by show (0 : Int) ≤ 1; omega, fun a => by show (0 : Int) ≤ 1; omega, fun a b => by show (0 : Int) ≤ if a = b then 0 else 1; split <;> omega⟩, fun a b => ?_, fun b c => ?_, fun a b c => ?_⟩
  · show (1 : Int) ≤ (if a = b then 0 else 1) + 1; split <;> omega
  · show (1 : Int) ≤ 1 + (if b = c then 0 else 1); split <;> omega
  · show (if a = c then (0 : Int) else 1) ≤ (if a = b then 0 else 1) + (if b = c then 0 else 1)
    by_cases e1 : a = b
    · subst e1; rw [if_pos rfl]; omega
    · rw [if_neg e1]; split <;> split <;> omega
theorem Co.unit_ok : Co.ok Co.unit = true := by decide
theorem Co.unit_dels : ∀ u : Nat, u < 6 → Co.del Co.unit u = 1 ∧ Co.ins Co.unit u = 1 := by decide
theorem Co.unit_rels : ∀ u : Nat, u < 6 → ∀ v : Nat, v < 6 → Co.rel Co.unit u v = if u = v then 0 else 1 := by decide
theorem Co.unit_rel {a b : Int} (ha : OkL a) (hb : OkL b) : Co.rel Co.unit a b = uc.rel a b := by
  obtain ⟨u, hu, rfl⟩ := ha
  obtain ⟨v, hv, rfl⟩ := hb
  rw [Co.unit_rels u hu v hv]
  show _ = if (u : Int) = (v : Int) then 0 else 1
  by_cases e : u = v
  · rw [if_pos e, if_pos (by rw [e])]
  · rw [if_neg e, if_neg (by omega)]
theorem Tr.rootDist_unit {xs ys : Tr} (h1 : Tr.ok xs = true) (h2 : Tr.ok ys = true) : Tr.rootDist xs ys Co.unit = FD uc (Tr.inner xs) (Tr.inner ys) + uc.rel (Tr.l xs 0) (Tr.l ys 0) := by
  rw [Tr.rootDist_yes h1 h2 Co.unit_ok, Co.unit_rel (Tr.root_lab h1) (Tr.root_lab h2)]
  rw [FD_congr (K := Co.cs Co.unit) (K' := uc) (P := OkL) (fun a ha => by obtain ⟨u, hu, rfl⟩ := ha; exact (Co.unit_dels u hu).1) (fun a ha => by obtain ⟨u, hu, rfl⟩ := ha; exact (Co.unit_dels u hu).2) (fun a b ha hb => Co.unit_rel ha hb) _ _ _ rfl (Tr.inner_all h1) (Tr.inner_all h2)]
/-- the law FnTriangle asks for -/
theorem Tr.triangle {xs ys zs : Tr} (h1 : Tr.ok xs = true) (h2 : Tr.ok ys = true) (h3 : Tr.ok zs = true) :
    0 ≤ Tr.rootDist xs ys Co.unit ∧ Tr.rootDist xs ys Co.unit ≤ 48 ∧ Tr.rootDist xs zs Co.unit ≤ Tr.rootDist xs ys Co.unit + Tr.rootDist ys zs Co.unit ∧ (xs.length : Int) - (ys.length : Int) ≤ Tr.rootDist xs ys Co.unit ∧ (ys.length : Int) - (xs.length : Int) ≤ Tr.rootDist xs ys Co.unit ∧ Tr.rootDist xs ys Co.unit ≤ (xs.length : Int) + (ys.length : Int) - 1 := by
  have t := FD_triangle uc_metric _ (Tr.inner xs) (Tr.inner ys) (Tr.inner zs) rfl
  have g := FD_ge (K := uc) uc_metric.pos (fun a => Int.le_refl 1) (fun a => Int.le_refl 1) _ (Tr.inner xs) (Tr.inner ys) rfl
  have l := FD_le (K := uc) (M := 1) (fun a => Int.le_refl 1) (fun a => Int.le_refl 1) _ (Tr.inner xs) (Tr.inner ys) rfl
  have n := FD_nonneg uc_metric.pos _ (Tr.inner xs) (Tr.inner ys) rfl
  have r := uc_metric.rr (Tr.l xs 0) (Tr.l ys 0) (Tr.l zs 0)
  have r0 : 0 ≤ uc.rel (Tr.l xs 0) (Tr.l ys 0) ∧ uc.rel (Tr.l xs 0) (Tr.l ys 0) ≤ 1 := by
    show (0 : Int) ≤ (if Tr.l xs 0 = Tr.l ys 0 then 0 else 1) ∧ (if Tr.l xs 0 = Tr.l ys 0 then (0 : Int) else 1) ≤ 1
    split <;> omega
  have n1 := (Tr.len24 h1)
  have n2 := (Tr.len24 h2)
  rw [Tr.inner_size h1, Tr.inner_size h2] at g l
  rw [Tr.rootDist_unit h1 h2, Tr.rootDist_unit h1 h3, Tr.rootDist_unit h2 h3]
  refine ⟨by omega, by omega, by omega, by omega, by omega, by omega⟩

end Go.Proofs.Ytajplmopdipbnaa

/- Contracts (RepI). -/
namespace Go.Proofs.Ytajplmopdipbnaa
open Go.RowKit
set_option linter.unusedVariables false

def Rep.row (m k : Nat) (z : Int) : List Int := List.replicate k z ++ List.replicate (m - k) 0
theorem Rep.row_length (m k : Nat) (z : Int) (h : k ≤ m) : (Rep.row m k z).length = m := by simp [Rep.row]; omega
theorem Rep.row_zero (m : Nat) (z : Int) : Rep.row m 0 z = List.replicate m 0 := by simp [Rep.row]
theorem Rep.row_all (m : Nat) (z : Int) : Rep.row m m z = List.replicate m z := by simp [Rep.row]
theorem Rep.splice (m k c : Nat) (z : Int) (h : k + c ≤ m) : Go.splice (ints (Rep.row m k z)) k (ints (List.replicate c z)) = ints (Rep.row m (k + c) z) := by
  have h1 : (ints (Rep.row m k z)).take k = ints (List.replicate k z) := by
    simp only [Rep.row, ints_append]
    rw [List.take_append_of_le_length (by simp [ints])]
    exact List.take_of_length_le (by simp [ints])
  have h2 : (ints (Rep.row m k z)).drop (k + c) = ints (List.replicate (m - (k + c)) 0) := by
    simp only [Rep.row, ints_append]
    rw [List.drop_append]
    simp [ints]
    omega
  have h3 : (ints (List.replicate c z)).length = c := by simp [ints]
  unfold Go.splice
  rw [h3, h1, h2, ← ints_append, ← ints_append, Rep.row, ← List.append_assoc, List.replicate_append_replicate]
theorem own_full {w : World} {base n g : Nat} {e : TypeId} {ys : List Value} (h : w.ownsRow base e 1 (.slice (some ⟨g, 0, none⟩) n n) n ys) : w.heap[g]? = some (.cells ys.toArray e (0, 0)) := by
  rcases h.2 with ⟨h1, _⟩ | ⟨g', cap, cur, hv, _, hh, _, _, hs, ht⟩
  · cases h1
  · injection hv with hA hn hc
    injection hA with hA
    injection hA with hg
    subst hg
    subst hc
    have : cur.toList = ys := by rw [← ht]; exact (List.take_of_length_le (by simp; omega)).symm
    rw [hh, ← this]
theorem own_of_heap {w : World} {base m g : Nat} {e : TypeId} {zs : List Int} (hg : w.heap[g]? = some (.cells (ints zs).toArray e (0, 0))) (hb : base ≤ g) (hl : zs.length = m) (hm : m ≤ maxLen) : w.ownsRow base e 1 (.slice (some ⟨g, 0, none⟩) m m) m (ints zs) := by
  refine ⟨by rw [ints_length, hl]; omega, .inr ⟨g, m, (ints zs).toArray, rfl, hb, hg, Nat.le_refl _, hm, by simp [ints_length, hl], ?_⟩⟩
  rw [List.take_of_length_le (by simp [ints_length, hl])]
theorem Rep.src {w : World} {g m k d j : Nat} {z : Int} {v : Value} (hg : w.heap[g]? = some (.cells (ints (Rep.row m k z)).toArray 3 (0, 0))) (hkm : k ≤ m) (hm : m ≤ 1000) (hdk : d ≤ k) (hj : (ints (List.replicate d z))[j]? = some v) : w.cell? ((⟨g, 0, none⟩ : Addr).add j) = some v := by
  have hjd := (List.getElem?_eq_some_iff.1 hj).1
  rw [ints_length, List.length_replicate] at hjd
  rw [ints_at _ _ (by rw [List.length_replicate]; exact hjd)] at hj
  have h1 := own_of_heap hg (Nat.le_refl _) (Rep.row_length m k z hkm) (by unfold maxLen; omega)
  rw [(IntIn.of_own h1).here (k := j) (by omega), ← hj]
  have h2 : Zs.at (Rep.row m k z) j = z := by simp [Zs.at, Rep.row, List.getD_eq_getElem?_getD, List.getElem?_append, show j < k by omega]
  have h3 : Zs.at (List.replicate d z) j = z := by simp [Zs.at, List.getD_eq_getElem?_getD, hjd]
  rw [h2, h3]
set_option maxHeartbeats 800000 in
set_option maxRecDepth 100000 in
theorem mul_6 (w : World) : Calls Try.prog 105 #[.int .u64 1, .int .u64 6] w fun e w' => e = .returned (.tuple #[.int .u64 0, .int .u64 6]) ∧ w = w' := by
  go_enter Try.func105, Try.ntmps105
  go_wp2
  go_ret2
  exact ⟨rfl, rfl⟩
set_option maxHeartbeats 800000 in
set_option maxRecDepth 100000 in
theorem mul_36 (w : World) : Calls Try.prog 105 #[.int .u64 1, .int .u64 36] w fun e w' => e = .returned (.tuple #[.int .u64 0, .int .u64 36]) ∧ w = w' := by
  go_enter Try.func105, Try.ntmps105
  go_wp2
  go_ret2
  exact ⟨rfl, rfl⟩
theorem info_intR : (Try.prog.info? 3).map (fun i => (i.zero, i.size, i.bytes)) = some (some (.int .i64 0), 1, 8) := by kernel_rfl
theorem size_intR : (Try.prog.info? 3).map (·.size) = some 1 := by kernel_rfl
set_option maxHeartbeats 1600000 in
set_option maxRecDepth 100000 in
theorem repeat_one (A : Option Addr) (c m : Nat) (z : Int) (w : World) (h : IntIn w w.heap.size A 1 [z]) (hm0 : 1 ≤ m) (hm : m ≤ 1000)
    (hmul : ∀ w, Calls Try.prog 105 #[.int .u64 1, .int .u64 m] w fun e w' => e = .returned (.tuple #[.int .u64 0, .int .u64 m]) ∧ w = w') :
    Calls Try.prog 78 #[.slice A 1 c, .int .i64 m] w fun e w' => e = .returned (.slice (some ⟨w.heap.size, 0, none⟩) m m) ∧ w'.ownsRow w.heap.size 3 1 (.slice (some ⟨w.heap.size, 0, none⟩) m m) m (ints (List.replicate m z)) ∧ Below w.heap.size w w' := by
  have H := Lib.hid h
  obtain ⟨ad, rfl, _, hz⟩ := h.at_ (k := 0) (by omega)
  have HZ := Lib.hid hz
  clear h hz
  have HM := Lib.hid hmul
  clear hmul
  obtain ⟨i0, hi, hz0, hz1, hz2⟩ := info_parts info_intR
  have Hi := Lib.hid hi
  clear hi
  obtain ⟨g, hg⟩ : ∃ g, g = w.heap.size := ⟨_, rfl⟩
  have q1 : decide ((m : Int) < 0) = false := by simp
  go_enter Try.func78, Try.ntmps78
  go_wp2_with fail
  refine (HM.out _).mono ?_
  rintro e w' ⟨rfl, rfl⟩
  have q2 : decide (9223372036854775807 < (m : Int)) = false := by simp; omega
  obtain ⟨C1, hC1⟩ : ∃ C, C = ints (List.replicate 1 z) := ⟨_, rfl⟩
  have hl1 : C1.length = 1 := by rw [hC1]; simp [ints]
  have HC1 := Lib.hid hC1
  clear hC1
  go_wp2_with (first | (at_make; go_loud (refine wpList_make_full _ rfl _ _ 25 rfl w.heap.size 3 i0 (.int .i64 0) 1 Try.underlying25 Hi.out hz0 hz1 _ _ _ _ m rfl rfl rfl rfl (by rw [hz2]; omega) (by unfold maxLen; omega) (Nat.le_refl _) ?_); intro w2 hown2 hgrow2; have hb2 : Below w.heap.size w w2 := (Below.refl _ w).grown hgrow2 (Nat.le_refl _) (fun _ h => by cases h); rw [made_zeros 0 m, ← Rep.row_zero m z] at hown2; have HG := Lib.hid (own_full hown2); have HB := Lib.hid hb2; clear hown2 hgrow2 hb2) | (refine wpList_copy_splice rfl _ _ 25 25 rfl 3 Try.underlying25 size_intR _ _ _ _ _ _ rfl rfl w.heap.size 0 (ints (Rep.row m 0 z)) 3 HG.out C1 (by rw [hl1]; exact (Nat.min_eq_left hm0).symm) (fun _ => ⟨rfl, _, rfl, fun j v hj => (H.out.below HB.out).cells_at j v (by rw [HC1.out] at hj; exact hj)⟩) (by rw [hl1, ints_length, Rep.row_length m 0 z (Nat.zero_le _)]; omega) (by rw [HC1.out]; exact ints_cell _) w.heap.size w HB.out (Nat.le_refl _) ?_; intro w3 hg3 hb3; rw [HC1.out, Rep.splice m 0 1 z (by omega)] at hg3; have HG3 := hg3; have HB3 := Lib.hid hb3; clear hg3 hb3))
  clear HG HB
  go_loopw [8] (fun nv wr => ∃ k : Nat, 1 ≤ k ∧ k ≤ m ∧ nv = .int .i64 k ∧ Hid (wr.heap[w.heap.size]? = some (.cells (ints (Rep.row m k z)).toArray 3 (0, 0))) ∧ Below w.heap.size w wr) (fun n _ => m - (intOf n).toNat)
  case atStart => exact ⟨1, Nat.le_refl _, hm0, rfl, HG3, HB3.out⟩
  case round =>
    obtain ⟨k, hk1, hkm, rfl, HG, hB⟩ := hrel
    have HB := Lib.hid hB
    clear hB HG3 HB3
    by_cases hlt : k < m
    · obtain ⟨d, hd⟩ : ∃ d, d = min k (m - k) := ⟨_, rfl⟩
      obtain ⟨C, hC⟩ : ∃ C, C = ints (List.replicate d z) := ⟨_, rfl⟩
      have hl : C.length = d := by rw [hC]; simp [ints]
      have HC := Lib.hid hC
      have HD := Lib.hid hd
      have hdk : k + d ≤ m := by omega
      have hd1 : 1 ≤ d := by omega
      clear hC hd
      have HS := Lib.hid (show IntKind.i64.wrap ((k : Int) + (d : Int)) = ((k + d : Nat) : Int) by rw [Kit.w64 (by omega) (by omega)]; omega)
      have k1 : (k : Int) < (m : Int) := by omega
      have hmk : ¬ m = k := by omega
      have k2 : (0 : Int) ≤ (k : Int) := by omega
      go_wp2
      go_region_held3 (fun _ => True) (trivial) (((refine step_copy_splice rfl _ _ 25 25 rfl 3 Try.underlying25 size_intR _ _ _ _ _ _ rfl rfl w.heap.size k (ints (Rep.row m k z)) 3 HG.out C (by rw [hl, HD.out]) (fun _ => ⟨by (first | rfl | (rw [if_neg hmk])), _, rfl, fun j v hj => Rep.src (d := d) (w := wr) HG.out hkm hm (by rw [HD.out]; exact Nat.min_le_left _ _) (by rw [HC.out] at hj; exact hj)⟩) (by rw [hl, ints_length, Rep.row_length m k z hkm]; exact hdk) (by rw [HC.out]; exact ints_cell _) w.heap.size w HB.out.drew (Nat.le_refl _) ?_); intro w4 hg4 hb4))
      go_wp2
      rw [HC.out, Rep.splice m k d z hdk] at hg4
      rw [HS.out]
      go_roundw
      case rel => exact ⟨k + d, by omega, hdk, rfl, hg4, hb4⟩
      case measure => simp [intOf]; omega
    · obtain rfl : k = m := by omega
      go_wp2
      go_ret
      refine ⟨rfl, ?_, HB.out⟩
      have := own_of_heap HG.out (Nat.le_refl _) (Rep.row_length k k z (Nat.le_refl _)) (by unfold maxLen; omega)
      rw [Rep.row_all] at this
      exact this

end Go.Proofs.Ytajplmopdipbnaa

/- Contracts (IntH). -/
namespace Go.Proofs.Ytajplmopdipbnaa
open Go.RowKit
set_option linter.unusedVariables false

set_option maxHeartbeats 800000 in
set_option maxRecDepth 100000 in
theorem eqIntS_any (A A' : Option Addr) (n c n' c' : Nat) (xs ys : List Int) (w : World) (h : IntIn w w.heap.size A n xs) (h' : IntIn w w.heap.size A' n' ys) (hn : n ≤ 1048576) (hn' : n' ≤ 1048576) :
    Calls Try.prog 45 #[.slice A n c, .slice A' n' c'] w fun e w' => e = .returned (.bool (decide (xs = ys))) ∧ Below w.heap.size w w' := by
  have H := Lib.hid h
  have H' := Lib.hid h'
  clear h h'
  have HL := Lib.hid H.out.1
  have HL' := Lib.hid H'.out.1
  by_cases hnn : n = n'
  · go_enter Try.func45, Try.ntmps45
    have Hnn := Lib.hid hnn
    have hne : ((n : Int) != (n' : Int)) = false := by simp [hnn]
    clear hnn
    go_wp2
    go_loopw [5] (fun iv wr => ∃ k : Nat, k ≤ n ∧ iv = .int .i64 k ∧ (∀ j, j < k → Zs.at xs j = Zs.at ys j) ∧ Drawn w wr) (fun i _ => n - (intOf i).toNat)
    case atStart => exact ⟨0, by omega, rfl, fun j hj => absurd hj (by omega), Drawn.refl _⟩
    case round =>
      obtain ⟨k, hk, rfl, hsm, hD⟩ := hrel
      have Hsm := Lib.hid hsm
      clear hsm
      by_cases hlt : k < n
      · obtain ⟨ad, rfl, hb, hl⟩ := (H.out.drawn hD).at_ hlt
        obtain ⟨ad', rfl, hb', hl'⟩ := (H'.out.drawn hD).at_ (k := k) (by rw [← Hnn.out]; exact hlt)
        have hlt' : (k : Int) < (n' : Int) := by rw [← Hnn.out]; omega
        have hk0 : (0 : Int) ≤ (k : Int) := by omega
        by_cases hq1 : Zs.at xs k = Zs.at ys k
        · have Hq := Lib.hid hq1
          have q1 : (Zs.at xs k != Zs.at ys k) = false := by simpa using hq1
          clear hq1
          go_wp2
          go_quiet (fail)
          go_wp2
          go_roundw
          case rel => exact ⟨k + 1, by omega, by go_num, fun j hj => by
            rcases Nat.lt_succ_iff_lt_or_eq.1 hj with h' | rfl
            · exact Hsm.out j h'
            · exact Hq.out, hD.drewN _⟩
          case measure => simp [intOf]; omega
        · have Hq := Lib.hid hq1
          have q1 : (Zs.at xs k != Zs.at ys k) = true := by simpa using hq1
          clear hq1
          go_wp2
          go_quiet (fail)
          go_wp2
          go_ret
          refine ⟨Kit.ret_bool ?_, (hD.drewN _).toBelow⟩
          symm
          rw [decide_eq_false_iff_not]
          rintro rfl
          exact Hq.out rfl
      · obtain rfl : k = n := by omega
        go_wp2
        go_ret
        refine ⟨Kit.ret_bool ?_, hD.toBelow⟩
        symm
        rw [decide_eq_true_eq]
        exact Zs.ext (by rw [HL.out, HL'.out]; exact Hnn.out) (fun j hj => Hsm.out j (by rw [← HL.out]; exact hj))
  · have hne : ((n : Int) != (n' : Int)) = true := by simp; omega
    have Hq := Lib.hid (show decide (xs = ys) = false by
      rw [decide_eq_false_iff_not]; rintro rfl; exact hnn (HL.out.symm.trans HL'.out))
    clear hnn
    go_enter Try.func45, Try.ntmps45
    go_wp2
    go_ret
    exact ⟨Kit.ret_bool Hq.out.symm, Below.refl _ _⟩

set_option maxHeartbeats 800000 in
set_option maxRecDepth 100000 in
theorem markIntS_any (A : Option Addr) (n c base : Nat) (e0 : TypeId) (k0 : Int) (zs : List Int) (w : World) (h : w.ownsRow base e0 1 (.slice A n c) n (ints zs)) (hn : n ≤ 1048576) (h0 : 0 ≤ k0) (h1 : k0 ≤ 1073741824) :
    Calls Try.prog 50 #[.slice A n c, .int .i64 k0] w fun e w' => e = .returned (.int .i64 (k0 + n)) ∧ w'.ownsRow base e0 1 (.slice A n c) n (ints (Zs.marks k0 n)) ∧ w.grownBy w' (Value.ownBlock (.slice A n c)) := by
  have H := Lib.hid h
  have HL := Lib.hid (show zs.length = n by have := h.1; rw [ints_length] at this; omega)
  clear h
  go_enter Try.func50, Try.ntmps50
  go_wp2
  go_loopw [5, 1] (fun iv kv wr => ∃ j : Nat, j ≤ n ∧ iv = .int .i64 j ∧ kv = .int .i64 (k0 + j) ∧ wr.ownsRow base e0 1 (.slice A n c) n (ints (Zs.marked k0 zs j)) ∧ w.grownBy wr (Value.ownBlock (.slice A n c))) (fun i _ _ => n - (intOf i).toNat)
  case atStart => exact ⟨0, by omega, rfl, by simp, by simpa [Zs.marked, Zs.marks] using H.out, World.grownBy.refl _ _⟩
  case round =>
    obtain ⟨j, hj, rfl, rfl, hown, hgr⟩ := hrel
    by_cases hlt : j < n
    · obtain ⟨g, rfl, hg⟩ := own_form hown (by omega)
      have Ho := Lib.hid hown
      have Hg := Lib.hid hgr
      have c0 := own_int hown (k := j) (by rw [Zs.marked_length _ _ _ (by rw [HL.out]; omega), HL.out]; exact hlt)
      have f0 := hown.frozenAt j
      clear hown hgr hg
      go_wp2
      go_roundw
      case rel =>
        refine ⟨j + 1, by omega, by go_num, by go_num, ?_, grown_tr Hg.out (Ho.out.stored _ _).2⟩
        have := (Ho.out.stored j (.int .i64 (k0 + (j : Nat)))).1
        rw [ints_set, Zs.marked_set _ _ _ (by rw [HL.out]; exact hlt)] at this
        exact this
      case measure => simp [intOf]; omega
    · obtain rfl : j = n := by omega
      have Ho := Lib.hid hown
      have Hg := Lib.hid hgr
      clear hown hgr
      go_wp2
      go_ret
      refine ⟨rfl, ?_, Hg.out⟩
      have := Ho.out
      rw [← HL.out, Zs.marked_all, HL.out] at this
      exact this

set_option maxHeartbeats 800000 in
set_option maxRecDepth 100000 in
theorem heldIntS_any (A : Option Addr) (n c base : Nat) (e0 : TypeId) (k0 : Int) (w : World) (h : w.ownsRow base e0 1 (.slice A n c) n (ints (Zs.marks k0 n))) (hn : n ≤ 1048576) (h0 : 0 ≤ k0) (h1 : k0 ≤ 1073741824) :
    Calls Try.prog 51 #[.slice A n c, .int .i64 k0] w fun e w' => e = .returned (.int .i64 (k0 + n)) ∧ w = w' := by
  have H := Lib.hid h
  clear h
  go_enter Try.func51, Try.ntmps51
  go_wp2
  go_loop [5, 1] (fun iv kv => ∃ j : Nat, j ≤ n ∧ iv = .int .i64 j ∧ kv = .int .i64 (k0 + j)) (fun i _ => n - (intOf i).toNat)
  case atStart => exact ⟨0, by omega, rfl, by simp⟩
  case round =>
    obtain ⟨j, hj, rfl, rfl⟩ := hrel
    by_cases hlt : j < n
    · obtain ⟨g, rfl, hg⟩ := own_form H.out (by omega)
      have c0 := own_int H.out (k := j) (by rw [Zs.marks_length]; exact hlt)
      rw [Zs.marks_at _ _ _ hlt] at c0
      clear hg
      go_wp2
      go_round
      case rel => exact ⟨j + 1, by omega, by go_num, by go_num⟩
      case measure => simp [intOf]; omega
    · obtain rfl : j = n := by omega
      go_wp2
      go_ret
      exact ⟨rfl, rfl⟩


end Go.Proofs.Ytajplmopdipbnaa

/- Contracts (HarC). -/
namespace Go.Proofs.Ytajplmopdipbnaa
open Go.RowKit
set_option linter.unusedVariables false

set_option maxHeartbeats 1600000 in
set_option maxRecDepth 100000 in
theorem eqCost_any (A0 A1 A2 : Option Addr) (n0 n1 n2 c0 c1 c2 : Nat) (k : Co) (B0 B1 B2 : Option Addr) (m0 m1 m2 d0 d1 d2 : Nat) (l : Co) (w : World) (h : CoIn w w.heap.size A0 A1 A2 n0 n1 n2 k) (h' : CoIn w w.heap.size B0 B1 B2 m0 m1 m2 l)
    (h0 : n0 ≤ 1048576) (h1 : n1 ≤ 1048576) (h2 : n2 ≤ 1048576) (l0 : m0 ≤ 1048576) (l1 : m1 ≤ 1048576) (l2 : m2 ≤ 1048576) :
    Calls Try.prog 47 #[.agg #[.slice A0 n0 c0, .slice A1 n1 c1, .slice A2 n2 c2], .agg #[.slice B0 m0 d0, .slice B1 m1 d1, .slice B2 m2 d2]] w fun e w' => e = .returned (.bool (Co.same k l)) ∧ Below w.heap.size w w' := by
  have H := Lib.hid h
  have H' := Lib.hid h'
  clear h h'
  obtain ⟨o1, ho1⟩ : ∃ o, o = Obj.cells #[.slice A0 n0 c0, .slice A1 n1 c1, .slice A2 n2 c2] 27 := ⟨_, rfl⟩
  obtain ⟨o2, ho2⟩ : ∃ o, o = Obj.cells #[.slice B0 m0 d0, .slice B1 m1 d1, .slice B2 m2 d2] 27 := ⟨_, rfl⟩
  have hba := (Below.refl w.heap.size w).alloc (Nat.le_refl _) o1
  have HB := Lib.hid (hba.alloc hba.size o2)
  have hlt : w.heap.size < (w.alloc o1).heap.size := by simp
  have GL := Lib.hid (show w.heap.size < ((w.alloc o1).alloc o2).heap.size ∧ w.heap.size + 1 < ((w.alloc o1).alloc o2).heap.size by simp; omega)
  have GA := Lib.hid ((show Box3 (w.alloc o1) w.heap.size (.slice A0 n0 c0) (.slice A1 n1 c1) (.slice A2 n2 c2) by rw [ho1]; exact Box3.made _ _ _ _ _).alloc hlt o2)
  have GB := Lib.hid (show Box3 ((w.alloc o1).alloc o2) (w.alloc o1).heap.size (.slice B0 m0 d0) (.slice B1 m1 d1) (.slice B2 m2 d2) by rw [ho2]; exact Box3.made _ _ _ _ _)
  have hs1 : (w.alloc o1).heap.size = w.heap.size + 1 := by simp
  rw [hs1] at GB
  clear hba hlt hs1
  subst ho1
  subst ho2
  have HA := Lib.hid (H.out.to_below HB.out)
  have HA' := Lib.hid (H'.out.to_below HB.out)
  cases e0 : decide (k.d = l.d) with
  | false =>
    have Hf := Lib.hid (show Co.same k l = false by unfold Co.same; rw [e0]; rfl)
    have E0 := Lib.hid e0
    clear e0
    go_enter Try.func47, Try.ntmps47
    obtain ⟨g0, g1, g2⟩ := GA.out
    obtain ⟨g3, g4, g5⟩ := GB.out
    go_wp2_with fail
    clear g0 g1 g2 g3 g4 g5
    refine (eqIntS_any _ _ _ _ _ _ k.d l.d _ HA.out.1 HA'.out.1 h0 l0).mono ?_
    rintro e w1 ⟨rfl, hd⟩
    have HB := Lib.hid (HB.out.trans (hd.mono HB.out.size))
    have GA := Lib.hid (GA.out.below hd (GL.out.1))
    have GB := Lib.hid (GB.out.below hd (GL.out.2))
    have HA := Lib.hid (HA.out.to_below hd)
    have HA' := Lib.hid (HA'.out.to_below hd)
    have GL := Lib.hid (And.intro (Nat.lt_of_lt_of_le GL.out.1 hd.size) (Nat.lt_of_lt_of_le GL.out.2 hd.size))
    clear hd
    rw [E0.out]
    go_wp2
    go_ret
    exact ⟨Kit.ret_bool Hf.out.symm, HB.out⟩
  | true =>
    cases e1 : decide (k.i = l.i) with
    | false =>
      have Hf := Lib.hid (show Co.same k l = false by unfold Co.same; rw [e0, e1]; rfl)
      have E0 := Lib.hid e0
      have E1 := Lib.hid e1
      clear e0 e1
      go_enter Try.func47, Try.ntmps47
      obtain ⟨g0, g1, g2⟩ := GA.out
      obtain ⟨g3, g4, g5⟩ := GB.out
      go_wp2_with fail
      clear g0 g1 g2 g3 g4 g5
      refine (eqIntS_any _ _ _ _ _ _ k.d l.d _ HA.out.1 HA'.out.1 h0 l0).mono ?_
      rintro e w1 ⟨rfl, hd⟩
      have HB := Lib.hid (HB.out.trans (hd.mono HB.out.size))
      have GA := Lib.hid (GA.out.below hd (GL.out.1))
      have GB := Lib.hid (GB.out.below hd (GL.out.2))
      have HA := Lib.hid (HA.out.to_below hd)
      have HA' := Lib.hid (HA'.out.to_below hd)
      have GL := Lib.hid (And.intro (Nat.lt_of_lt_of_le GL.out.1 hd.size) (Nat.lt_of_lt_of_le GL.out.2 hd.size))
      clear hd
      rw [E0.out]
      obtain ⟨g0, g1, g2⟩ := GA.out
      obtain ⟨g3, g4, g5⟩ := GB.out
      go_wp2_with fail
      clear g0 g1 g2 g3 g4 g5
      refine (eqIntS_any _ _ _ _ _ _ k.i l.i _ HA.out.2.1 HA'.out.2.1 h1 l1).mono ?_
      rintro e w2 ⟨rfl, hd⟩
      have HB := Lib.hid (HB.out.trans (hd.mono HB.out.size))
      have GA := Lib.hid (GA.out.below hd (GL.out.1))
      have GB := Lib.hid (GB.out.below hd (GL.out.2))
      have HA := Lib.hid (HA.out.to_below hd)
      have HA' := Lib.hid (HA'.out.to_below hd)
      have GL := Lib.hid (And.intro (Nat.lt_of_lt_of_le GL.out.1 hd.size) (Nat.lt_of_lt_of_le GL.out.2 hd.size))
      clear hd
      rw [E1.out]
      go_wp2
      go_ret
      exact ⟨Kit.ret_bool Hf.out.symm, HB.out⟩
    | true =>
      cases e2 : decide (k.r = l.r) with
      | false =>
        have Hf := Lib.hid (show Co.same k l = false by unfold Co.same; rw [e0, e1, e2]; rfl)
        have E0 := Lib.hid e0
        have E1 := Lib.hid e1
        have E2 := Lib.hid e2
        clear e0 e1 e2
        go_enter Try.func47, Try.ntmps47
        obtain ⟨g0, g1, g2⟩ := GA.out
        obtain ⟨g3, g4, g5⟩ := GB.out
        go_wp2_with fail
        clear g0 g1 g2 g3 g4 g5
        refine (eqIntS_any _ _ _ _ _ _ k.d l.d _ HA.out.1 HA'.out.1 h0 l0).mono ?_
        rintro e w1 ⟨rfl, hd⟩
        have HB := Lib.hid (HB.out.trans (hd.mono HB.out.size))
        have GA := Lib.hid (GA.out.below hd (GL.out.1))
        have GB := Lib.hid (GB.out.below hd (GL.out.2))
        have HA := Lib.hid (HA.out.to_below hd)
        have HA' := Lib.hid (HA'.out.to_below hd)
        have GL := Lib.hid (And.intro (Nat.lt_of_lt_of_le GL.out.1 hd.size) (Nat.lt_of_lt_of_le GL.out.2 hd.size))
        clear hd
        rw [E0.out]
        obtain ⟨g0, g1, g2⟩ := GA.out
        obtain ⟨g3, g4, g5⟩ := GB.out
        go_wp2_with fail
        clear g0 g1 g2 g3 g4 g5
        refine (eqIntS_any _ _ _ _ _ _ k.i l.i _ HA.out.2.1 HA'.out.2.1 h1 l1).mono ?_
        rintro e w2 ⟨rfl, hd⟩
        have HB := Lib.hid (HB.out.trans (hd.mono HB.out.size))
        have GA := Lib.hid (GA.out.below hd (GL.out.1))
        have GB := Lib.hid (GB.out.below hd (GL.out.2))
        have HA := Lib.hid (HA.out.to_below hd)
        have HA' := Lib.hid (HA'.out.to_below hd)
        have GL := Lib.hid (And.intro (Nat.lt_of_lt_of_le GL.out.1 hd.size) (Nat.lt_of_lt_of_le GL.out.2 hd.size))
        clear hd
        rw [E1.out]
        obtain ⟨g0, g1, g2⟩ := GA.out
        obtain ⟨g3, g4, g5⟩ := GB.out
        go_wp2_with fail
        clear g0 g1 g2 g3 g4 g5
        refine (eqIntS_any _ _ _ _ _ _ k.r l.r _ HA.out.2.2 HA'.out.2.2 h2 l2).mono ?_
        rintro e w3 ⟨rfl, hd⟩
        have HB := Lib.hid (HB.out.trans (hd.mono HB.out.size))
        have GA := Lib.hid (GA.out.below hd (GL.out.1))
        have GB := Lib.hid (GB.out.below hd (GL.out.2))
        have HA := Lib.hid (HA.out.to_below hd)
        have HA' := Lib.hid (HA'.out.to_below hd)
        have GL := Lib.hid (And.intro (Nat.lt_of_lt_of_le GL.out.1 hd.size) (Nat.lt_of_lt_of_le GL.out.2 hd.size))
        clear hd
        rw [E2.out]
        go_wp2
        go_ret
        exact ⟨Kit.ret_bool Hf.out.symm, HB.out⟩
      | true =>
        have Hf := Lib.hid (show Co.same k l = true by unfold Co.same; rw [e0, e1, e2]; rfl)
        have E0 := Lib.hid e0
        have E1 := Lib.hid e1
        have E2 := Lib.hid e2
        clear e0 e1 e2
        go_enter Try.func47, Try.ntmps47
        obtain ⟨g0, g1, g2⟩ := GA.out
        obtain ⟨g3, g4, g5⟩ := GB.out
        go_wp2_with fail
        clear g0 g1 g2 g3 g4 g5
        refine (eqIntS_any _ _ _ _ _ _ k.d l.d _ HA.out.1 HA'.out.1 h0 l0).mono ?_
        rintro e w1 ⟨rfl, hd⟩
        have HB := Lib.hid (HB.out.trans (hd.mono HB.out.size))
        have GA := Lib.hid (GA.out.below hd (GL.out.1))
        have GB := Lib.hid (GB.out.below hd (GL.out.2))
        have HA := Lib.hid (HA.out.to_below hd)
        have HA' := Lib.hid (HA'.out.to_below hd)
        have GL := Lib.hid (And.intro (Nat.lt_of_lt_of_le GL.out.1 hd.size) (Nat.lt_of_lt_of_le GL.out.2 hd.size))
        clear hd
        rw [E0.out]
        obtain ⟨g0, g1, g2⟩ := GA.out
        obtain ⟨g3, g4, g5⟩ := GB.out
        go_wp2_with fail
        clear g0 g1 g2 g3 g4 g5
        refine (eqIntS_any _ _ _ _ _ _ k.i l.i _ HA.out.2.1 HA'.out.2.1 h1 l1).mono ?_
        rintro e w2 ⟨rfl, hd⟩
        have HB := Lib.hid (HB.out.trans (hd.mono HB.out.size))
        have GA := Lib.hid (GA.out.below hd (GL.out.1))
        have GB := Lib.hid (GB.out.below hd (GL.out.2))
        have HA := Lib.hid (HA.out.to_below hd)
        have HA' := Lib.hid (HA'.out.to_below hd)
        have GL := Lib.hid (And.intro (Nat.lt_of_lt_of_le GL.out.1 hd.size) (Nat.lt_of_lt_of_le GL.out.2 hd.size))
        clear hd
        rw [E1.out]
        obtain ⟨g0, g1, g2⟩ := GA.out
        obtain ⟨g3, g4, g5⟩ := GB.out
        go_wp2_with fail
        clear g0 g1 g2 g3 g4 g5
        refine (eqIntS_any _ _ _ _ _ _ k.r l.r _ HA.out.2.2 HA'.out.2.2 h2 l2).mono ?_
        rintro e w3 ⟨rfl, hd⟩
        have HB := Lib.hid (HB.out.trans (hd.mono HB.out.size))
        have GA := Lib.hid (GA.out.below hd (GL.out.1))
        have GB := Lib.hid (GB.out.below hd (GL.out.2))
        have HA := Lib.hid (HA.out.to_below hd)
        have HA' := Lib.hid (HA'.out.to_below hd)
        have GL := Lib.hid (And.intro (Nat.lt_of_lt_of_le GL.out.1 hd.size) (Nat.lt_of_lt_of_le GL.out.2 hd.size))
        clear hd
        rw [E2.out]
        go_wp2
        go_ret
        exact ⟨Kit.ret_bool Hf.out.symm, HB.out⟩
set_option maxHeartbeats 1600000 in
set_option maxRecDepth 100000 in
theorem markCost_any (A0 A1 A2 : Option Addr) (c0 c1 c2 base : Nat) (k0 : Int) (k : Co) (w : World) (h : OwnC w base A0 A1 A2 c0 c1 c2 k) (hb : base ≤ w.heap.size) (l0 : k.d.length ≤ 1048576) (l1 : k.i.length ≤ 1048576) (l2 : k.r.length ≤ 1048576) (h0 : 0 ≤ k0) (h1 : k0 ≤ 1000000000) :
    Calls Try.prog 49 #[.agg #[.slice A0 k.d.length c0, .slice A1 k.i.length c1, .slice A2 k.r.length c2], .int .i64 k0] w fun e w' => e = .returned (.int .i64 (k0 + k.d.length + k.i.length + k.r.length)) ∧ OwnC w' base A0 A1 A2 c0 c1 c2 (Co.marks k0 k) ∧ Below base w w' ∧ w.heap.size ≤ w'.heap.size ∧ Only3 (.slice A0 k.d.length c0) (.slice A1 k.i.length c1) (.slice A2 k.r.length c2) w w' := by
  obtain ⟨o0, o1, o2, a01, a02, a12⟩ := h
  obtain ⟨wa, hwa⟩ : ∃ wa, wa = w.alloc (.cells #[.slice A0 k.d.length c0, .slice A1 k.i.length c1, .slice A2 k.r.length c2] 27) := ⟨_, rfl⟩
  have HX := Lib.hid (show Box3 wa w.heap.size (.slice A0 k.d.length c0) (.slice A1 k.i.length c1) (.slice A2 k.r.length c2) by rw [hwa]; exact Box3.made _ _ _ _ _)
  have HSL := Lib.hid (show w.heap.size < wa.heap.size by rw [hwa]; simp)
  have HBW := Lib.hid (show Below base w wa by rw [hwa]; exact (Below.refl _ _).alloc hb _)
  have hl : ∀ (v : Value) (n : Nat) (ys : List Value), w.ownsRow base 3 1 v n ys → ∀ b, v.ownBlock = some b → b ≠ w.heap.size := fun v n ys ho b hb => by have := (ho.lt b hb).2; omega
  have HL := Lib.hid (And.intro (hl _ _ _ o0) (And.intro (hl _ _ _ o1) (hl _ _ _ o2)))
  have HO := Lib.hid (show wa.ownsRow base 3 1 (.slice A0 k.d.length c0) k.d.length (ints k.d) ∧ wa.ownsRow base 3 1 (.slice A1 k.i.length c1) k.i.length (ints k.i) ∧ wa.ownsRow base 3 1 (.slice A2 k.r.length c2) k.r.length (ints k.r) by
    rw [hwa]; exact ⟨o0.alloc _, o1.alloc _, o2.alloc _⟩)
  have HAP := Lib.hid (And.intro a01 (And.intro a02 a12))
  have HSW := Lib.hid (show base ≤ wa.heap.size ∧ w.heap.size ≤ wa.heap.size by rw [hwa]; simp; omega)
  have HON := Lib.hid (show Only3 (.slice A0 k.d.length c0) (.slice A1 k.i.length c1) (.slice A2 k.r.length c2) w wa by rw [hwa]; exact fun i hi _ _ _ => Below.heap_alloc w _ i hi)
  clear o0 o1 o2 a01 a02 a12 hl hb
  obtain ⟨N0, hN0⟩ : ∃ N0 : Int, N0 = (k.d.length : Int) := ⟨_, rfl⟩
  obtain ⟨N1, hN1⟩ : ∃ N1 : Int, N1 = (k.i.length : Int) := ⟨_, rfl⟩
  go_enter Try.func49, Try.ntmps49
  go_wp2_with fail
  rw [← hwa]
  refine (markIntS_any A0 _ c0 base _ k0 k.d _ HO.out.1 l0 h0 (by omega)).mono ?_
  rintro e w1 ⟨rfl, ho, hg⟩
  have HX := Lib.hid (HX.out.grown hg HSL.out HL.out.1)
  have HON := Lib.hid (show Only3 _ _ _ w _ from fun i hi h1 h2 h3 => (hg.block i (Nat.lt_of_lt_of_le hi HSW.out.2) (fun e => h1 e.symm)).trans (HON.out i hi h1 h2 h3))
  have HBW := Lib.hid (own_below_of HBW.out HO.out.1 hg (Nat.le_refl _) HSW.out.1)
  have HO := Lib.hid (And.intro ho (And.intro (World.ownsRow.kept HO.out.2.1 hg HAP.out.1.symm) (World.ownsRow.kept HO.out.2.2 hg HAP.out.2.1.symm)))
  have HSL := Lib.hid (Nat.lt_of_lt_of_le HSL.out hg.size)
  have HSW := Lib.hid (And.intro (Nat.le_trans HSW.out.1 hg.size) (Nat.le_trans HSW.out.2 hg.size))
  clear ho hg
  have g0 := HX.out.2.1
  go_wp2_with fail
  clear g0
  refine (markIntS_any A1 _ c1 base _ (k0 + k.d.length) k.i _ HO.out.2.1 l1 (by omega) (by omega)).mono ?_
  rintro e w2 ⟨rfl, ho, hg⟩
  have HX := Lib.hid (HX.out.grown hg HSL.out HL.out.2.1)
  have HON := Lib.hid (show Only3 _ _ _ w _ from fun i hi h1 h2 h3 => (hg.block i (Nat.lt_of_lt_of_le hi HSW.out.2) (fun e => h2 e.symm)).trans (HON.out i hi h1 h2 h3))
  have HBW := Lib.hid (own_below_of HBW.out HO.out.2.1 hg (Nat.le_refl _) HSW.out.1)
  have HO := Lib.hid (And.intro (World.ownsRow.kept HO.out.1 hg HAP.out.1) (And.intro ho (World.ownsRow.kept HO.out.2.2 hg HAP.out.2.2.symm)))
  have HSL := Lib.hid (Nat.lt_of_lt_of_le HSL.out hg.size)
  have HSW := Lib.hid (And.intro (Nat.le_trans HSW.out.1 hg.size) (Nat.le_trans HSW.out.2 hg.size))
  clear ho hg
  have g0 := HX.out.2.2
  go_wp2_with fail
  clear g0
  refine (markIntS_any A2 _ c2 base _ (k0 + k.d.length + k.i.length) k.r _ HO.out.2.2 l2 (by omega) (by omega)).mono ?_
  rintro e w3 ⟨rfl, ho, hg⟩
  have HON := Lib.hid (show Only3 _ _ _ w _ from fun i hi h1 h2 h3 => (hg.block i (Nat.lt_of_lt_of_le hi HSW.out.2) (fun e => h3 e.symm)).trans (HON.out i hi h1 h2 h3))
  have HBW := Lib.hid (own_below_of HBW.out HO.out.2.2 hg (Nat.le_refl _) HSW.out.1)
  have HO := Lib.hid (And.intro (World.ownsRow.kept HO.out.1 hg HAP.out.2.1) (And.intro (World.ownsRow.kept HO.out.2.1 hg HAP.out.2.2) ho))
  have HSW := Lib.hid (And.intro (Nat.le_trans HSW.out.1 hg.size) (Nat.le_trans HSW.out.2 hg.size))
  clear ho hg
  go_wp2
  go_ret
  refine ⟨rfl, ?_, HBW.out, HSW.out.2, HON.out⟩
  unfold OwnC
  rw [Co.marks_d, Co.marks_i, Co.marks_r]
  exact ⟨HO.out.1, HO.out.2.1, HO.out.2.2, HAP.out⟩

end Go.Proofs.Ytajplmopdipbnaa

/- Contracts (UnitI). -/
namespace Go.Proofs.Ytajplmopdipbnaa
open Go.RowKit
set_option linter.unusedVariables false

def Co.udiag (a : Nat) : List Int := (List.range 36).map fun p => if p / 6 = p % 6 ∧ p / 6 < a then 0 else 1
theorem Co.udiag_zero : Co.udiag 0 = List.replicate 36 1 := by decide
theorem Co.udiag_all : Co.udiag 6 = Co.urel 36 := by decide
theorem Co.udiag_length (a : Nat) : (Co.udiag a).length = 36 := by simp [Co.udiag]
theorem Co.udiag_set : ∀ a, a < 6 → (Co.udiag a).set (a * 6 + a) 0 = Co.udiag (a + 1) := by decide
/-- what a loop that writes into one row finds at its head -/
def UnitG (w0 : World) (s g : Nat) (v0 v1 v2 : Value) (w : World) : Prop :=
  Box3 w s (.slice none 0 0) (.slice none 0 0) (.slice none 0 0) ∧ (∀ off, w.frozen? ⟨s, off, none⟩ = false) ∧ Box3 w g v0 v1 v2 ∧ w.ownsRow w0.heap.size 3 1 v0 6 (ints (List.replicate 6 1)) ∧ w.ownsRow w0.heap.size 3 1 v1 6 (ints (List.replicate 6 1)) ∧
  Apart v0 v1 ∧ Apart v0 v2 ∧ Apart v1 v2 ∧ Below w0.heap.size w0 w ∧ s < w.heap.size ∧ g < w.heap.size ∧ (∀ b, v2.ownBlock = some b → b ≠ s ∧ b ≠ g ∧ w0.heap.size ≤ b) ∧ w0.heap.size ≤ s ∧ ¬ s = g
theorem free_grown {w w' : World} {g : Nat} {r : Option Nat} (hg : w.grownBy w' r) (hl : g < w.heap.size) (hr : ∀ b, r = some b → b ≠ g) (h : ∀ off, w.frozen? ⟨g, off, none⟩ = false) (off : Nat) : w'.frozen? ⟨g, off, none⟩ = false := by
  have e := hg.block g hl (fun e => hr g e.symm rfl)
  have := h off
  unfold World.frozen? at this ⊢
  simp only [e]
  exact this
theorem UnitG.kept {w0 w w' : World} {s g : Nat} {v0 v1 v2 : Value} (h : UnitG w0 s g v0 v1 v2 w) (hg : w.grownBy w' v2.ownBlock) : UnitG w0 s g v0 v1 v2 w' := by
  obtain ⟨hx, hf, hy, o0, o1, a01, a02, a12, hB, hs, hgl, hb, h0, hsg⟩ := h
  refine ⟨hx.grown hg hs (fun b e => (hb b e).1), free_grown hg hs (fun b e => (hb b e).1) hf, hy.grown hg hgl (fun b e => (hb b e).2.1), World.ownsRow.kept o0 hg a02, World.ownsRow.kept o1 hg a12, a01, a02, a12, hB.grown hg hB.size (fun b e => (hb b e).2.2), Nat.lt_of_lt_of_le hs hg.size, Nat.lt_of_lt_of_le hgl hg.size, hb, h0, hsg⟩
theorem UnitG.drewN {w0 w : World} {s g : Nat} {v0 v1 v2 : Value} (h : UnitG w0 s g v0 v1 v2 w) (n : Nat) : UnitG w0 s g v0 v1 v2 (w.drewN n) := h.kept (Kit.grown_drewN w n _)
set_option maxHeartbeats 1600000 in
set_option maxRecDepth 100000 in
theorem implUnitCost_any (w : World) : Calls Try.prog 37 #[] w (OwnCo Co.unit w) := by
  obtain ⟨wz, hwz⟩ : ∃ wz, wz = (w.alloc (.cells #[.slice none 0 0, .slice none 0 0, .slice none 0 0] 27)).alloc (.cells #[.int .i64 1] 3) := ⟨_, rfl⟩
  have hsz : wz.heap.size = w.heap.size + 2 := by rw [hwz]; simp
  have HIN := Lib.hid (show IntIn wz wz.heap.size (some ⟨w.heap.size + 1, 0, none⟩) 1 [1] by
    refine ⟨rfl, fun _ => ⟨_, rfl, by simp only; omega⟩, fun ad e k hk => ?_⟩
    obtain rfl : (⟨w.heap.size + 1, 0, none⟩ : Addr) = ad := by injection e
    obtain rfl : k = 0 := by omega
    rw [hwz]
    simp [Addr.add, Zs.at])
  have HX := Lib.hid (show Box3 wz w.heap.size (.slice none 0 0) (.slice none 0 0) (.slice none 0 0) by rw [hwz]; exact (Box3.made _ _ _ _ _).alloc (by simp) _)
  have HF := Lib.hid (show ∀ off, wz.frozen? ⟨w.heap.size, off, none⟩ = false by rw [hwz]; exact fun off => by simp)
  have HB := Lib.hid (show Below w.heap.size w wz by rw [hwz]; exact ((Below.refl _ _).alloc (Nat.le_refl _) _).alloc (by simp) _)
  have HS := Lib.hid hsz
  clear hsz
  go_enter Try.func37, Try.ntmps37
  go_wp2_with fail
  rw [← hwz]
  have HWZ := Lib.hid hwz
  clear hwz
  refine (repeat_one _ _ 6 1 _ HIN.out (by decide) (by decide) mul_6).mono ?_
  rintro e w1 ⟨rfl, o0, b1⟩
  have HIN := Lib.hid (HIN.out.to_below b1)
  go_wp2_with fail
  refine (repeat_one _ _ 6 1 _ HIN.out (by decide) (by decide) mul_6).mono ?_
  rintro e w2 ⟨rfl, o1, b2⟩
  have HIN := Lib.hid (HIN.out.to_below b2)
  go_wp2_with fail
  refine (repeat_one _ _ 36 1 _ HIN.out (by decide) (by decide) mul_36).mono ?_
  rintro e w3 ⟨rfl, o2, b3⟩
  go_wp2
  obtain ⟨h0, eh0⟩ : ∃ x, x = wz.heap.size := ⟨_, rfl⟩
  obtain ⟨h1, eh1⟩ : ∃ x, x = w1.heap.size := ⟨_, rfl⟩
  obtain ⟨h2, eh2⟩ : ∃ x, x = w2.heap.size := ⟨_, rfl⟩
  obtain ⟨g, eg⟩ : ∃ x, x = w3.heap.size := ⟨_, rfl⟩
  rw [← eh0, ← eh1, ← eh2, ← eg]
  rw [← eh0] at o0
  rw [← eh1] at o1
  rw [← eh2] at o2
  have s1 := HS.out
  have l1 := (o0.lt h0 rfl).2
  have l2 := (o1.lt h1 rfl).2
  have l3 := (o2.lt h2 rfl).2
  have z1 := b1.size
  have z2 := b2.size
  have z3 := b3.size
  obtain ⟨wl, hwl⟩ : ∃ wl, wl = w3.alloc (.cells #[.slice (some ⟨h0, 0, none⟩) 6 6, .slice (some ⟨h1, 0, none⟩) 6 6, .slice (some ⟨h2, 0, none⟩) 36 36] 27) := ⟨_, rfl⟩
  rw [← hwl]
  have b13 : Below wz.heap.size wz w3 := b1.trans ((b2.mono (by omega)).trans (b3.mono (by omega)))
  have hbl : Below w3.heap.size w3 wl := by rw [hwl]; exact (Below.refl _ _).alloc (Nat.le_refl _) _
  have hzl : wl.heap.size = g + 1 := by rw [hwl, eg]; simp
  have hap : ∀ (x y n m c d : Nat), x ≠ y → Apart (.slice (some ⟨x, 0, none⟩) n c) (.slice (some ⟨y, 0, none⟩) m d) := fun x y n m c d hne => .inr (by simp [Value.ownBlock]; exact hne)
  have hU : UnitG w w.heap.size g (.slice (some ⟨h0, 0, none⟩) 6 6) (.slice (some ⟨h1, 0, none⟩) 6 6) (.slice (some ⟨h2, 0, none⟩) 36 36) wl := by
    refine ⟨HX.out.below (b13.trans (hbl.mono (by omega))) (by omega), free_below (b13.trans (hbl.mono (by omega))) (by omega) HF.out, ?_, ?_, ?_, hap _ _ _ _ _ _ (by omega), hap _ _ _ _ _ _ (by omega), hap _ _ _ _ _ _ (by omega), HB.out.trans ((b13.trans (hbl.mono (by omega))).mono (by omega)), by omega, by omega, fun b hb => ?_, Nat.le_refl _, by omega⟩
    · rw [hwl, eg]; exact Box3.made _ _ _ _ _
    · exact own_base (own_below (own_below (own_below o0 b2) b3) hbl) (by omega)
    · exact own_base (own_below (own_below o1 b3) hbl) (by omega)
    · obtain rfl : h2 = b := by simpa [Value.ownBlock] using hb
      exact ⟨by omega, by omega, by omega⟩
  have HU := Lib.hid hU
  have HO := Lib.hid (show wl.ownsRow w.heap.size 3 1 (.slice (some ⟨h2, 0, none⟩) 36 36) 36 (ints (Co.udiag 0)) by rw [Co.udiag_zero]; exact own_base (own_below o2 hbl) (by omega))
  have HNE := Lib.hid (show h0 ≠ w.heap.size ∧ h1 ≠ w.heap.size by omega)
  clear hU hap hzl hbl b13 z1 z2 z3 l1 l2 l3 s1 o0 o1 o2 b1 b2 b3 eh0 eh1 eh2 eg hwl HX HF HB
  go_loopw [12] (fun iv wr => ∃ a : Nat, a ≤ 6 ∧ iv = .int .i64 a ∧ wr.ownsRow w.heap.size 3 1 (.slice (some ⟨h2, 0, none⟩) 36 36) 36 (ints (Co.udiag a)) ∧ UnitG w w.heap.size g (.slice (some ⟨h0, 0, none⟩) 6 6) (.slice (some ⟨h1, 0, none⟩) 6 6) (.slice (some ⟨h2, 0, none⟩) 36 36) wr) (fun i _ => 6 - (intOf i).toNat)
  case atStart => exact ⟨0, Nat.zero_le _, rfl, HO.out, HU.out⟩
  case round =>
    clear HO HU
    obtain ⟨a, ha, rfl, hO, hU⟩ := hrel
    have HO := Lib.hid hO
    have HU := Lib.hid hU
    clear hO hU
    by_cases hlt : a < 6
    · have k0 : decide ((a : Int) < 6) = true := by simp; omega
      obtain ⟨p, hp⟩ : ∃ p, p = a * 6 + a := ⟨_, rfl⟩
      have c0 := own_int HO.out (k := p) (by rw [Co.udiag_length]; omega)
      have f0 := HO.out.frozenAt p
      obtain ⟨x0, x1, x2⟩ := HU.out.2.2.1
      have HA3 := Lib.hid (show (a : Int) * 6 + (a : Int) = (p : Int) by omega)
      have k1 : (0 : Int) ≤ (p : Int) := by omega
      have k2 : (p : Int) < 36 := by omega
      have HP := Lib.hid hp
      clear hp x0 x1
      go_wp2_with fail
      go_still_tail 6, (by kernel_rfl)
      still_call ((relIndex_any _ _ _ (by omega) (by omega) (by omega) (by omega)).mono fun e w' ⟨h1, h2⟩ => ⟨by rw [h1, HA3.out], h2.symm⟩)
      repeat still_step
      refine wpStill_nil ?_
      change wpList _ _ _ _ _ wr.drew
      go_wp2
      go_roundw
      case rel =>
        have hs := (World.ownsRow.drew HO.out).stored p (.int .i64 0)
        refine ⟨a + 1, by omega, by go_num, ?_, (HU.out.drewN 1).kept hs.2⟩
        have := hs.1
        rw [ints_set, HP.out, Co.udiag_set a hlt, ← HP.out] at this
        exact this
      case measure => simp [intOf]; omega
    · obtain rfl : a = 6 := by omega
      obtain ⟨hx, hf, hy, o0, o1, a01, a02, a12, hB, hs, hgl, hb, h0', hsg⟩ := HU.out
      have k1 : decide (((6 : Nat) : Int) < 6) = false := rfl
      obtain ⟨y0, y1, y2⟩ := hy
      obtain ⟨x0, x1, x2⟩ := hx
      have f0 := hf 0
      have f1 := hf 1
      have f2 := hf 2
      have keep : ∀ (v : Value) (n : Nat) (ys : List Value) (u0 u1 u2 : Value), (∀ b, v.ownBlock = some b → b ≠ w.heap.size) → wr.ownsRow w.heap.size 3 1 v n ys → (((wr.setCell ⟨w.heap.size, 0, none⟩ u0).setCell ⟨w.heap.size, 1, none⟩ u1).setCell ⟨w.heap.size, 2, none⟩ u2).ownsRow w.heap.size 3 1 v n ys := fun v n ys u0 u1 u2 hne k => by
        have hap : v.ownBlock = none ∨ v.ownBlock ≠ some w.heap.size := by
          rcases hbv : v.ownBlock with _ | b
          · exact .inl rfl
          · exact .inr (fun e => hne b hbv (by injection e))
        exact World.ownsRow.kept (World.ownsRow.kept (World.ownsRow.kept k (Kit.grown_set _ _ _ _) hap) (Kit.grown_set _ _ _ _) hap) (Kit.grown_set _ _ _ _) hap
      have KP := Lib.hid keep
      have O0 := Lib.hid o0
      have O1 := Lib.hid o1
      have HA := Lib.hid (And.intro a01 (And.intro a02 a12))
      have HBW := Lib.hid hB
      have HN := Lib.hid hb
      clear hf o0 o1 a01 a02 a12 hB keep hgl hb
      go_wp2
      (try simp only [Exit.inBlock, Exit.then])
      refine bodyPost_ret (v := .agg #[.slice (some ⟨h0, 0, none⟩) 6 6, .slice (some ⟨h1, 0, none⟩) 6 6, .slice (some ⟨h2, 0, none⟩) 36 36]) ?_ rfl ?_
      · rw [results_cell1 rfl]
        go_simp
      · have hl : Co.unit.r.length = 36 := Co.urel_length 36
        have o2 := HO.out
        rw [Co.udiag_all] at o2
        refine ⟨some ⟨h0, 0, none⟩, some ⟨h1, 0, none⟩, some ⟨h2, 0, none⟩, 6, 6, 36, by rw [hl]; rfl, KP.out _ _ _ _ _ _ ?_ O0.out, KP.out _ _ _ _ _ _ ?_ O1.out, by rw [hl]; exact KP.out _ _ _ _ _ _ (fun b hb => (HN.out b hb).1) o2, HA.out.1, by rw [hl]; exact HA.out.2.1, by rw [hl]; exact HA.out.2.2, ((HBW.out.setCell (Nat.le_refl _) _).setCell (Nat.le_refl _) _).setCell (Nat.le_refl _) _⟩
        · intro b hb; obtain rfl : h0 = b := by simpa [Value.ownBlock] using hb
          exact HNE.out.1
        · intro b hb; obtain rfl : h1 = b := by simpa [Value.ownBlock] using hb
          exact HNE.out.2

end Go.Proofs.Ytajplmopdipbnaa

/- Contracts (Tri). -/
namespace Go.Proofs.Ytajplmopdipbnaa
open Go.RowKit
set_option linter.unusedVariables false

set_option maxHeartbeats 3200000 in
set_option maxRecDepth 100000 in
theorem triangle_any (k : Code) (w : World) (hcode : CodeIn w w.heap.size k.a k.cs) (hlen : k.cs.length ≤ 1048576) :
    Calls Try.prog 7 #[.slice k.a k.cs.length k.cap] w fun e w' => e = .returned (.bool true) ∧ Below w.heap.size w w' := by
  have HC := Lib.hid hcode
  clear hcode
  obtain ⟨K, hK⟩ : ∃ K, K = Co.unit := ⟨_, rfl⟩
  have HKL := Lib.hid (show K.d.length ≤ 1048576 ∧ K.i.length ≤ 1048576 ∧ K.r.length ≤ 1048576 by rw [hK]; exact ⟨by decide, by decide, by decide⟩)
  have HU := Lib.hid (show ∀ w, Calls Try.prog 37 #[] w (OwnCo K w) by rw [hK]; exact implUnitCost_any)
  have HK := Lib.hid hK
  clear hK
  go_enter Try.func7, Try.ntmps7
  go_wp2_with fail
  refine (big_small _ _ _ (by omega) _).mono ?_
  rintro e w0 ⟨rfl, rfl⟩
  go_wp2_with fail
  refine (l8DrawTreeDists_ex w k HC.out hlen).mono ?_
  rintro e w1 ⟨xs, ys, A, A', n, n', cp, cp', h0, h2, c0, c2, A1, n1, q1, K1, rfl, ha, hb, hcp, hcp', hn, hn', _, _, hbl⟩
  have HN0 := Lib.hid ha
  have HN1 := Lib.hid hb
  have HW := Lib.hid hbl
  have L0 := Lib.hid ha.1
  have L1 := Lib.hid hb.1
  clear ha hb hbl
  obtain ⟨wa, hwa⟩ : ∃ wb, wb = w1.alloc (.cells #[.slice (some ⟨h0, 0, none⟩) 6 c0, .slice A1 n1 q1, .slice (some ⟨h2, 0, none⟩) 36 c2] 27) := ⟨_, rfl⟩
  have hb : Below w1.heap.size w1 wa := by rw [hwa]; exact (Below.refl _ _).alloc (Nat.le_refl _) _
  have HN0 := Lib.hid (HN0.out.to_below hb)
  have HN1 := Lib.hid (HN1.out.to_below hb)
  have HW := Lib.hid (HW.out.trans (hb.mono HW.out.size))
  have Hwa := Lib.hid hwa
  clear hb hwa
  go_wp2_with fail
  rw [← Hwa.out]
  refine (fresh_any k 3 (by decide) wa (CodeIn.onto HC.out HW.out HW.out.size) hlen).mono ?_
  rintro e w2 ⟨q, rfl, hq, hql, hb⟩
  have HN0 := Lib.hid (HN0.out.to_below hb)
  have HN1 := Lib.hid (HN1.out.to_below hb)
  have HW := Lib.hid (HW.out.trans (hb.mono HW.out.size))
  have HQ := Lib.hid hq
  clear hq hb
  go_wp2_with fail
  refine (l8DrawTreeDists_ex w2 q HQ.out hql).mono ?_
  rintro e w3 ⟨zs, ys2, A2, A3, n2, n3, cp2, cp3, h3, h4, c3, c4, A4, n4, q4, K2, rfl, ha, _, hcp2, _, hn2, _, _, _, hb⟩
  have HN0 := Lib.hid (HN0.out.to_below hb)
  have HN1 := Lib.hid (HN1.out.to_below hb)
  have HN2 := Lib.hid ha
  have L2 := Lib.hid ha.1
  have HW := Lib.hid (HW.out.trans (hb.mono HW.out.size))
  clear ha hb
  obtain ⟨wb, hwb⟩ : ∃ wb, wb = w3.alloc (.cells #[.slice (some ⟨h3, 0, none⟩) 6 c3, .slice A4 n4 q4, .slice (some ⟨h4, 0, none⟩) 36 c4] 27) := ⟨_, rfl⟩
  have hb : Below w3.heap.size w3 wb := by rw [hwb]; exact (Below.refl _ _).alloc (Nat.le_refl _) _
  have HN0 := Lib.hid (HN0.out.to_below hb)
  have HN1 := Lib.hid (HN1.out.to_below hb)
  have HN2 := Lib.hid (HN2.out.to_below hb)
  have HW := Lib.hid (HW.out.trans (hb.mono HW.out.size))
  have Hwb := Lib.hid hwb
  clear hb hwb
  go_wp2_with fail
  rw [← Hwb.out]
  refine (HU.out _).mono ?_
  rintro e w4 ⟨U0, U1, U2, d0, d1, d2, rfl, o0, o1, o2, _, _, _, hb⟩
  have HN0 := Lib.hid (HN0.out.to_below hb)
  have HN1 := Lib.hid (HN1.out.to_below hb)
  have HN2 := Lib.hid (HN2.out.to_below hb)
  have HW := Lib.hid (HW.out.trans (hb.mono HW.out.size))
  have HO := Lib.hid (show CoIn w4 w4.heap.size U0 U1 U2 K.d.length K.i.length K.r.length K from ⟨IntIn.of_own o0, IntIn.of_own o1, IntIn.of_own o2⟩)
  clear hb o0 o1 o2
  obtain ⟨wc, hwc⟩ : ∃ wb, wb = w4.alloc (.cells #[.slice U0 K.d.length d0, .slice U1 K.i.length d1, .slice U2 K.r.length d2] 27) := ⟨_, rfl⟩
  have hb : Below w4.heap.size w4 wc := by rw [hwc]; exact (Below.refl _ _).alloc (Nat.le_refl _) _
  have HN0 := Lib.hid (HN0.out.to_below hb)
  have HN1 := Lib.hid (HN1.out.to_below hb)
  have HN2 := Lib.hid (HN2.out.to_below hb)
  have HW := Lib.hid (HW.out.trans (hb.mono HW.out.size))
  have Hwc := Lib.hid hwc
  have HO := Lib.hid (HO.out.to_below hb)
  have HB9 := Lib.hid (show Box3 wc w4.heap.size (.slice U0 K.d.length d0) (.slice U1 K.i.length d1) (.slice U2 K.r.length d2) by rw [hwc]; exact Box3.made _ _ _ _ _)
  have HG9 := Lib.hid (show w4.heap.size < wc.heap.size by rw [hwc]; simp)
  clear hb hwc
  obtain ⟨X, hX⟩ : ∃ X, X = Tr.rootDist xs ys K := ⟨_, rfl⟩
  obtain ⟨Y, hY⟩ : ∃ X, X = Tr.rootDist ys zs K := ⟨_, rfl⟩
  obtain ⟨Z, hZ⟩ : ∃ X, X = Tr.rootDist xs zs K := ⟨_, rfl⟩
  have HX := Lib.hid hX
  have HY := Lib.hid hY
  have HZ := Lib.hid hZ
  clear hX hY hZ
  obtain ⟨r0, r1, r2⟩ := HB9.out
  rw [Hwc.out] at r0 r1 r2
  go_wp2_with fail
  clear r0 r1 r2
  rw [← Hwc.out]
  refine (implRootDist_any (c := _) (c' := _) (c0 := _) (c1 := _) (c2 := _) (ha := HN0.out) (hb := HN1.out) (hk := HO.out) (hn := by omega) (hn' := by omega) (h0 := HKL.out.1) (h1 := HKL.out.2.1) (h2 := HKL.out.2.2) (hc := hcp) (hc' := hcp')).mono ?_
  rintro e w5 ⟨rfl, hb⟩
  have HN0 := Lib.hid (HN0.out.to_below hb)
  have HN1 := Lib.hid (HN1.out.to_below hb)
  have HN2 := Lib.hid (HN2.out.to_below hb)
  have HO := Lib.hid (HO.out.to_below hb)
  have HB9 := Lib.hid (HB9.out.below hb HG9.out)
  have HG9 := Lib.hid (Nat.lt_of_lt_of_le HG9.out hb.size)
  have HW := Lib.hid (HW.out.trans (hb.mono HW.out.size))
  clear hb
  rw [← HX.out]
  obtain ⟨r0, r1, r2⟩ := HB9.out
  go_wp2_with fail
  clear r0 r1 r2
  refine (implRootDist_any (c := _) (c' := _) (c0 := _) (c1 := _) (c2 := _) (ha := HN1.out) (hb := HN2.out) (hk := HO.out) (hn := by omega) (hn' := by omega) (h0 := HKL.out.1) (h1 := HKL.out.2.1) (h2 := HKL.out.2.2) (hc := hcp') (hc' := hcp2)).mono ?_
  rintro e w6 ⟨rfl, hb⟩
  have HN0 := Lib.hid (HN0.out.to_below hb)
  have HN1 := Lib.hid (HN1.out.to_below hb)
  have HN2 := Lib.hid (HN2.out.to_below hb)
  have HO := Lib.hid (HO.out.to_below hb)
  have HB9 := Lib.hid (HB9.out.below hb HG9.out)
  have HG9 := Lib.hid (Nat.lt_of_lt_of_le HG9.out hb.size)
  have HW := Lib.hid (HW.out.trans (hb.mono HW.out.size))
  clear hb
  rw [← HY.out]
  obtain ⟨r0, r1, r2⟩ := HB9.out
  go_wp2_with fail
  clear r0 r1 r2
  refine (implRootDist_any (c := _) (c' := _) (c0 := _) (c1 := _) (c2 := _) (ha := HN0.out) (hb := HN2.out) (hk := HO.out) (hn := by omega) (hn' := by omega) (h0 := HKL.out.1) (h1 := HKL.out.2.1) (h2 := HKL.out.2.2) (hc := hcp) (hc' := hcp2)).mono ?_
  rintro e w7 ⟨rfl, hb⟩
  have HN0 := Lib.hid (HN0.out.to_below hb)
  have HN1 := Lib.hid (HN1.out.to_below hb)
  have HN2 := Lib.hid (HN2.out.to_below hb)
  have HO := Lib.hid (HO.out.to_below hb)
  have HB9 := Lib.hid (HB9.out.below hb HG9.out)
  have HG9 := Lib.hid (Nat.lt_of_lt_of_le HG9.out hb.size)
  have HW := Lib.hid (HW.out.trans (hb.mono HW.out.size))
  clear hb
  rw [← HZ.out]
  cases hx : Tr.ok xs with
  | false =>
    have hX : X = -1 := by rw [HX.out]; exact Tr.rootDist_no (by rw [hx]; rfl)
    have OX := Lib.hid hx
    clear hx
    have e1 : decide (X < 0) = true := decide_eq_true (by omega)
    as_aux_lemma =>
      go_wp2_with fail
      refine (specTreeOk_any _ _ _ xs _ HN0.out (by omega)).mono ?_
      rintro e v0 ⟨rfl, hd⟩
      have HN0 := Lib.hid (HN0.out.to_drawn hd)
      have HN1 := Lib.hid (HN1.out.to_drawn hd)
      have HN2 := Lib.hid (HN2.out.to_drawn hd)
      have HW := Lib.hid (Drawn.below HW.out hd)
      clear hd
      rw [OX.out]
      go_wp2
      go_ret
      exact ⟨rfl, HW.out⟩
  | true =>
    cases hy : Tr.ok ys with
    | false =>
      have hX : X = -1 := by rw [HX.out]; exact Tr.rootDist_no (by rw [hx, hy]; rfl)
      have OX := Lib.hid hx
      have OY := Lib.hid hy
      clear hx hy
      have e1 : decide (X < 0) = true := decide_eq_true (by omega)
      as_aux_lemma =>
        go_wp2_with fail
        refine (specTreeOk_any _ _ _ xs _ HN0.out (by omega)).mono ?_
        rintro e v0 ⟨rfl, hd⟩
        have HN0 := Lib.hid (HN0.out.to_drawn hd)
        have HN1 := Lib.hid (HN1.out.to_drawn hd)
        have HN2 := Lib.hid (HN2.out.to_drawn hd)
        have HW := Lib.hid (Drawn.below HW.out hd)
        clear hd
        rw [OX.out]
        go_wp2_with fail
        refine (specTreeOk_any _ _ _ ys _ HN1.out (by omega)).mono ?_
        rintro e v1 ⟨rfl, hd⟩
        have HN0 := Lib.hid (HN0.out.to_drawn hd)
        have HN1 := Lib.hid (HN1.out.to_drawn hd)
        have HN2 := Lib.hid (HN2.out.to_drawn hd)
        have HW := Lib.hid (Drawn.below HW.out hd)
        clear hd
        rw [OY.out]
        go_wp2
        go_ret
        exact ⟨rfl, HW.out⟩
    | true =>
      cases hz : Tr.ok zs with
      | false =>
        have hX : 0 ≤ X := by rw [HX.out, HK.out]; exact (Tr.triangle hx hy hx).1
        have hY : Y = -1 := by rw [HY.out]; exact Tr.rootDist_no (by rw [hy, hz]; rfl)
        have OX := Lib.hid hx
        have OY := Lib.hid hy
        have OZ := Lib.hid hz
        clear hx hy hz
        have e1 : decide (X < 0) = false := decide_eq_false (by omega)
        have e2 : decide (Y < 0) = true := decide_eq_true (by omega)
        as_aux_lemma =>
          go_wp2_with fail
          refine (specTreeOk_any _ _ _ xs _ HN0.out (by omega)).mono ?_
          rintro e v0 ⟨rfl, hd⟩
          have HN0 := Lib.hid (HN0.out.to_drawn hd)
          have HN1 := Lib.hid (HN1.out.to_drawn hd)
          have HN2 := Lib.hid (HN2.out.to_drawn hd)
          have HW := Lib.hid (Drawn.below HW.out hd)
          clear hd
          rw [OX.out]
          go_wp2_with fail
          refine (specTreeOk_any _ _ _ ys _ HN1.out (by omega)).mono ?_
          rintro e v1 ⟨rfl, hd⟩
          have HN0 := Lib.hid (HN0.out.to_drawn hd)
          have HN1 := Lib.hid (HN1.out.to_drawn hd)
          have HN2 := Lib.hid (HN2.out.to_drawn hd)
          have HW := Lib.hid (Drawn.below HW.out hd)
          clear hd
          rw [OY.out]
          go_wp2_with fail
          refine (specTreeOk_any _ _ _ zs _ HN2.out (by omega)).mono ?_
          rintro e v2 ⟨rfl, hd⟩
          have HN0 := Lib.hid (HN0.out.to_drawn hd)
          have HN1 := Lib.hid (HN1.out.to_drawn hd)
          have HN2 := Lib.hid (HN2.out.to_drawn hd)
          have HW := Lib.hid (Drawn.below HW.out hd)
          clear hd
          rw [OZ.out]
          go_wp2
          go_ret
          exact ⟨rfl, HW.out⟩
      | true =>
        have hT := Tr.triangle hx hy hz
        have hY := (Tr.triangle hy hz hx).1
        have hY2 := (Tr.triangle hy hz hx).2.1
        have hZ := (Tr.triangle hx hz hx).1
        have hZ2 := (Tr.triangle hx hz hx).2.1
        rw [← HK.out, ← HX.out, ← HY.out, ← HZ.out, L0.out, L1.out] at hT
        rw [← HK.out, ← HY.out] at hY hY2
        rw [← HK.out, ← HZ.out] at hZ hZ2
        obtain ⟨t0, t1, t2, t3, t4, t5⟩ := hT
        clear hx hy hz
        have e1 : decide (X < 0) = false := decide_eq_false (by omega)
        have e2 : decide (Y < 0) = false := decide_eq_false (by omega)
        have e3 : decide (Z < 0) = false := decide_eq_false (by omega)
        have e4 : decide (Z ≤ X + Y) = true := decide_eq_true t2
        have e5 : decide ((n : Int) - (n' : Int) ≤ X) = true := decide_eq_true t3
        have e6 : decide ((n' : Int) - (n : Int) ≤ X) = true := decide_eq_true t4
        have e7 : decide (X ≤ (n : Int) + (n' : Int) - 1) = true := decide_eq_true t5
        as_aux_lemma =>
          go_wp2
          go_ret
          exact ⟨rfl, HW.out⟩

end Go.Proofs.Ytajplmopdipbnaa

/- Contracts (ExTri). -/
namespace Go.Proofs.Ytajplmopdipbnaa
open Go.RowKit
set_option linter.unusedVariables false

set_option maxHeartbeats 400000 in
theorem fnTriangle_walk (a : Option Addr) (n cap : Nat) (zs : List Int) (w : World) (hz : Kit.BytesIn w a n cap zs) :
    Calls Try.prog 7 #[.slice a n cap] w fun e w' => e = .returned (.bool true) ∧ Below w.heap.size w w' := by
  by_cases hb : (1048576 : Int) < n
  · clear hz
    go_enter Try.func7, Try.ntmps7
    go_wp2_with fail
    refine (big_big _ _ _ hb _).mono ?_
    rintro e w0 ⟨rfl, rfl⟩
    go_wp2
    go_ret
    exact ⟨rfl, Below.refl _ _⟩
  · obtain ⟨hl, hcode⟩ := code_of hz
    have h := triangle_any ⟨a, zs.take n, cap⟩ w hcode (by simp only; omega)
    simp only [hl] at h
    exact h

end Go.Proofs.Ytajplmopdipbnaa
