/- Texts of one claim laid into one file, in build order: Mem, Res, KinP, KidsP. -/
import Derived.Test.YtofpcedpmbecgaaDoorHg1
import Derived.Test.YtofpcedpmbecgaaDoorHg2
import Derived.Deep.RegionLaw
import Derived.Laws.AppendOwn
import Derived.Laws.OwnMore
import Derived.OwnWalk
/- Contracts (Mem). -/
namespace Go.Proofs.YtofpcedpmbecgaaDoor
open Go.RowKit
set_option linter.unusedVariables false


/-! rows of ints -/
def ints (zs : List Int) : List Value := zs.map (Value.int .i64)
def Zs.at (zs : List Int) (k : Nat) : Int := zs.getD k 0
theorem ints_length (zs : List Int) : (ints zs).length = zs.length := by simp [ints]
theorem ints_append (a b : List Int) : ints (a ++ b) = ints a ++ ints b := by simp [ints]
theorem ints_at (zs : List Int) (k : Nat) (h : k < zs.length) : (ints zs)[k]? = some (.int .i64 (Zs.at zs k)) := by
  simp [ints, Zs.at, List.getD_eq_getElem?_getD, h]
theorem ints_set (zs : List Int) (k : Nat) (a : Int) : (ints zs).set k (.int .i64 a) = ints (zs.set k a) := by simp [ints, List.map_set]
theorem ints_cell (zs : List Int) : ∀ u ∈ ints zs, u.oneCell' = true := by
  intro u hu
  simp only [ints, List.mem_map] at hu
  obtain ⟨a, _, rfl⟩ := hu
  rfl
theorem Tr.cells_cell (xs : Tr) : ∀ u ∈ Tr.cells xs, u.oneCell' = true := by
  intro u hu
  simp only [Tr.cells, List.mem_flatMap] at hu
  obtain ⟨a, _, hu⟩ := hu
  simp at hu
  rcases hu with rfl | rfl <;> rfl
theorem Zs.ext {a b : List Int} (hl : a.length = b.length) (h : ∀ k, k < a.length → Zs.at a k = Zs.at b k) : a = b := by
  refine List.ext_getElem hl fun k h1 h2 => ?_
  have := h k h1
  simpa [Zs.at, List.getD_eq_getElem?_getD, h1, h2] using this

/-- the slice (A, n) reads as the ints zs, in blocks below B -/
def IntIn (w : World) (B : Nat) (A : Option Addr) (n : Nat) (zs : List Int) : Prop :=
  zs.length = n ∧ (0 < n → ∃ ad, A = some ad ∧ ad.block < B) ∧ ∀ ad, A = some ad → ∀ k, k < n → w.cell? (ad.add k) = some (.int .i64 (Zs.at zs k))

section
variable {w w' : World} {B B' n : Nat} {A : Option Addr} {zs : List Int}
theorem IntIn.keep (h : IntIn w B A n zs) (hk : ∀ p : Addr, p.block < B → w'.cell? p = w.cell? p) : IntIn w' B A n zs := by
  refine ⟨h.1, h.2.1, fun ad e k hkn => ?_⟩
  obtain ⟨ad', e', hb⟩ := h.2.1 (by omega)
  obtain rfl : ad' = ad := by rw [e'] at e; injection e
  rw [hk _ (by rw [block_of_add]; exact hb)]
  exact h.2.2 _ e k hkn
theorem IntIn.more (h : IntIn w B A n zs) (hB : B ≤ B') : IntIn w B' A n zs :=
  ⟨h.1, fun hn => by obtain ⟨ad, e, hb⟩ := h.2.1 hn; exact ⟨ad, e, by omega⟩, h.2.2⟩
theorem IntIn.below (h : IntIn w B A n zs) (hb : Below B w w') : IntIn w' B A n zs := h.keep fun _ hp => hb.cell hp
theorem IntIn.drawn (h : IntIn w B A n zs) (k : Drawn w w') : IntIn w' B A n zs := by obtain ⟨m, rfl⟩ := k; exact h
theorem IntIn.to_below (h : IntIn w w.heap.size A n zs) (hb : Below w.heap.size w w') : IntIn w' w'.heap.size A n zs := (h.below hb).more hb.size
theorem IntIn.to_drawn (h : IntIn w w.heap.size A n zs) (hb : Drawn w w') : IntIn w' w'.heap.size A n zs := h.to_below hb.toBelow
theorem IntIn.here {ad : Addr} (h : IntIn w B (some ad) n zs) {k : Nat} (hk : k < n) : w.cell? (ad.add k) = some (.int .i64 (Zs.at zs k)) := h.2.2 ad rfl k hk
theorem IntIn.at_ (h : IntIn w B A n zs) {k : Nat} (hk : k < n) : ∃ ad, A = some ad ∧ ad.block < B ∧ w.cell? (ad.add k) = some (.int .i64 (Zs.at zs k)) := by
  obtain ⟨ad, rfl, hb⟩ := h.2.1 (by omega)
  exact ⟨ad, rfl, hb, h.here hk⟩
theorem IntIn.of_own {base : Nat} {e : TypeId} {c : Nat} (h : w.ownsRow base e 1 (.slice A n c) n (ints zs)) : IntIn w w.heap.size A n zs := by
  have hlen : zs.length = n := by have := h.1; rw [ints_length] at this; omega
  have hb : 0 < n → ∃ g cap, Value.slice A n c = .slice (some ⟨g, 0, none⟩) n cap ∧ g < w.heap.size := by
    intro hn
    rcases h.2 with ⟨_, h0⟩ | ⟨g, cap, cur, hv, hg, hh, _⟩
    · omega
    · refine ⟨g, cap, hv, ?_⟩
      rcases Nat.lt_or_ge g w.heap.size with hlt | hge
      · exact hlt
      · rw [Array.getElem?_eq_none hge] at hh; cases hh
  refine ⟨hlen, fun hn => ?_, fun ad e k hk => ?_⟩
  · obtain ⟨g, cap, hv, hlt⟩ := hb hn
    obtain rfl : A = some ⟨g, 0, none⟩ := by injection hv
    exact ⟨_, rfl, hlt⟩
  · obtain ⟨g, cap, hv, hlt⟩ := hb (by omega)
    obtain rfl : A = some ⟨g, 0, none⟩ := by injection hv
    obtain rfl : (⟨g, 0, none⟩ : Addr) = ad := by injection e
    exact h.cells rfl _ _ (ints_at zs k (by omega))
theorem IntIn.cells_at {ad : Addr} (h : IntIn w B (some ad) n zs) : ∀ j u, (ints zs)[j]? = some u → w.cell? (ad.add j) = some u := by
  intro j u hj
  have hlt := (List.getElem?_eq_some_iff.1 hj).1
  rw [ints_length] at hlt
  rw [ints_at _ _ hlt] at hj
  rw [h.here (k := j) (by rw [← h.1]; exact hlt)]
  exact hj
end

theorem NdIn.cells_at {w : World} {B n : Nat} {xs : Tr} {ad : Addr} (h : NdIn w B (some ad) n xs) : ∀ j u, (Tr.cells xs)[j]? = some u → w.cell? (ad.add j) = some u := by
  intro j u hj
  have hlt := (List.getElem?_eq_some_iff.1 hj).1
  rw [Tr.cells_length] at hlt
  have hk : j / 2 < xs.length := by omega
  have hc := h.2.2 ad rfl (j / 2) (by rw [← h.1]; exact hk)
  rcases Nat.mod_two_eq_zero_or_one j with h2 | h2
  · have e : j = j / 2 * 2 := by omega
    rw [e] at hj ⊢
    rw [Tr.cells_even _ _ hk] at hj
    rw [hc.1]
    exact hj
  · have e : j = j / 2 * 2 + 1 := by omega
    rw [e] at hj ⊢
    rw [Tr.cells_odd _ _ hk] at hj
    rw [hc.2]
    exact hj

/-! rows of the call's own -/
section
variable {w w' w'' : World} {base n g size : Nat} {e : TypeId} {v : Value} {ys : List Value}
/-- a write into another row below the base -/
theorem own_grown (h : w.ownsRow base e size v n ys) {row : Option Nat} (hg : w.grownBy w' row) (hlt : ∀ g, row = some g → g < base) : w'.ownsRow base e size v n ys := by
  refine h.kept hg ?_
  rcases hb : v.ownBlock with _ | k
  · exact .inl rfl
  · refine .inr fun he => ?_
    have := h.lt k hb
    have := hlt k he.symm
    omega
theorem own_int {c : Nat} {zs : List Int} (h : w.ownsRow base e 1 (.slice (some ⟨g, 0, none⟩) n c) n (ints zs)) {k : Nat} (hk : k < zs.length) : w.cell? ⟨g, k, none⟩ = some (.int .i64 (Zs.at zs k)) := by
  have := h.1
  rw [ints_length] at this
  rw [h.cellAt _ (by omega), ints_at _ _ hk]
/-- where a row of one element at least lies -/
theorem own_form {A : Option Addr} {c : Nat} (h : w.ownsRow base e size (.slice A n c) n ys) (hn : 0 < n) : ∃ g, A = some ⟨g, 0, none⟩ ∧ base ≤ g ∧ g < w.heap.size := by
  rcases h.2 with ⟨_, h0⟩ | ⟨g, cap, cur, hv, hg, hh, _⟩
  · omega
  · have hA : A = some ⟨g, 0, none⟩ := by injection hv
    have := h.lt g (by rw [hA]; rfl)
    exact ⟨g, hA, hg, this.2⟩
end

/-! marks -/
/-! append of one element, the elements of which lie in a new block -/
/-- out = append(out, x), out a row of ints of the call's own -/
theorem append_int {P : Program} (w : World) {ops : Array Oper} {rest : List Oper} {o : Oper} {a : Act} {Q : Exit → Act → World → Prop} (hgd : o.guard = none) (s x : Operand) (t : TypeId)
    (ho : o.op = .call { callee := .builtin .append, args := #[s, x], argTypes := #[t, t] })
    (base : Nat) (e : TypeId) (i : TypeInfo) (ht : P.underlying t = some (.slice e)) (hi : P.info? e = some i) (hz : i.zero = some (.int .i64 0))
    (hsize : i.size = 1) (hby : i.bytes = 8) (v : Value) (n : Nat) (l : List Int) (hs : a.eval s = v) (hown : w.ownsRow base e 1 v n (ints l)) (hn : n = l.length)
    (b : Int) (hx : a.eval x = .slice (some ⟨w.heap.size, 0, none⟩) 1 1)
    (h63 : l.length + 1 ≤ 1073741824) (hbase : base ≤ w.heap.size)
    (h : ∀ v' w', w'.ownsRow base e 1 v' (l ++ [b]).length (ints (l ++ [b])) → (w.alloc (.cells #[.int .i64 b] e)).grownBy w' v.ownBlock → wpList P ops Q rest (a.put o.dst v') w') :
    wpList P ops Q (o :: rest) a (w.alloc (.cells #[.int .i64 b] e)) := by
  subst hn
  refine wpList_append_own _ hgd s x t ho base e i (.int .i64 0) 1 8 ht hi hz hsize hby rfl (by decide) v l.length (ints l) hs (hown.alloc _) ⟨w.heap.size, 0, none⟩ 1 1 [.int .i64 b] hx rfl ?_ ?_ ?_ ?_ ?_ ?_
  · intro j u hj
    have hj0 : j = 0 := by
      have := (List.getElem?_eq_some_iff.1 hj).1
      simpa using this
    subst hj0
    simp at hj
    subst hj
    simp [Addr.add]
  · intro u hu; simp at hu; subst hu; rfl
  · unfold maxLen; omega
  · omega
  · simp; omega
  · intro v' w' h2 h3 _
    refine h v' w' ?_ h3
    rw [ints_append, List.length_append]
    exact h2
/-- out = append(out, T{a, b}) in a region that draws its order, out a row of such of the call's own -/
theorem step_append_node {P : Program} {ops : Array Oper} {o : Oper} {a : Act} (w : World) {K : Act → World → Prop} {Q : Exit → Act → World → Prop} {E : Prop} (hgd : o.guard = none) (s x : Operand) (t : TypeId)
    (ho : o.op = .call { callee := .builtin .append, args := #[s, x], argTypes := #[t, t] })
    (base : Nat) (e : TypeId) (i : TypeInfo) (ht : P.underlying t = some (.slice e)) (hi : P.info? e = some i) (hz : i.zero = some (.agg #[.int .i64 0, .int .i64 0]))
    (hsize : i.size = 2) (hby : i.bytes = 16) (v : Value) (n : Nat) (l : Tr) (hs : a.eval s = v) (hown : w.ownsRow base e 2 v n (Tr.cells l)) (hn : n = l.length)
    (b1 b2 : Int) (hx : a.eval x = .slice (some ⟨w.heap.size, 0, none⟩) 1 1)
    (h63 : l.length + 1 ≤ 1073741824) (hbase : base ≤ w.heap.size)
    (h : ∀ v' w', w'.ownsRow base e 2 v' (l ++ [(b1, b2)]).length (Tr.cells (l ++ [(b1, b2)])) → (w.alloc (.cells #[.int .i64 b1, .int .i64 b2] e)).grownBy w' v.ownBlock → K (a.put o.dst v') w') :
    if Region.wanted o (yielded ops a.tmps) = true then Oper.wp P o a (w.alloc (.cells #[.int .i64 b1, .int .i64 b2] e)) K Q else E := by
  have hw : Region.wanted o (yielded ops a.tmps) = true := by simp [Region.wanted, hgd]
  rw [if_pos hw]
  subst hn
  refine wp_append_own _ s x t ho base e i (.agg #[.int .i64 0, .int .i64 0]) 2 16 ht hi hz hsize hby rfl (by decide) v l.length (Tr.cells l) hs (hown.alloc _) ⟨w.heap.size, 0, none⟩ 1 1 (Tr.cells [(b1, b2)]) hx (by simp [Tr.cells]) ?_ (Tr.cells_cell _) (by unfold maxLen; omega) (by omega) (by simp; omega) ?_
  · intro j u hj
    have hj2 : j < 2 := by
      have := (List.getElem?_eq_some_iff.1 hj).1
      simpa [Tr.cells] using this
    have : j = 0 ∨ j = 1 := by omega
    rcases this with rfl | rfl <;> (simp [Tr.cells] at hj; subst hj; simp [Addr.add])
  · intro v' w' h2 h3 _
    refine h v' w' ?_ h3
    rw [Tr.cells_append, List.length_append]
    exact h2

end Go.Proofs.YtofpcedpmbecgaaDoor

/- Contracts (Res). -/
namespace Go.Proofs.YtofpcedpmbecgaaDoor
open Go.RowKit
set_option linter.unusedVariables false


/-- the answer is a row of ints of the call's own -/
def OwnInts (E : TypeId) (zs : List Int) (w : World) (e : Ending) (w' : World) : Prop :=
  ∃ A c, e = .returned (.slice A zs.length c) ∧ w'.ownsRow w.heap.size E 1 (.slice A zs.length c) zs.length (ints zs) ∧ Below w.heap.size w w'
/-- .. of nodes -/
def OwnNodes (E : TypeId) (xs : Tr) (w : World) (e : Ending) (w' : World) : Prop :=
  ∃ A c, e = .returned (.slice A xs.length c) ∧ w'.ownsRow w.heap.size E 2 (.slice A xs.length c) xs.length (Tr.cells xs) ∧ Below w.heap.size w w'
theorem own_slice {w : World} {base n size : Nat} {e : TypeId} {v : Value} {ys : List Value} (h : w.ownsRow base e size v n ys) : ∃ A c, v = .slice A n c := by
  rcases h.2 with ⟨rfl, rfl⟩ | ⟨g, cap, cur, rfl, _⟩
  · exact ⟨_, _, rfl⟩
  · exact ⟨_, _, rfl⟩
theorem own_drawn {w w' : World} {base n size : Nat} {e : TypeId} {v : Value} {ys : List Value} (h : w.ownsRow base e size v n ys) (k : Drawn w w') : w'.ownsRow base e size v n ys := own_below h k.toBelow
theorem own_nil {w : World} {base size : Nat} {e : TypeId} : w.ownsRow base e size (.slice none 0 0) 0 [] := World.ownsRow_nil w base e size
theorem own_base {w : World} {base base' n size : Nat} {e : TypeId} {v : Value} {ys : List Value} (h : w.ownsRow base e size v n ys) (hb : base' ≤ base) : w.ownsRow base' e size v n ys := by
  refine ⟨h.1, ?_⟩
  rcases h.2 with h | ⟨g, cap, cur, hv, hg, h⟩
  · exact .inl h
  · exact .inr ⟨g, cap, cur, hv, Nat.le_trans hb hg, h⟩
def Tr.kidsZ (xs : Tr) (i k : Nat) : List Int := (Tr.kidsTo xs i k).map fun (m : Nat) => (m : Int)
theorem Tr.kidsZ_succ (xs : Tr) (i k : Nat) (hk : i < k) : Tr.kidsZ xs i (k + 1) = if Tr.d xs k = Tr.d xs i + 1 then Tr.kidsZ xs i k ++ [(k : Int)] else Tr.kidsZ xs i k := by
  unfold Tr.kidsZ
  rw [Tr.kidsTo_succ xs i k hk]
  split <;> simp
theorem Tr.kidsZ_start (xs : Tr) (i : Nat) : Tr.kidsZ xs i (i + 1) = [] := by simp [Tr.kidsZ, Tr.kidsTo_start]
theorem Tr.kidsZ_len (xs : Tr) (i k : Nat) : (Tr.kidsZ xs i k).length ≤ k := by simpa [Tr.kidsZ] using Tr.kidsTo_le xs i k
def Tr.kidsI (xs : Tr) (i : Int) : List Int := (Tr.kidsOf xs i).map fun (m : Nat) => (m : Int)
theorem Tr.kidsI_yes {xs : Tr} {j : Nat} (h : Tr.has xs j = true) : Tr.kidsI xs j = Tr.kidsZ xs j (Tr.endN xs j) := by simp [Tr.kidsI, Tr.kidsOf, h, Tr.kidsZ]
theorem Tr.kidsI_no {xs : Tr} {i : Int} (h : Tr.has xs i = false) : Tr.kidsI xs i = [] := by simp [Tr.kidsI, Tr.kidsOf, h]
theorem Tr.endOf_yes {xs : Tr} {j : Nat} (h : Tr.has xs j = true) : Tr.endOf xs j = (Tr.endN xs j : Nat) := by simp [Tr.endOf, h]
theorem Tr.subTree_yes {xs : Tr} {j : Nat} (h : Tr.has xs j = true) : Tr.subTree xs j = Tr.subTo xs j (Tr.endN xs j) := by simp [Tr.subTree, h]
theorem Tr.kidsI_len (xs : Tr) (i : Int) : (Tr.kidsI xs i).length ≤ xs.length := by
  rcases h : Tr.has xs i with _ | _
  · rw [Tr.kidsI_no h]; simp
  · have h1 := (Tr.has_iff.1 h).2
    obtain ⟨j, rfl⟩ := Int.eq_ofNat_of_zero_le h1.1
    rw [Tr.kidsI_yes h]
    have h2 := (Tr.endN_spec xs j (by omega)).2.1
    have h3 := Tr.kidsZ_len xs j (Tr.endN xs j)
    omega
theorem own_cap {w : World} {base n size : Nat} {e : TypeId} {A : Option Addr} {c : Nat} {ys : List Value} (h : w.ownsRow base e size (.slice A n c) n ys) : n ≤ c := by
  rcases h.2 with ⟨h1, h2⟩ | ⟨g, cap, cur, hv, _, _, hle, _⟩
  · omega
  · injection hv with h1 h2 h3
    omega

end Go.Proofs.YtofpcedpmbecgaaDoor

/- Contracts (KinP). -/
namespace Go.Proofs.YtofpcedpmbecgaaDoor
open Go.RowKit
set_option linter.unusedVariables false

/-! mathematics of the laws on kin -/
theorem Tr.has_nat {xs : Tr} {i : Nat} (hok : Tr.ok xs = true) (hi : i < xs.length) : Tr.has xs (i : Int) = true := Tr.has_iff.2 ⟨hok, Int.natCast_nonneg i, Int.ofNat_lt.2 hi⟩
theorem Tr.under_nat {xs : Tr} {i j : Nat} (hok : Tr.ok xs = true) (hi : i < xs.length) (hj : j < xs.length) : Tr.under xs i j = decide (i < j ∧ j < Tr.endN xs i) := by
  unfold Tr.under
  rw [Tr.has_nat hok hi, Tr.has_nat hok hj, Tr.endOf_yes (Tr.has_nat hok hi), Bool.eq_iff_iff]
  simp
def Bs.count (bs : List Bool) (k : Nat) : Nat := (bs.take k).countP id
theorem Tr.back_is {xs : Tr} {dep : Int} {p : Nat} (hp : Tr.d xs p < dep) : ∀ j, p < j → (∀ m, p < m → m < j → dep ≤ Tr.d xs m) → Tr.back xs dep j = p := by
  intro j
  induction j with
  | zero => intro h _; omega
  | succ j ih =>
    intro h hall
    unfold Tr.back
    by_cases e : j = p
    · subst e; rw [if_pos hp]
    · have := hall j (by omega) (by omega)
      rw [if_neg (by omega)]
      exact ih (by omega) (fun m h1 h2 => hall m h1 (by omega))
theorem Tr.back_ex {xs : Tr} {dep : Int} : ∀ j, (∃ q, q < j ∧ Tr.d xs q < dep) → ∃ p, p < j ∧ Tr.d xs p < dep ∧ ∀ m, p < m → m < j → dep ≤ Tr.d xs m := by
  intro j
  induction j with
  | zero => rintro ⟨q, h, _⟩; omega
  | succ j ih =>
    rintro ⟨q, h1, h2⟩
    by_cases e : Tr.d xs j < dep
    · exact ⟨j, by omega, e, fun m a b => by omega⟩
    · have hq : q ≠ j := fun r => by subst r; exact e h2
      obtain ⟨p, a, b, c⟩ := ih ⟨q, by omega, h2⟩
      refine ⟨p, by omega, b, fun m d1 d2 => ?_⟩
      by_cases r : m = j
      · subst r; omega
      · exact c m d1 (by omega)
theorem Tr.kid_in {xs : Tr} {p j : Nat} (hpj : p < j) (hje : j < Tr.endN xs p) (hd : Tr.d xs j = Tr.d xs p + 1) : j ∈ Tr.kidsTo xs p (Tr.endN xs p) := by
  unfold Tr.kidsTo
  simp [hje, hpj, hd]
section
variable {xs : Tr} (hok : Tr.ok xs = true)
include hok
theorem Tr.parent_zero : Tr.parentOf xs ((0 : Nat) : Int) = -1 := by
  have h0 := (Tr.ok_iff.1 hok).2
  unfold Tr.parentOf
  rw [Tr.has_nat hok (by omega)]
  rfl
theorem Tr.parent_pos {j : Nat} (hj : j < xs.length) (h0 : 0 < j) : ∃ p : Nat, p < j ∧ Tr.parentOf xs (j : Int) = (p : Int) ∧ Tr.d xs p = Tr.d xs j - 1 ∧ j < Tr.endN xs p := by
  have hz := Tr.dn_zero hok
  have hz2 := Tr.dn_eq hok (i := 0) (by omega)
  have hk := (Tr.ok_at hok hj).2
  obtain ⟨p, h1, h2, h3⟩ := Tr.back_ex (xs := xs) (dep := Tr.d xs j) j ⟨0, h0, by
    have : ¬ Tr.d xs j = 0 := fun e => by have := hk.2.1.1 e; omega
    omega⟩
  have hb := Tr.back_is h2 j h1 h3
  have hp := Tr.endN_dn hok (i := p) (by omega)
  have hd1 := Tr.dn_eq hok (i := p) (by omega)
  have hd2 := Tr.dn_eq hok hj
  refine ⟨p, h1, ?_, ?_, ?_⟩
  · unfold Tr.parentOf
    rw [Tr.has_nat hok hj]
    exact hb
  · have hs := (Tr.dn_succ hok (i := p) (by omega)).2
    have hd3 := Tr.dn_eq hok (i := p + 1) (by omega)
    by_cases e : p + 1 = j
    · rw [e] at hs hd3; omega
    · have := h3 (p + 1) (by omega) (by omega)
      omega
  · by_cases e : j < Tr.endN xs p
    · exact e
    · exfalso
      rcases hp.2.2.2 with q | ⟨q1, q2⟩
      · omega
      · by_cases r : Tr.endN xs p = j
        · rw [r] at q2; omega
        · have := h3 (Tr.endN xs p) (by omega) (by omega)
          have := Tr.dn_eq hok (i := Tr.endN xs p) (by omega)
          omega
theorem Tr.rank_pos {j : Nat} (hj : j < xs.length) : 0 ≤ Tr.kidRank xs (j : Int) ↔ 0 < j := by
  have find_mem : ∀ (zs : List Int) (i : Int) (k : Nat), i ∈ zs → 0 ≤ Zs.find zs i k := by
    intro zs i
    induction zs with
    | nil => intro k h; cases h
    | cons z zs ih =>
      intro k h
      unfold Zs.find
      by_cases e : z = i
      · rw [if_pos e]; omega
      · rw [if_neg e]
        rcases List.mem_cons.1 h with r | r
        · exact absurd r.symm e
        · exact ih _ r
  constructor
  · intro h
    by_cases e : j = 0
    · subst e
      unfold Tr.kidRank at h
      rw [Tr.parent_zero hok] at h
      simp at h
    · omega
  · intro h
    obtain ⟨p, h1, h2, h3, h4⟩ := Tr.parent_pos hok hj h
    unfold Tr.kidRank
    rw [h2, if_neg (by omega)]
    refine find_mem _ _ _ ?_
    rw [show Tr.kidsOf xs (p : Int) = Tr.kidsTo xs p (Tr.endN xs p) by unfold Tr.kidsOf; rw [Tr.has_nat hok (by omega)]; rfl]
    exact List.mem_map.2 ⟨j, Tr.kid_in h1 h4 (by omega), rfl⟩
end

end Go.Proofs.YtofpcedpmbecgaaDoor

/- Contracts (KidsP). -/
namespace Go.Proofs.YtofpcedpmbecgaaDoor
open Go.RowKit
set_option linter.unusedVariables false

theorem Tr.kidsTo_more (xs : Tr) (i k : Nat) : ∀ m, k ≤ m → ∃ r, Tr.kidsTo xs i m = Tr.kidsTo xs i k ++ r := by
  intro m
  induction m with
  | zero => intro h; obtain rfl : k = 0 := by omega
            exact ⟨[], by simp⟩
  | succ m ih =>
    intro h
    by_cases e : k = m + 1
    · subst e; exact ⟨[], by simp⟩
    · obtain ⟨r, hr⟩ := ih (by omega)
      refine ⟨r ++ ([m].filter fun j => decide (i < j) && decide (Tr.d xs j = Tr.d xs i + 1)), ?_⟩
      rw [← List.append_assoc, ← hr]
      unfold Tr.kidsTo
      rw [List.range_succ, List.filter_append]
theorem Zs.find_mid (A r : List Int) (b : Int) (k : Nat) (h : ∀ a ∈ A, a ≠ b) : Zs.find (A ++ b :: r) b k = ((k + A.length : Nat) : Int) := by
  induction A generalizing k with
  | nil => simp [Zs.find]
  | cons a A ih =>
    have ha : a ≠ b := h a List.mem_cons_self
    simp only [List.cons_append, Zs.find]
    rw [if_neg ha, ih (k + 1) (fun x hx => h x (List.mem_cons_of_mem _ hx))]
    simp
    omega
section
variable {xs : Tr} (hok : Tr.ok xs = true)
include hok
/-- at place b of the children's row of i, b itself is the next kid -/
theorem Tr.kid_next {i b : Nat} (hi : i < xs.length) (hb : Tr.bound xs i b) (hlt : b < Tr.endN xs i) : ∃ r, Tr.kidsTo xs i (Tr.endN xs i) = Tr.kidsTo xs i b ++ b :: r := by
  obtain ⟨hn, hl⟩ := Tr.bound_next hok hi hb hlt
  obtain ⟨r, hr⟩ := Tr.kidsTo_more xs i (Tr.endN xs b) (Tr.endN xs i) hn.2.1
  exact ⟨r, by rw [hr, Tr.kids_in hok hi hb hlt hl (Nat.le_refl _), List.append_assoc]; rfl⟩
theorem Tr.kid_parent {i b : Nat} (hi : i < xs.length) (hb : Tr.bound xs i b) (hlt : b < Tr.endN xs i) : Tr.parentOf xs (b : Int) = (i : Int) := by
  have a := Tr.endN_dn hok hi
  have hbn : b < xs.length := by omega
  have hd := hb.2.2 hlt
  have h1 := Tr.dn_eq hok hi
  have h2 := Tr.dn_eq hok hbn
  unfold Tr.parentOf
  rw [Tr.has_nat hok hbn]
  refine Tr.back_is (xs := xs) (p := i) (by simp; omega) b hb.1 (fun m q1 q2 => ?_)
  have := a.2.2.1 m q1 (by omega)
  have := Tr.dn_eq hok (i := m) (by omega)
  simp
  omega
theorem Tr.kid_rank {i b : Nat} (hi : i < xs.length) (hb : Tr.bound xs i b) (hlt : b < Tr.endN xs i) : Tr.kidRank xs (b : Int) = ((Tr.kidsTo xs i b).length : Nat) := by
  unfold Tr.kidRank
  rw [Tr.kid_parent hok hi hb hlt, if_neg (by omega)]
  obtain ⟨r, hr⟩ := Tr.kid_next hok hi hb hlt
  rw [show Tr.kidsOf xs (i : Int) = Tr.kidsTo xs i (Tr.endN xs i) by unfold Tr.kidsOf; rw [Tr.has_nat hok hi]; rfl, hr, List.map_append, List.map_cons, Zs.find_mid]
  · simp
  · intro a ha
    obtain ⟨m, hm, rfl⟩ := List.mem_map.1 ha
    unfold Tr.kidsTo at hm
    simp only [List.mem_filter, List.mem_range] at hm
    omega
/-- one round over the children: the j-th kid stands at b -/
theorem Tr.kid_round {i b j : Nat} (hi : i < xs.length) (hb : Tr.bound xs i b) (hj : (Tr.kidsTo xs i b).length = j) (hlt : j < (Tr.kidsTo xs i (Tr.endN xs i)).length) :
    b < xs.length ∧ Zs.at (Tr.kidsI xs (i : Int)) j = (b : Int) ∧ Tr.parentOf xs (b : Int) = (i : Int) ∧ Tr.kidRank xs (b : Int) = (j : Int) ∧
    (Tr.subTree xs (b : Int)).length = Tr.endN xs b - b ∧ Tr.bound xs i (Tr.endN xs b) ∧ (Tr.kidsTo xs i (Tr.endN xs b)).length = j + 1 ∧ b < Tr.endN xs b ∧ Tr.endN xs b ≤ xs.length ∧ i < b := by
  have a := Tr.endN_dn hok hi
  have hbe : b < Tr.endN xs i := by
    have := hb.2.1
    by_cases e : b = Tr.endN xs i
    · rw [e] at hj; omega
    · omega
  have hbn : b < xs.length := by omega
  obtain ⟨r, hr⟩ := Tr.kid_next hok hi hb hbe
  obtain ⟨hn, hl⟩ := Tr.bound_next hok hi hb hbe
  refine ⟨hbn, ?_, Tr.kid_parent hok hi hb hbe, by rw [Tr.kid_rank hok hi hb hbe, hj], ?_, hn, ?_, hl, (Tr.endN_dn hok hbn).2.1, hb.1⟩
  · rw [Tr.kidsI_yes (Tr.has_nat hok hi)]
    unfold Tr.kidsZ
    rw [hr]
    simp [Zs.at, List.getD_eq_getElem?_getD, ← hj]
  · rw [Tr.subTree_yes (Tr.has_nat hok hbn), Tr.subTo_length]
  · rw [Tr.kids_in hok hi hb hbe hl (Nat.le_refl _), List.length_append, hj]; rfl
theorem Tr.kid_last {i b j : Nat} (hi : i < xs.length) (hb : Tr.bound xs i b) (hj : (Tr.kidsTo xs i b).length = j) (hlt : j = (Tr.kidsTo xs i (Tr.endN xs i)).length) : b = Tr.endN xs i := by
  have := hb.2.1
  by_cases e : b = Tr.endN xs i
  · exact e
  · obtain ⟨r, hr⟩ := Tr.kid_next hok hi hb (by omega)
    rw [hr, List.length_append, List.length_cons] at hlt
    omega
end

end Go.Proofs.YtofpcedpmbecgaaDoor
