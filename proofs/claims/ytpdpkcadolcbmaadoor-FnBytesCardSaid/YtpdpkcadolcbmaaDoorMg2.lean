/- Texts of one claim laid into one file, in build order: Mem, Mem2, Res, TreeD, DrawL2, AnyD, Num, C1P, Cod, InS, VarS. -/
import Derived.Test.YtpdpkcadolcbmaaDoorMg1
import Derived.Deep.RegionLaw
import Derived.Laws.AppendOwn
import Derived.Laws.OwnMore
import Derived.Lib.Bytealg
import Derived.Lib.Strings
import Derived.Outline
import Derived.OwnWalk
import Derived.Test.YtpdpkcadolcbmaaDoorRows
import Derived.WalkKit
/- Contracts (Mem). -/
namespace Go.Proofs.YtpdpkcadolcbmaaDoor
open Go.RowKit
set_option linter.unusedVariables false


/-! rows of ints -/
def ints (zs : List Int) : List Value := zs.map (Value.int .i64)
def Zs.at (zs : List Int) (k : Nat) : Int := zs.getD k 0
theorem ints_length (zs : List Int) : (ints zs).length = zs.length := by simp [ints]
theorem ints_append (a b : List Int) : ints (a ++ b) = ints a ++ ints b := by simp [ints]
theorem ints_at (zs : List Int) (k : Nat) (h : k < zs.length) : (ints zs)[k]? = some (.int .i64 (Zs.at zs k)) := by
  simp [ints, Zs.at, List.getD_eq_getElem?_getD, h]
theorem ints_set (zs : List Int) (k : Nat) (a : Int) : (ints zs).set k (.int .i64 a) = ints (zs.set k a) := by simp [ints, List.map_set]
theorem ints_cell (zs : List Int) : ∀ u ∈ ints zs, u.oneCell' = true := by
  intro u hu
  simp only [ints, List.mem_map] at hu
  obtain ⟨a, _, rfl⟩ := hu
  rfl
theorem Tr.cells_cell (xs : Tr) : ∀ u ∈ Tr.cells xs, u.oneCell' = true := by
  intro u hu
  simp only [Tr.cells, List.mem_flatMap] at hu
  obtain ⟨a, _, hu⟩ := hu
  simp at hu
  rcases hu with rfl | rfl <;> rfl
theorem Zs.ext {a b : List Int} (hl : a.length = b.length) (h : ∀ k, k < a.length → Zs.at a k = Zs.at b k) : a = b := by
  refine List.ext_getElem hl fun k h1 h2 => ?_
  have := h k h1
  simpa [Zs.at, List.getD_eq_getElem?_getD, h1, h2] using this

/-- the slice (A, n) reads as the ints zs, in blocks below B -/
def IntIn (w : World) (B : Nat) (A : Option Addr) (n : Nat) (zs : List Int) : Prop :=
  zs.length = n ∧ (0 < n → ∃ ad, A = some ad ∧ ad.block < B) ∧ ∀ ad, A = some ad → ∀ k, k < n → w.cell? (ad.add k) = some (.int .i64 (Zs.at zs k))

section
variable {w w' : World} {B B' n : Nat} {A : Option Addr} {zs : List Int}
theorem IntIn.keep (h : IntIn w B A n zs) (hk : ∀ p : Addr, p.block < B → w'.cell? p = w.cell? p) : IntIn w' B A n zs := by
  refine ⟨h.1, h.2.1, fun ad e k hkn => ?_⟩
  obtain ⟨ad', e', hb⟩ := h.2.1 (by omega)
  obtain rfl : ad' = ad := by rw [e'] at e; injection e
  rw [hk _ (by rw [block_of_add]; exact hb)]
  exact h.2.2 _ e k hkn
theorem IntIn.more (h : IntIn w B A n zs) (hB : B ≤ B') : IntIn w B' A n zs :=
  ⟨h.1, fun hn => by obtain ⟨ad, e, hb⟩ := h.2.1 hn; exact ⟨ad, e, by omega⟩, h.2.2⟩
theorem IntIn.below (h : IntIn w B A n zs) (hb : Below B w w') : IntIn w' B A n zs := h.keep fun _ hp => hb.cell hp
theorem IntIn.drawn (h : IntIn w B A n zs) (k : Drawn w w') : IntIn w' B A n zs := by obtain ⟨m, rfl⟩ := k; exact h
theorem IntIn.to_below (h : IntIn w w.heap.size A n zs) (hb : Below w.heap.size w w') : IntIn w' w'.heap.size A n zs := (h.below hb).more hb.size
theorem IntIn.to_drawn (h : IntIn w w.heap.size A n zs) (hb : Drawn w w') : IntIn w' w'.heap.size A n zs := h.to_below hb.toBelow
theorem IntIn.here {ad : Addr} (h : IntIn w B (some ad) n zs) {k : Nat} (hk : k < n) : w.cell? (ad.add k) = some (.int .i64 (Zs.at zs k)) := h.2.2 ad rfl k hk
theorem IntIn.at_ (h : IntIn w B A n zs) {k : Nat} (hk : k < n) : ∃ ad, A = some ad ∧ ad.block < B ∧ w.cell? (ad.add k) = some (.int .i64 (Zs.at zs k)) := by
  obtain ⟨ad, rfl, hb⟩ := h.2.1 (by omega)
  exact ⟨ad, rfl, hb, h.here hk⟩
theorem IntIn.of_own {base : Nat} {e : TypeId} {c : Nat} (h : w.ownsRow base e 1 (.slice A n c) n (ints zs)) : IntIn w w.heap.size A n zs := by
  have hlen : zs.length = n := by have := h.1; rw [ints_length] at this; omega
  have hb : 0 < n → ∃ g cap, Value.slice A n c = .slice (some ⟨g, 0, none⟩) n cap ∧ g < w.heap.size := by
    intro hn
    rcases h.2 with ⟨_, h0⟩ | ⟨g, cap, cur, hv, hg, hh, _⟩
    · omega
    · refine ⟨g, cap, hv, ?_⟩
      rcases Nat.lt_or_ge g w.heap.size with hlt | hge
      · exact hlt
      · rw [Array.getElem?_eq_none hge] at hh; cases hh
  refine ⟨hlen, fun hn => ?_, fun ad e k hk => ?_⟩
  · obtain ⟨g, cap, hv, hlt⟩ := hb hn
    obtain rfl : A = some ⟨g, 0, none⟩ := by injection hv
    exact ⟨_, rfl, hlt⟩
  · obtain ⟨g, cap, hv, hlt⟩ := hb (by omega)
    obtain rfl : A = some ⟨g, 0, none⟩ := by injection hv
    obtain rfl : (⟨g, 0, none⟩ : Addr) = ad := by injection e
    exact h.cells rfl _ _ (ints_at zs k (by omega))
theorem IntIn.cells_at {ad : Addr} (h : IntIn w B (some ad) n zs) : ∀ j u, (ints zs)[j]? = some u → w.cell? (ad.add j) = some u := by
  intro j u hj
  have hlt := (List.getElem?_eq_some_iff.1 hj).1
  rw [ints_length] at hlt
  rw [ints_at _ _ hlt] at hj
  rw [h.here (k := j) (by rw [← h.1]; exact hlt)]
  exact hj
end

theorem NdIn.cells_at {w : World} {B n : Nat} {xs : Tr} {ad : Addr} (h : NdIn w B (some ad) n xs) : ∀ j u, (Tr.cells xs)[j]? = some u → w.cell? (ad.add j) = some u := by
  intro j u hj
  have hlt := (List.getElem?_eq_some_iff.1 hj).1
  rw [Tr.cells_length] at hlt
  have hk : j / 2 < xs.length := by omega
  have hc := h.2.2 ad rfl (j / 2) (by rw [← h.1]; exact hk)
  rcases Nat.mod_two_eq_zero_or_one j with h2 | h2
  · have e : j = j / 2 * 2 := by omega
    rw [e] at hj ⊢
    rw [Tr.cells_even _ _ hk] at hj
    rw [hc.1]
    exact hj
  · have e : j = j / 2 * 2 + 1 := by omega
    rw [e] at hj ⊢
    rw [Tr.cells_odd _ _ hk] at hj
    rw [hc.2]
    exact hj

/-! rows of the call's own -/
section
variable {w w' w'' : World} {base n g size : Nat} {e : TypeId} {v : Value} {ys : List Value}
theorem grown_tr {row : Option Nat} (h : w.grownBy w' row) (k : w'.grownBy w'' row) : w.grownBy w'' row :=
  ⟨k.os.trans h.os, k.tape.trans h.tape, k.output.trans h.output, Nat.le_trans h.size k.size, fun i hi hne => (k.block i (Nat.lt_of_lt_of_le hi h.size) hne).trans (h.block i hi hne)⟩
/-- a write into another row below the base -/
theorem own_grown (h : w.ownsRow base e size v n ys) {row : Option Nat} (hg : w.grownBy w' row) (hlt : ∀ g, row = some g → g < base) : w'.ownsRow base e size v n ys := by
  refine h.kept hg ?_
  rcases hb : v.ownBlock with _ | k
  · exact .inl rfl
  · refine .inr fun he => ?_
    have := h.lt k hb
    have := hlt k he.symm
    omega
theorem own_int {c : Nat} {zs : List Int} (h : w.ownsRow base e 1 (.slice (some ⟨g, 0, none⟩) n c) n (ints zs)) {k : Nat} (hk : k < zs.length) : w.cell? ⟨g, k, none⟩ = some (.int .i64 (Zs.at zs k)) := by
  have := h.1
  rw [ints_length] at this
  rw [h.cellAt _ (by omega), ints_at _ _ hk]
/-- where a row of one element at least lies -/
theorem own_form {A : Option Addr} {c : Nat} (h : w.ownsRow base e size (.slice A n c) n ys) (hn : 0 < n) : ∃ g, A = some ⟨g, 0, none⟩ ∧ base ≤ g ∧ g < w.heap.size := by
  rcases h.2 with ⟨_, h0⟩ | ⟨g, cap, cur, hv, hg, hh, _⟩
  · omega
  · have hA : A = some ⟨g, 0, none⟩ := by injection hv
    have := h.lt g (by rw [hA]; rfl)
    exact ⟨g, hA, hg, this.2⟩
theorem own_below_of {B : Nat} {w0 : World} {A : Option Addr} {c : Nat} (hb : Below B w0 w) (h : w.ownsRow base e size (.slice A n c) n ys) (hg : w.grownBy w' (Value.ownBlock (.slice A n c))) (hB : B ≤ base) (hsz : B ≤ w.heap.size) : Below B w0 w' :=
  hb.grown hg hsz (fun k hk => by have := h.lt k hk; omega)
end

/-! marks -/
def Zs.marks (k : Int) (n : Nat) : List Int := (List.range n).map fun j => k + (j : Nat)
def Zs.marked (k : Int) (zs : List Int) (j : Nat) : List Int := Zs.marks k j ++ zs.drop j
theorem Zs.marks_length (k : Int) (n : Nat) : (Zs.marks k n).length = n := by simp [Zs.marks]
theorem Zs.marks_at (k : Int) (n j : Nat) (h : j < n) : Zs.at (Zs.marks k n) j = k + (j : Nat) := by simp [Zs.at, Zs.marks, List.getD_eq_getElem?_getD, h]
theorem Zs.marks_succ (k : Int) (j : Nat) : Zs.marks k (j + 1) = Zs.marks k j ++ [k + (j : Nat)] := by simp [Zs.marks, List.range_succ]
theorem Zs.marked_set (k : Int) (zs : List Int) (j : Nat) (h : j < zs.length) : (Zs.marked k zs j).set j (k + (j : Nat)) = Zs.marked k zs (j + 1) := by
  unfold Zs.marked
  rw [List.set_append_right _ _ (by simp [Zs.marks]), Zs.marks_length, Nat.sub_self, List.drop_eq_getElem_cons h, Zs.marks_succ, List.set_cons_zero, List.append_assoc]
  rfl
theorem Zs.marked_all (k : Int) (zs : List Int) : Zs.marked k zs zs.length = Zs.marks k zs.length := by simp [Zs.marked]
theorem Zs.marked_length (k : Int) (zs : List Int) (j : Nat) (h : j ≤ zs.length) : (Zs.marked k zs j).length = zs.length := by simp [Zs.marked, Zs.marks]; omega

def Tr.marks (k : Int) (n : Nat) : Tr := (List.range n).map fun j => (k + 2 * (j : Nat), k + 2 * (j : Nat) + 1)
def Tr.marked (k : Int) (xs : Tr) (j : Nat) : Tr := Tr.marks k j ++ xs.drop j
theorem Tr.marks_length (k : Int) (n : Nat) : (Tr.marks k n).length = n := by simp [Tr.marks]
theorem Tr.marks_l (k : Int) (n j : Nat) (h : j < n) : Tr.l (Tr.marks k n) j = k + 2 * (j : Nat) := by simp [Tr.l, Tr.marks, List.getD_eq_getElem?_getD, h]
theorem Tr.marks_d (k : Int) (n j : Nat) (h : j < n) : Tr.d (Tr.marks k n) j = k + 2 * (j : Nat) + 1 := by simp [Tr.d, Tr.marks, List.getD_eq_getElem?_getD, h]
theorem Tr.marks_succ (k : Int) (j : Nat) : Tr.marks k (j + 1) = Tr.marks k j ++ [(k + 2 * (j : Nat), k + 2 * (j : Nat) + 1)] := by simp [Tr.marks, List.range_succ]
theorem Tr.marked_set (k : Int) (xs : Tr) (j : Nat) (h : j < xs.length) : (Tr.marked k xs j).set j (k + 2 * (j : Nat), k + 2 * (j : Nat) + 1) = Tr.marked k xs (j + 1) := by
  unfold Tr.marked
  rw [List.set_append_right _ _ (by simp [Tr.marks]), Tr.marks_length, Nat.sub_self, List.drop_eq_getElem_cons h, Tr.marks_succ, List.set_cons_zero, List.append_assoc]
  rfl
theorem Tr.marked_all (k : Int) (xs : Tr) : Tr.marked k xs xs.length = Tr.marks k xs.length := by simp [Tr.marked]
theorem Tr.marked_length (k : Int) (xs : Tr) (j : Nat) (h : j ≤ xs.length) : (Tr.marked k xs j).length = xs.length := by simp [Tr.marked, Tr.marks]; omega

/-! append of one element, the elements of which lie in a new block -/
/-- out = append(out, x), out a row of ints of the call's own -/
theorem append_int {P : Program} (w : World) {ops : Array Oper} {rest : List Oper} {o : Oper} {a : Act} {Q : Exit → Act → World → Prop} (hgd : o.guard = none) (s x : Operand) (t : TypeId)
    (ho : o.op = .call { callee := .builtin .append, args := #[s, x], argTypes := #[t, t] })
    (base : Nat) (e : TypeId) (i : TypeInfo) (ht : P.underlying t = some (.slice e)) (hi : P.info? e = some i) (hz : i.zero = some (.int .i64 0))
    (hsize : i.size = 1) (hby : i.bytes = 8) (v : Value) (n : Nat) (l : List Int) (hs : a.eval s = v) (hown : w.ownsRow base e 1 v n (ints l)) (hn : n = l.length)
    (b : Int) (hx : a.eval x = .slice (some ⟨w.heap.size, 0, none⟩) 1 1)
    (h63 : l.length + 1 ≤ 1073741824) (hbase : base ≤ w.heap.size)
    (h : ∀ v' w', w'.ownsRow base e 1 v' (l ++ [b]).length (ints (l ++ [b])) → (w.alloc (.cells #[.int .i64 b] e)).grownBy w' v.ownBlock → wpList P ops Q rest (a.put o.dst v') w') :
    wpList P ops Q (o :: rest) a (w.alloc (.cells #[.int .i64 b] e)) := by
  subst hn
  refine wpList_append_own _ hgd s x t ho base e i (.int .i64 0) 1 8 ht hi hz hsize hby rfl (by decide) v l.length (ints l) hs (hown.alloc _) ⟨w.heap.size, 0, none⟩ 1 1 [.int .i64 b] hx rfl ?_ ?_ ?_ ?_ ?_ ?_
  · intro j u hj
    have hj0 : j = 0 := by
      have := (List.getElem?_eq_some_iff.1 hj).1
      simpa using this
    subst hj0
    simp at hj
    subst hj
    simp [Addr.add]
  · intro u hu; simp at hu; subst hu; rfl
  · unfold maxLen; omega
  · omega
  · simp; omega
  · intro v' w' h2 h3 _
    refine h v' w' ?_ h3
    rw [ints_append, List.length_append]
    exact h2
/-- out = append(out, T{a, b}) in a region that draws its order, out a row of such of the call's own -/
theorem step_append_node {P : Program} {ops : Array Oper} {o : Oper} {a : Act} (w : World) {K : Act → World → Prop} {Q : Exit → Act → World → Prop} {E : Prop} (hgd : o.guard = none) (s x : Operand) (t : TypeId)
    (ho : o.op = .call { callee := .builtin .append, args := #[s, x], argTypes := #[t, t] })
    (base : Nat) (e : TypeId) (i : TypeInfo) (ht : P.underlying t = some (.slice e)) (hi : P.info? e = some i) (hz : i.zero = some (.agg #[.int .i64 0, .int .i64 0]))
    (hsize : i.size = 2) (hby : i.bytes = 16) (v : Value) (n : Nat) (l : Tr) (hs : a.eval s = v) (hown : w.ownsRow base e 2 v n (Tr.cells l)) (hn : n = l.length)
    (b1 b2 : Int) (hx : a.eval x = .slice (some ⟨w.heap.size, 0, none⟩) 1 1)
    (h63 : l.length + 1 ≤ 1073741824) (hbase : base ≤ w.heap.size)
    (h : ∀ v' w', w'.ownsRow base e 2 v' (l ++ [(b1, b2)]).length (Tr.cells (l ++ [(b1, b2)])) → (w.alloc (.cells #[.int .i64 b1, .int .i64 b2] e)).grownBy w' v.ownBlock → K (a.put o.dst v') w') :
    if Region.wanted o (yielded ops a.tmps) = true then Oper.wp P o a (w.alloc (.cells #[.int .i64 b1, .int .i64 b2] e)) K Q else E := by
  have hw : Region.wanted o (yielded ops a.tmps) = true := by simp [Region.wanted, hgd]
  rw [if_pos hw]
  subst hn
  refine wp_append_own _ s x t ho base e i (.agg #[.int .i64 0, .int .i64 0]) 2 16 ht hi hz hsize hby rfl (by decide) v l.length (Tr.cells l) hs (hown.alloc _) ⟨w.heap.size, 0, none⟩ 1 1 (Tr.cells [(b1, b2)]) hx (by simp [Tr.cells]) ?_ (Tr.cells_cell _) (by unfold maxLen; omega) (by omega) (by simp; omega) ?_
  · intro j u hj
    have hj2 : j < 2 := by
      have := (List.getElem?_eq_some_iff.1 hj).1
      simpa [Tr.cells] using this
    have : j = 0 ∨ j = 1 := by omega
    rcases this with rfl | rfl <;> (simp [Tr.cells] at hj; subst hj; simp [Addr.add])
  · intro v' w' h2 h3 _
    refine h v' w' ?_ h3
    rw [Tr.cells_append, List.length_append]
    exact h2

end Go.Proofs.YtpdpkcadolcbmaaDoor

/- Contracts (Mem2). -/
namespace Go.Proofs.YtpdpkcadolcbmaaDoor
open Go.RowKit
set_option linter.unusedVariables false

theorem append_node {P : Program} (w : World) {ops : Array Oper} {rest : List Oper} {o : Oper} {a : Act} {Q : Exit → Act → World → Prop} (hgd : o.guard = none) (s x : Operand) (t : TypeId)
    (ho : o.op = .call { callee := .builtin .append, args := #[s, x], argTypes := #[t, t] })
    (base : Nat) (e : TypeId) (i : TypeInfo) (ht : P.underlying t = some (.slice e)) (hi : P.info? e = some i) (hz : i.zero = some (.agg #[.int .i64 0, .int .i64 0]))
    (hsize : i.size = 2) (hby : i.bytes = 16) (v : Value) (n : Nat) (l : Tr) (hs : a.eval s = v) (hown : w.ownsRow base e 2 v n (Tr.cells l)) (hn : n = l.length)
    (b1 b2 : Int) (hx : a.eval x = .slice (some ⟨w.heap.size, 0, none⟩) 1 1)
    (h63 : l.length + 1 ≤ 1073741824) (hbase : base ≤ w.heap.size)
    (h : ∀ v' w', w'.ownsRow base e 2 v' (l ++ [(b1, b2)]).length (Tr.cells (l ++ [(b1, b2)])) → (w.alloc (.cells #[.int .i64 b1, .int .i64 b2] e)).grownBy w' v.ownBlock → wpList P ops Q rest (a.put o.dst v') w') :
    wpList P ops Q (o :: rest) a (w.alloc (.cells #[.int .i64 b1, .int .i64 b2] e)) := by
  subst hn
  refine wpList_append_own _ hgd s x t ho base e i (.agg #[.int .i64 0, .int .i64 0]) 2 16 ht hi hz hsize hby rfl (by decide) v l.length (Tr.cells l) hs (hown.alloc _) ⟨w.heap.size, 0, none⟩ 1 1 (Tr.cells [(b1, b2)]) hx (by simp [Tr.cells]) ?_ (Tr.cells_cell _) (by unfold maxLen; omega) (by omega) (by simp; omega) ?_
  · intro j u hj
    have hj2 : j < 2 := by
      have := (List.getElem?_eq_some_iff.1 hj).1
      simpa [Tr.cells] using this
    have : j = 0 ∨ j = 1 := by omega
    rcases this with rfl | rfl <;> (simp [Tr.cells] at hj; subst hj; simp [Addr.add])
  · intro v' w' h2 h3 _
    refine h v' w' ?_ h3
    rw [Tr.cells_append, List.length_append]
    exact h2

end Go.Proofs.YtpdpkcadolcbmaaDoor

/- Contracts (Res). -/
namespace Go.Proofs.YtpdpkcadolcbmaaDoor
open Go.RowKit
set_option linter.unusedVariables false


/-- the answer is a row of ints of the call's own -/
def OwnInts (E : TypeId) (zs : List Int) (w : World) (e : Ending) (w' : World) : Prop :=
  ∃ A c, e = .returned (.slice A zs.length c) ∧ w'.ownsRow w.heap.size E 1 (.slice A zs.length c) zs.length (ints zs) ∧ Below w.heap.size w w'
/-- .. of nodes -/
def OwnNodes (E : TypeId) (xs : Tr) (w : World) (e : Ending) (w' : World) : Prop :=
  ∃ A c, e = .returned (.slice A xs.length c) ∧ w'.ownsRow w.heap.size E 2 (.slice A xs.length c) xs.length (Tr.cells xs) ∧ Below w.heap.size w w'
theorem own_slice {w : World} {base n size : Nat} {e : TypeId} {v : Value} {ys : List Value} (h : w.ownsRow base e size v n ys) : ∃ A c, v = .slice A n c := by
  rcases h.2 with ⟨rfl, rfl⟩ | ⟨g, cap, cur, rfl, _⟩
  · exact ⟨_, _, rfl⟩
  · exact ⟨_, _, rfl⟩
theorem own_drawn {w w' : World} {base n size : Nat} {e : TypeId} {v : Value} {ys : List Value} (h : w.ownsRow base e size v n ys) (k : Drawn w w') : w'.ownsRow base e size v n ys := own_below h k.toBelow
theorem own_nil {w : World} {base size : Nat} {e : TypeId} : w.ownsRow base e size (.slice none 0 0) 0 [] := World.ownsRow_nil w base e size
theorem own_base {w : World} {base base' n size : Nat} {e : TypeId} {v : Value} {ys : List Value} (h : w.ownsRow base e size v n ys) (hb : base' ≤ base) : w.ownsRow base' e size v n ys := by
  refine ⟨h.1, ?_⟩
  rcases h.2 with h | ⟨g, cap, cur, hv, hg, h⟩
  · exact .inl h
  · exact .inr ⟨g, cap, cur, hv, Nat.le_trans hb hg, h⟩
def Tr.kidsZ (xs : Tr) (i k : Nat) : List Int := (Tr.kidsTo xs i k).map fun (m : Nat) => (m : Int)
theorem Tr.kidsZ_succ (xs : Tr) (i k : Nat) (hk : i < k) : Tr.kidsZ xs i (k + 1) = if Tr.d xs k = Tr.d xs i + 1 then Tr.kidsZ xs i k ++ [(k : Int)] else Tr.kidsZ xs i k := by
  unfold Tr.kidsZ
  rw [Tr.kidsTo_succ xs i k hk]
  split <;> simp
theorem Tr.kidsZ_start (xs : Tr) (i : Nat) : Tr.kidsZ xs i (i + 1) = [] := by simp [Tr.kidsZ, Tr.kidsTo_start]
theorem Tr.kidsZ_len (xs : Tr) (i k : Nat) : (Tr.kidsZ xs i k).length ≤ k := by simpa [Tr.kidsZ] using Tr.kidsTo_le xs i k
def Tr.kidsI (xs : Tr) (i : Int) : List Int := (Tr.kidsOf xs i).map fun (m : Nat) => (m : Int)
theorem Tr.kidsI_yes {xs : Tr} {j : Nat} (h : Tr.has xs j = true) : Tr.kidsI xs j = Tr.kidsZ xs j (Tr.endN xs j) := by simp [Tr.kidsI, Tr.kidsOf, h, Tr.kidsZ]
theorem Tr.kidsI_no {xs : Tr} {i : Int} (h : Tr.has xs i = false) : Tr.kidsI xs i = [] := by simp [Tr.kidsI, Tr.kidsOf, h]
theorem Tr.endOf_yes {xs : Tr} {j : Nat} (h : Tr.has xs j = true) : Tr.endOf xs j = (Tr.endN xs j : Nat) := by simp [Tr.endOf, h]
theorem Tr.endOf_no {xs : Tr} {i : Int} (h : Tr.has xs i = false) : Tr.endOf xs i = -1 := by simp [Tr.endOf, h]
theorem Tr.subTree_yes {xs : Tr} {j : Nat} (h : Tr.has xs j = true) : Tr.subTree xs j = Tr.subTo xs j (Tr.endN xs j) := by simp [Tr.subTree, h]
theorem Tr.subTree_len (xs : Tr) (i : Int) : (Tr.subTree xs i).length ≤ xs.length := by
  rcases h : Tr.has xs i with _ | _
  · rw [show Tr.subTree xs i = [] by simp [Tr.subTree, h]]; simp
  · have h1 := (Tr.has_iff.1 h).2
    obtain ⟨j, rfl⟩ := Int.eq_ofNat_of_zero_le h1.1
    rw [Tr.subTree_yes h, Tr.subTo_length]
    have := (Tr.endN_spec xs j (by omega)).2.1
    omega
theorem Tr.kidsI_len (xs : Tr) (i : Int) : (Tr.kidsI xs i).length ≤ xs.length := by
  rcases h : Tr.has xs i with _ | _
  · rw [Tr.kidsI_no h]; simp
  · have h1 := (Tr.has_iff.1 h).2
    obtain ⟨j, rfl⟩ := Int.eq_ofNat_of_zero_le h1.1
    rw [Tr.kidsI_yes h]
    have h2 := (Tr.endN_spec xs j (by omega)).2.1
    have h3 := Tr.kidsZ_len xs j (Tr.endN xs j)
    omega
theorem Tr.subTree_no {xs : Tr} {i : Int} (h : Tr.has xs i = false) : Tr.subTree xs i = [] := by simp [Tr.subTree, h]
theorem own_cap {w : World} {base n size : Nat} {e : TypeId} {A : Option Addr} {c : Nat} {ys : List Value} (h : w.ownsRow base e size (.slice A n c) n ys) : n ≤ c := by
  rcases h.2 with ⟨h1, h2⟩ | ⟨g, cap, cur, hv, _, _, hle, _⟩
  · omega
  · injection hv with h1 h2 h3
    omega

end Go.Proofs.YtpdpkcadolcbmaaDoor

/- Contracts (TreeD). -/
namespace Go.Proofs.YtpdpkcadolcbmaaDoor
open Go.RowKit
set_option linter.unusedVariables false

theorem info_ndD : (Tryd.prog.info? 46).map (fun i => (i.zero, i.size, i.bytes)) = some (some (.agg #[.int .i64 0, .int .i64 0]), 2, 16) := by kernel_rfl
theorem Tr.dsnoc {xs : Tr} {x : Int × Int} (h : ∀ j, j < xs.length → 0 ≤ Tr.d xs j ∧ Tr.d xs j ≤ 12) (h2 : 0 ≤ x.2 ∧ x.2 ≤ 12) : ∀ j, j < (xs ++ [x]).length → 0 ≤ Tr.d (xs ++ [x]) j ∧ Tr.d (xs ++ [x]) j ≤ 12 := by
  intro j hj
  rw [List.length_append, List.length_singleton] at hj
  by_cases e : j < xs.length
  · have := h j e
    unfold Tr.d at this ⊢
    rw [List.getD_eq_getElem?_getD, List.getElem?_append_left e, ← List.getD_eq_getElem?_getD]
    exact this
  · obtain rfl : j = xs.length := by omega
    unfold Tr.d
    simpa [List.getD_eq_getElem?_getD] using h2
set_option maxHeartbeats 1600000 in
set_option maxRecDepth 100000 in
theorem l3Tree_ex (w : World) (B : Nat) (k : Code) (most : Int) (hm : most ≤ 30) (c : CurX w B k) :
    Calls Tryd.prog 42 #[.pointer (some ⟨B, 0, none⟩), .int .i64 most] w fun e w' => ∃ (xs : Tr) (A : Option Addr) (cp : Nat), e = .returned (.slice A xs.length cp) ∧ w'.ownsRow w.heap.size 46 2 (.slice A xs.length cp) xs.length (Tr.cells xs) ∧
      (1 ≤ xs.length ∧ ((xs.length : Int) ≤ most ∨ xs.length = 1)) ∧ (∀ j, j < xs.length → 0 ≤ Tr.d xs j ∧ Tr.d xs j ≤ 12) ∧ CurX w' B k ∧ w.grownBy w' (some B) := by
  have HC := Lib.hid c
  have hBB := c.lt
  have HG := Lib.hid (Kit.grown_refl w (some B))
  clear c
  obtain ⟨i0, hi, hz0, hz1, hz2⟩ := info_parts info_ndD
  have Hi := Lib.hid hi
  clear hi
  go_enter Tryd.func42, Tryd.ntmps42
  go_wp2_with fail
  refine (l2Label_ex _ B k HC.out).mono ?_
  rintro e w1 ⟨v, rfl, c, g⟩
  have HC := Lib.hid c
  have HG := Lib.hid (Kit.grown_trans HG.out g)
  have hsx := HG.out.size
  have Ho := Lib.hid (World.ownsRow_lit (base := w.heap.size) (e := 46) (size := 2) w1 #[.int .i64 v, .int .i64 0] 1 hsx (by decide) rfl)
  have HC := Lib.hid (HC.out.alloc (.cells #[.int .i64 v, .int .i64 0] 46))
  have HG := Lib.hid (Kit.grown_trans HG.out (Kit.grown_alloc w1 (.cells #[.int .i64 v, .int .i64 0] 46) (some B)))
  clear c g
  go_wp2_with fail
  refine (l1Below_ex _ B k most HC.out).mono ?_
  rintro e w2 ⟨n, rfl, hn, c, g⟩
  have HC := Lib.hid c
  have HG := Lib.hid (Kit.grown_trans HG.out g)
  have Ho := Lib.hid (Kit.keptRow Ho.out hBB g)
  clear c g
  go_wp2
  go_loopw [6, 5] (fun nv lv wr => ∃ (r : Nat) (xs : Tr), nv = .int .i64 r ∧ ((r + xs.length : Nat) : Int) ≤ max 1 most ∧ wr.ownsRow w.heap.size 46 2 lv xs.length (Tr.cells xs) ∧ 1 ≤ xs.length ∧ (∀ j, j < xs.length → 0 ≤ Tr.d xs j ∧ Tr.d xs j ≤ 12) ∧ CurX wr B k ∧ w.grownBy wr (some B)) (fun n _ _ => (intOf n).toNat)
  case atStart =>
    refine ⟨n, [((v : Nat), 0)], rfl, by simp; omega, Ho.out, by simp, fun j hj => ?_, HC.out, HG.out⟩
    obtain rfl : j = 0 := by simpa using hj
    simp [Tr.d]
  case round =>
    clear Ho HC HG hn hsx
    obtain ⟨r, xs, rfl, hr, hown, hlen, hbd, hc, hg⟩ := hrel
    have Ho := Lib.hid hown
    have HC := Lib.hid hc
    have HG := Lib.hid hg
    have Hbd := Lib.hid hbd
    clear hown hc hg hbd
    obtain ⟨A', c', rfl⟩ := own_slice Ho.out
    have hl31 : xs.length ≤ 31 := by omega
    by_cases h0 : r = 0
    · subst h0
      go_wp2
      go_ret
      exact ⟨xs, A', c', rfl, Ho.out, ⟨hlen, by omega⟩, Hbd.out, HC.out, HG.out⟩
    · have e0 : decide (0 < r) = true := by simp; omega
      obtain ⟨gk, rfl, _, _⟩ := own_form Ho.out (by omega)
      have hl := own_odd Ho.out (k := xs.length - 1) (by omega)
      have hdb := Hbd.out (xs.length - 1) (by omega)
      obtain ⟨d, hd⟩ : ∃ d, d = Tr.d xs (xs.length - 1) := ⟨_, rfl⟩
      rw [← hd] at hl hdb
      clear hd
      have a1 : IntKind.i64.wrap ((xs.length : Int) - 1) = (xs.length : Int) - 1 := Kit.w64 (by omega) (by omega)
      have a2 : ((xs.length : Int) - 1).toNat = xs.length - 1 := by omega
      have a3 : (1 : Int) ≤ (xs.length : Int) := by omega
      have a4 : (xs.length : Int) - 1 < (xs.length : Int) := by omega
      have a5 : IntKind.i64.wrap (d + 1) = d + 1 := Kit.w64 (by omega) (by omega)
      go_wp2_with fail
      refine (l1Below_ex _ B k (d + 1) HC.out).mono ?_
      rintro e w3 ⟨t, rfl, ht, c, g⟩
      have HC := Lib.hid c
      have HG := Lib.hid (Kit.grown_trans HG.out g)
      have Ho := Lib.hid (Kit.keptRow Ho.out hBB g)
      clear c g
      have a6 : IntKind.i64.wrap (1 + (t : Int)) = 1 + (t : Int) := Kit.w64 (by omega) (by omega)
      go_wp2_with fail
      refine (l1Once_ex _ B k 2 HC.out).mono ?_
      rintro e w4 ⟨b, rfl, c, g⟩
      have HC := Lib.hid c
      have HG := Lib.hid (Kit.grown_trans HG.out g)
      have Ho := Lib.hid (Kit.keptRow Ho.out hBB g)
      clear c g
      cases b with
      | true =>
        by_cases h12 : 12 < d + 1
        · have e12 : decide (12 < d + 1) = true := by simpa using h12
          go_wp2_with fail
          refine (l2Label_ex _ B k HC.out).mono ?_
          rintro e w5 ⟨q, rfl, c, g⟩
          have HC := Lib.hid c
          have HG := Lib.hid (Kit.grown_trans HG.out g)
          have Ho := Lib.hid (Kit.keptRow Ho.out hBB g)
          clear c g
          have hsx := HG.out.size
          go_wp2_with (at_builtin; go_loud (refine append_node w5 rfl _ _ 24 rfl w.heap.size 46 i0 Tryd.underlying24 Hi.out hz0 hz1 hz2 (.slice (some ⟨gk, 0, none⟩) xs.length c') xs.length xs rfl Ho.out rfl (q : Int) (1) rfl (by omega) hsx ?_); intro v' w6 hown hgrow)
          have hg6 := Kit.grown_own HG.out (Nat.le_refl _) Ho.out hgrow
          have hc6 := (HC.out.alloc (.cells #[.int .i64 (q : Int), .int .i64 (1)] 46)).kept hgrow (fun j hj => by have := (Ho.out.lt j hj).1; omega)
          go_roundw
          case rel => exact ⟨r - 1, xs ++ [((q : Int), 1)], by go_num, by simp; omega, hown, by simp, Tr.dsnoc Hbd.out (by constructor <;> simp <;> omega), hc6, hg6⟩
          case measure => simp [intOf]; omega
        · have e12 : decide (12 < d + 1) = false := by simpa using h12
          go_wp2_with fail
          refine (l2Label_ex _ B k HC.out).mono ?_
          rintro e w5 ⟨q, rfl, c, g⟩
          have HC := Lib.hid c
          have HG := Lib.hid (Kit.grown_trans HG.out g)
          have Ho := Lib.hid (Kit.keptRow Ho.out hBB g)
          clear c g
          have hsx := HG.out.size
          go_wp2_with (at_builtin; go_loud (refine append_node w5 rfl _ _ 24 rfl w.heap.size 46 i0 Tryd.underlying24 Hi.out hz0 hz1 hz2 (.slice (some ⟨gk, 0, none⟩) xs.length c') xs.length xs rfl Ho.out rfl (q : Int) ((d + 1)) rfl (by omega) hsx ?_); intro v' w6 hown hgrow)
          have hg6 := Kit.grown_own HG.out (Nat.le_refl _) Ho.out hgrow
          have hc6 := (HC.out.alloc (.cells #[.int .i64 (q : Int), .int .i64 ((d + 1))] 46)).kept hgrow (fun j hj => by have := (Ho.out.lt j hj).1; omega)
          go_roundw
          case rel => exact ⟨r - 1, xs ++ [((q : Int), (d + 1))], by go_num, by simp; omega, hown, by simp, Tr.dsnoc Hbd.out (by constructor <;> simp <;> omega), hc6, hg6⟩
          case measure => simp [intOf]; omega
      | false =>
        by_cases h12 : 12 < 1 + (t : Int)
        · have e12 : decide (12 < 1 + (t : Int)) = true := by simpa using h12
          go_wp2_with fail
          refine (l2Label_ex _ B k HC.out).mono ?_
          rintro e w5 ⟨q, rfl, c, g⟩
          have HC := Lib.hid c
          have HG := Lib.hid (Kit.grown_trans HG.out g)
          have Ho := Lib.hid (Kit.keptRow Ho.out hBB g)
          clear c g
          have hsx := HG.out.size
          go_wp2_with (at_builtin; go_loud (refine append_node w5 rfl _ _ 24 rfl w.heap.size 46 i0 Tryd.underlying24 Hi.out hz0 hz1 hz2 (.slice (some ⟨gk, 0, none⟩) xs.length c') xs.length xs rfl Ho.out rfl (q : Int) (1) rfl (by omega) hsx ?_); intro v' w6 hown hgrow)
          have hg6 := Kit.grown_own HG.out (Nat.le_refl _) Ho.out hgrow
          have hc6 := (HC.out.alloc (.cells #[.int .i64 (q : Int), .int .i64 (1)] 46)).kept hgrow (fun j hj => by have := (Ho.out.lt j hj).1; omega)
          go_roundw
          case rel => exact ⟨r - 1, xs ++ [((q : Int), 1)], by go_num, by simp; omega, hown, by simp, Tr.dsnoc Hbd.out (by constructor <;> simp <;> omega), hc6, hg6⟩
          case measure => simp [intOf]; omega
        · have e12 : decide (12 < 1 + (t : Int)) = false := by simpa using h12
          go_wp2_with fail
          refine (l2Label_ex _ B k HC.out).mono ?_
          rintro e w5 ⟨q, rfl, c, g⟩
          have HC := Lib.hid c
          have HG := Lib.hid (Kit.grown_trans HG.out g)
          have Ho := Lib.hid (Kit.keptRow Ho.out hBB g)
          clear c g
          have hsx := HG.out.size
          go_wp2_with (at_builtin; go_loud (refine append_node w5 rfl _ _ 24 rfl w.heap.size 46 i0 Tryd.underlying24 Hi.out hz0 hz1 hz2 (.slice (some ⟨gk, 0, none⟩) xs.length c') xs.length xs rfl Ho.out rfl (q : Int) ((1 + (t : Int))) rfl (by omega) hsx ?_); intro v' w6 hown hgrow)
          have hg6 := Kit.grown_own HG.out (Nat.le_refl _) Ho.out hgrow
          have hc6 := (HC.out.alloc (.cells #[.int .i64 (q : Int), .int .i64 ((1 + (t : Int)))] 46)).kept hgrow (fun j hj => by have := (Ho.out.lt j hj).1; omega)
          go_roundw
          case rel => exact ⟨r - 1, xs ++ [((q : Int), (1 + (t : Int)))], by go_num, by simp; omega, hown, by simp, Tr.dsnoc Hbd.out (by constructor <;> simp <;> omega), hc6, hg6⟩
          case measure => simp [intOf]; omega

end Go.Proofs.YtpdpkcadolcbmaaDoor

/- A draw of any label. -/
namespace Go.Proofs.YtpdpkcadolcbmaaDoor
open Go.RowKit
set_option linter.unusedVariables false

theorem l1PickInt_lit (w : World) (B : Nat) (k : Code) (c : CurX w B k) (C : Array Value) (t : TypeId) (xs : List Int) (n : Nat) (hC : C = (xs.map (Value.int .i64)).toArray) (hn : n = xs.length) (hpos : 0 < (n : Int)) (hn2 : (n : Int) ≤ 1000) :
    Calls Tryd.prog 44 #[.pointer (some ⟨B, 0, none⟩), .slice (some ⟨w.heap.size, 0, none⟩) n n] (w.alloc (.cells C t)) fun e w' => ∃ v : Int, e = .returned (.int .i64 v) ∧ CurX w' B k ∧ w.grownBy w' (some B) := by
  refine (l1PickInt_ex _ B w.heap.size k (c.alloc _) xs n hn hpos hn2 c.lt (by simp) (fun j hj => ?_)).mono fun e w' ⟨v, h1, h2, h3⟩ => ⟨v, h1, h2, Kit.grown_trans (Kit.grown_alloc w _ (some B)) h3⟩
  rw [World.cell?_alloc_at (hn := rfl), hC]
  simp [List.getD_eq_getElem?_getD, hj]
set_option maxHeartbeats 800000 in
theorem l2Any_ex (w : World) (B : Nat) (k : Code) (c : CurX w B k) :
    Calls Tryd.prog 43 #[.pointer (some ⟨B, 0, none⟩)] w fun e w' => ∃ v : Int, e = .returned (.int .i64 v) ∧ CurX w' B k ∧ w.grownBy w' (some B) := by
  have HC := Lib.hid c
  clear c
  go_enter Tryd.func43, Tryd.ntmps43
  go_wp2_with fail
  refine (l1PickInt_lit w B k HC.out _ _ [0, 1, 2, 3, 5, 6, -1] 7 rfl rfl (by decide) (by decide)).mono ?_
  rintro e w4 ⟨x, rfl, c, g⟩
  go_wp2
  go_ret
  exact ⟨x, rfl, c, g⟩

end Go.Proofs.YtpdpkcadolcbmaaDoor

/- Contracts (AnyD). -/
namespace Go.Proofs.YtpdpkcadolcbmaaDoor
open Go.RowKit
set_option linter.unusedVariables false

theorem Tr.cells_set_even (xs : Tr) (k : Nat) (a : Int) : (Tr.cells xs).set (k * 2) (.int .i64 a) = Tr.cells (xs.set k (a, Tr.d xs k)) := by
  induction xs generalizing k with
  | nil => simp [Tr.cells]
  | cons x l ih =>
    cases k with
    | zero => simp [Tr.cells, Tr.d]
    | succ k =>
      have := ih k
      simp only [Tr.cells, Tr.d] at this ⊢
      simpa [show (k + 1) * 2 = k * 2 + 1 + 1 by omega] using this
theorem Tr.cells_set_odd' (xs : Tr) (k : Nat) (b : Int) : (Tr.cells xs).set (k * 2 + 1) (.int .i64 b) = Tr.cells (xs.set k (Tr.l xs k, b)) := by
  induction xs generalizing k with
  | nil => simp [Tr.cells]
  | cons x l ih =>
    cases k with
    | zero => simp [Tr.cells, Tr.l]
    | succ k =>
      have := ih k
      simp only [Tr.cells, Tr.l] at this ⊢
      simpa [show (k + 1) * 2 = k * 2 + 1 + 1 by omega] using this
theorem NdIn.tail {w : World} {B n g : Nat} {xs : Tr} (h : NdIn w B (some ⟨g, 0, none⟩) n xs) : NdIn w B (some ⟨g, 2, none⟩) (n - 1) (xs.drop 1) := by
  refine ⟨by have := h.1; simp; omega, fun hm => ⟨_, rfl, ?_⟩, fun ad' e k hk => ?_⟩
  · obtain ⟨ad', e, hb⟩ := h.2.1 (by omega)
    obtain rfl : (⟨g, 0, none⟩ : Addr) = ad' := by injection e
    exact hb
  · obtain rfl : (⟨g, 2, none⟩ : Addr) = ad' := by injection e
    have hc := h.2.2 _ rfl (k + 1) (by omega)
    have hg : (xs.drop 1).getD k (0, 0) = xs.getD (k + 1) (0, 0) := by
      simp [List.getD_eq_getElem?_getD]
    have e1 : (⟨g, 2, none⟩ : Addr) = (⟨g, 0, none⟩ : Addr).add 2 := by simp [Addr.add]
    rw [e1, add_of_add, add_of_add, show 2 + k * 2 = (k + 1) * 2 by omega, show 2 + (k * 2 + 1) = (k + 1) * 2 + 1 by omega]
    simp only [Tr.l, Tr.d] at hc ⊢
    rw [hg]
    exact hc
/-- a slice of nodes, readable, in a block of the call's own (from B0 on) -/
def NdAt (w : World) (B0 : Nat) (A : Option Addr) (n : Nat) (xs : Tr) : Prop := NdIn w w.heap.size A n xs ∧ ∀ ad, A = some ad → B0 ≤ ad.block
theorem NdAt.of_own {w : World} {base n : Nat} {e : TypeId} {A : Option Addr} {c : Nat} {xs : Tr} (h : w.ownsRow base e 2 (.slice A n c) n (Tr.cells xs)) : NdAt w base A n xs := by
  refine ⟨NdIn.of_own h, fun ad he => ?_⟩
  rcases h.2 with ⟨h1, h2⟩ | ⟨g, cap, cur, hv, hb, _⟩
  · injection h1 with h1
    rw [h1] at he
    cases he
  · injection hv with hv
    rw [hv] at he
    injection he with he
    rw [← he]
    exact hb
def vlen : Value → Nat
  | .slice _ n _ => n
  | _ => 0
def AnyD (w : World) (B : Nat) (k : Code) (e : Ending) (w' : World) : Prop :=
  ∃ (xs : Tr) (A : Option Addr) (n cp : Nat), e = .returned (.slice A n cp) ∧ NdAt w' w.heap.size A n xs ∧ n ≤ cp ∧ n ≤ 31 ∧ CurX w' B k ∧ w.grownBy w' (some B)
set_option maxHeartbeats 3200000 in
set_option maxRecDepth 100000 in
theorem l3Any_ex (w : World) (B : Nat) (k : Code) (most : Int) (hm : most ≤ 30) (c : CurX w B k) :
    Calls Tryd.prog 21 #[.pointer (some ⟨B, 0, none⟩), .int .i64 most] w (AnyD w B k) := by
  have HC := Lib.hid c
  have hBB := c.lt
  have HG := Lib.hid (Kit.grown_refl w (some B))
  clear c
  obtain ⟨i0, hi, hz0, hz1, hz2⟩ := info_parts info_ndD
  have Hi := Lib.hid hi
  clear hi
  go_enter Tryd.func21, Tryd.ntmps21
  go_wp2_with fail
  refine (l3Tree_ex w B k most hm HC.out).mono ?_
  rintro e w1 ⟨xs, A, cp, rfl, ho, ⟨hl1, hl2⟩, hbd, c, g⟩
  have HC := Lib.hid c
  have HG := Lib.hid (Kit.grown_trans HG.out g)
  have Ho := Lib.hid ho
  have Hbd := Lib.hid hbd
  obtain ⟨gk, rfl, hgk, _⟩ := own_form ho (by omega)
  clear ho c g hbd
  go_wp2_with fail
  refine (l1Below_ex _ B k (xs.length : Int) HC.out).mono ?_
  rintro e w2 ⟨q, rfl, hq, c, g⟩
  have HC := Lib.hid c
  have HG := Lib.hid (Kit.grown_trans HG.out g)
  have Ho := Lib.hid (Kit.keptRow Ho.out hBB g)
  clear c g
  have hq' : q < xs.length := by omega
  go_wp2_with fail
  refine (l1Below_ex _ B k 18 HC.out).mono ?_
  rintro e w3 ⟨v, rfl, hv, c, g⟩
  have HC := Lib.hid c
  have HG := Lib.hid (Kit.grown_trans HG.out g)
  have Ho := Lib.hid (Kit.keptRow Ho.out hBB g)
  clear c g
  have q0 : (0 : Int) ≤ (q : Int) := by omega
  have q1 : (q : Int) < (xs.length : Int) := by omega
  by_cases h0 : v = 0
  · have e0 : ((v : Int) == 0) = true := by simp [h0]
    go_wp2_with fail
    refine (l2Any_ex _ B k HC.out).mono ?_
    rintro e w4 ⟨x, rfl, c, g⟩
    have HC := Lib.hid c
    have HG := Lib.hid (Kit.grown_trans HG.out g)
    have Ho := Lib.hid (Kit.keptRow Ho.out hBB g)
    clear c g
    have c0 := own_even Ho.out (k := q) hq'
    have f0 := Ho.out.frozenAt (q * 2)
    go_wp2
    go_ret
    have ho := (Ho.out.stored (q * 2) (.int .i64 x)).1
    rw [Tr.cells_set_even] at ho
    exact ⟨_, _, _, _, rfl, NdAt.of_own ho, own_cap Ho.out, by omega, HC.out.kept (Ho.out.stored (q * 2) (.int .i64 x)).2 (fun j hj => by have := (Ho.out.lt j hj).1; omega), HG.out.andThen (Ho.out.stored (q * 2) (.int .i64 x)).2 (fun j hj => .inl (by have := (Ho.out.lt j hj).1; omega))⟩
  · have e0 : ((v : Int) == 0) = false := beq_eq_false_iff_ne.2 (by omega)
    by_cases h1 : v = 1
    · have e1 : ((v : Int) == 1) = true := by simp [h1]
      have c0 := own_odd Ho.out (k := q) hq'
      have hdb := Hbd.out q hq'
      obtain ⟨d, hd⟩ : ∃ d, d = Tr.d xs q := ⟨_, rfl⟩
      rw [← hd] at c0 hdb
      clear hd
      have a5 : IntKind.i64.wrap (d + 1) = d + 1 := Kit.w64 (by omega) (by omega)
      go_wp2_with fail
      refine (l1PickInt_lit w3 B k HC.out _ _ [-1, 0, 1, 13, d + 1] 5 rfl rfl (by decide) (by decide)).mono ?_
      rintro e w4 ⟨x, rfl, c, g⟩
      have HC := Lib.hid c
      have HG := Lib.hid (Kit.grown_trans HG.out g)
      have Ho := Lib.hid (Kit.keptRow Ho.out hBB g)
      clear c g c0
      have c0 := own_odd Ho.out (k := q) hq'
      have f0 := Ho.out.frozenAt (q * 2 + 1)
      go_wp2
      go_ret
      have ho := (Ho.out.stored (q * 2 + 1) (.int .i64 x)).1
      rw [Tr.cells_set_odd'] at ho
      exact ⟨_, _, _, _, rfl, NdAt.of_own ho, own_cap Ho.out, by omega, HC.out.kept (Ho.out.stored (q * 2 + 1) (.int .i64 x)).2 (fun j hj => by have := (Ho.out.lt j hj).1; omega), HG.out.andThen (Ho.out.stored (q * 2 + 1) (.int .i64 x)).2 (fun j hj => .inl (by have := (Ho.out.lt j hj).1; omega))⟩
    · have e1 : ((v : Int) == 1) = false := beq_eq_false_iff_ne.2 (by omega)
      by_cases h2 : v = 2
      · have e2 : ((v : Int) == 2) = true := by simp [h2]
        have hcap := own_cap Ho.out
        have b1 : (1 : Int) ≤ (xs.length : Int) := by omega
        have b2 : (xs.length : Int) ≤ (cp : Int) := by omega
        by_cases hcp : cp = 1
        · subst hcp
          go_wp2
          go_ret
          exact ⟨[], _, _, _, rfl, ⟨⟨by first | rfl | (simp; omega), fun h => absurd h (by omega), fun ad e k hk => absurd hk (by omega)⟩, fun ad e => by injection e with e; rw [← e]; exact hgk⟩, by omega, by omega, HC.out, HG.out⟩
        · go_wp2
          go_ret
          exact ⟨_, _, _, _, rfl, ⟨NdIn.tail (NdIn.of_own Ho.out), fun ad e => by injection e with e; rw [← e]; exact hgk⟩, by omega, by omega, HC.out, HG.out⟩
      · have e2 : ((v : Int) == 2) = false := beq_eq_false_iff_ne.2 (by omega)
        by_cases h3 : v = 3
        · have e3 : ((v : Int) == 3) = true := by simp [h3]
          go_wp2
          go_loopw [5] (fun lv wr => ∃ ys : Tr, wr.ownsRow w.heap.size 46 2 lv ys.length (Tr.cells ys) ∧ ys.length ≤ 31 ∧ CurX wr B k ∧ w.grownBy wr (some B)) (fun lv _ => 40 - vlen lv)
          case atStart => exact ⟨xs, Ho.out, by first | omega | decide, HC.out, HG.out⟩
          case round =>
            clear Ho HC HG
            obtain ⟨ys, hown, hyl, hc, hg⟩ := hrel
            have Ho := Lib.hid hown
            have HC := Lib.hid hc
            have HG := Lib.hid hg
            clear hown hc hg
            obtain ⟨A2, c2, rfl⟩ := own_slice Ho.out
            go_wp2_with fail
            refine (l1Below_ex _ B k 2 HC.out).mono ?_
            rintro e w4 ⟨t, rfl, ht, c, g⟩
            have HC := Lib.hid c
            have HG := Lib.hid (Kit.grown_trans HG.out g)
            have Ho := Lib.hid (Kit.keptRow Ho.out hBB g)
            clear c g
            have a6 : IntKind.i64.wrap (24 + (t : Int)) = 24 + (t : Int) := Kit.w64 (by omega) (by omega)
            by_cases hlt : (ys.length : Int) < 24 + (t : Int)
            · have elt : decide ((ys.length : Int) < 24 + (t : Int)) = true := by simpa using hlt
              have hsx := HG.out.size
              go_wp2_with (at_builtin; go_loud (refine append_node w4 rfl _ _ 24 rfl w.heap.size 46 i0 Tryd.underlying24 Hi.out hz0 hz1 hz2 (.slice A2 ys.length c2) ys.length ys rfl Ho.out rfl 1 (1) rfl (by omega) hsx ?_); intro v' w6 hown hgrow)
              have hg6 := Kit.grown_own HG.out (Nat.le_refl _) Ho.out hgrow
              have hc6 := (HC.out.alloc (.cells #[.int .i64 1, .int .i64 (1)] 46)).kept hgrow (fun j hj => by have := (Ho.out.lt j hj).1; omega)
              obtain ⟨A6, c6, rfl⟩ := own_slice hown
              go_roundw
              case rel => exact ⟨ys ++ [(1, 1)], hown, by simp; omega, hc6, hg6⟩
              case measure => simp [vlen]; omega
            · have elt : decide ((ys.length : Int) < 24 + (t : Int)) = false := by simpa using hlt
              go_wp2
              go_ret
              exact ⟨_, _, _, _, rfl, NdAt.of_own Ho.out, own_cap Ho.out, by omega, HC.out, HG.out⟩
        · have e3 : ((v : Int) == 3) = false := beq_eq_false_iff_ne.2 (by omega)
          by_cases h4 : v = 4
          · have e4 : ((v : Int) == 4) = true := by simp [h4]
            have hsx := HG.out.size
            have Ho := Lib.hid (World.ownsRow_lit (base := w.heap.size) (e := 46) (size := 2) w3 #[.int .i64 0, .int .i64 0] 1 hsx (by decide) rfl)
            have HC := Lib.hid (HC.out.alloc (.cells #[.int .i64 0, .int .i64 0] 46))
            have HG := Lib.hid (Kit.grown_trans HG.out (Kit.grown_alloc w3 (.cells #[.int .i64 0, .int .i64 0] 46) (some B)))
            go_wp2
            go_loopw [5] (fun lv wr => ∃ ys : Tr, wr.ownsRow w.heap.size 46 2 lv ys.length (Tr.cells ys) ∧ ys.length ≤ 31 ∧ CurX wr B k ∧ w.grownBy wr (some B)) (fun lv _ => 40 - vlen lv)
            case atStart => exact ⟨[(0, 0)], Ho.out, by first | omega | decide, HC.out, HG.out⟩
            case round =>
              clear Ho HC HG
              obtain ⟨ys, hown, hyl, hc, hg⟩ := hrel
              have Ho := Lib.hid hown
              have HC := Lib.hid hc
              have HG := Lib.hid hg
              clear hown hc hg
              obtain ⟨A2, c2, rfl⟩ := own_slice Ho.out
              go_wp2_with fail
              refine (l1Below_ex _ B k 2 HC.out).mono ?_
              rintro e w4 ⟨t, rfl, ht, c, g⟩
              have HC := Lib.hid c
              have HG := Lib.hid (Kit.grown_trans HG.out g)
              have Ho := Lib.hid (Kit.keptRow Ho.out hBB g)
              clear c g
              have a6 : IntKind.i64.wrap (13 + (t : Int)) = 13 + (t : Int) := Kit.w64 (by omega) (by omega)
              by_cases hlt : (ys.length : Int) < 13 + (t : Int)
              · have elt : decide ((ys.length : Int) < 13 + (t : Int)) = true := by simpa using hlt
                have hsx := HG.out.size
                go_wp2_with (at_builtin; go_loud (refine append_node w4 rfl _ _ 24 rfl w.heap.size 46 i0 Tryd.underlying24 Hi.out hz0 hz1 hz2 (.slice A2 ys.length c2) ys.length ys rfl Ho.out rfl 0 ((ys.length : Int)) rfl (by omega) hsx ?_); intro v' w6 hown hgrow)
                have hg6 := Kit.grown_own HG.out (Nat.le_refl _) Ho.out hgrow
                have hc6 := (HC.out.alloc (.cells #[.int .i64 0, .int .i64 ((ys.length : Int))] 46)).kept hgrow (fun j hj => by have := (Ho.out.lt j hj).1; omega)
                obtain ⟨A6, c6, rfl⟩ := own_slice hown
                go_roundw
                case rel => exact ⟨ys ++ [(0, (ys.length : Int))], hown, by simp; omega, hc6, hg6⟩
                case measure => simp [vlen]; omega
              · have elt : decide ((ys.length : Int) < 13 + (t : Int)) = false := by simpa using hlt
                go_wp2
                go_ret
                exact ⟨_, _, _, _, rfl, NdAt.of_own Ho.out, own_cap Ho.out, by omega, HC.out, HG.out⟩
          · have e4 : ((v : Int) == 4) = false := beq_eq_false_iff_ne.2 (by omega)
            go_wp2
            go_ret
            exact ⟨_, _, _, _, rfl, NdAt.of_own Ho.out, own_cap Ho.out, by omega, HC.out, HG.out⟩

end Go.Proofs.YtpdpkcadolcbmaaDoor

/- Plain mathematics of chapter 1 (bytes of a number), without the program. -/
namespace Go.Proofs.YtpdpkcadolcbmaaDoor.Num

/-- n divided k times by 256 -/
def dn (n : Nat) : Nat → Nat
  | 0 => n
  | k + 1 => dn n k / 256

/-- the k low bytes of n, the most significant first -/
def fix (n : Nat) : Nat → List UInt8
  | 0 => []
  | k + 1 => UInt8.ofNat (dn n k % 256) :: fix n k

theorem fix_length (n k : Nat) : (fix n k).length = k := by
  induction k with
  | zero => rfl
  | succ k ih => simp [fix, ih]

theorem dn_pow (n k : Nat) : dn n k = n / 2 ^ (8 * k) := by
  induction k with
  | zero => simp [dn]
  | succ k ih =>
    rw [dn, ih, Nat.div_div_eq_div_mul]
    congr 1
    rw [Nat.mul_add, Nat.pow_add]

theorem dn_le (n k : Nat) : dn n k ≤ n := by
  rw [dn_pow]; exact Nat.div_le_self _ _

/-- what Fixed gives -/
def fixR (n wd : Int) : List UInt8 :=
  if 1 ≤ wd ∧ wd ≤ 7 ∧ 0 ≤ n ∧ dn n.toNat wd.toNat = 0 then fix n.toNat wd.toNat else []

theorem fixR_no {n wd : Int} (h : n < 0 ∨ wd < 1 ∨ 7 < wd) : fixR n wd = [] := by
  unfold fixR; rw [if_neg (by omega)]
theorem fixR_big {m : Nat} {wd : Int} (h : dn m wd.toNat ≠ 0) : fixR m wd = [] := by
  unfold fixR; rw [if_neg (by simp; omega)]
theorem fixR_yes {m : Nat} {wd : Int} (h1 : 1 ≤ wd) (h7 : wd ≤ 7) (h : dn m wd.toNat = 0) : fixR m wd = fix m wd.toNat := by
  unfold fixR; rw [if_pos (by simp; omega)]; simp

/-- the row of bytes when k of its d places are filled from the right -/
def fixCells (m d k : Nat) : List Value := List.replicate (d - k) (.int .u8 0) ++ (fix m k).map fun b => .int .u8 b.toNat

theorem made_cells (m d : Nat) : (madeCells (Value.int .u8 0).cells (d * 1)).toList = fixCells m d 0 := by
  rw [show (Value.int .u8 0).cells = #[.int .u8 0] from rfl, toList_madeCells_one]
  simp [fixCells, fix]

theorem fixCells_at (m : Nat) {d k : Nat} (h : k < d) : (fixCells m d k)[d - 1 - k]? = some (.int .u8 0) := by
  unfold fixCells
  rw [List.getElem?_append_left (by simp; omega), List.getElem?_replicate, if_pos (by omega)]

theorem fixCells_set (m : Nat) {d k : Nat} (h : k < d) : (fixCells m d k).set (d - 1 - k) (.int .u8 ((dn m k : Int) % 256)) = fixCells m d (k + 1) := by
  unfold fixCells
  rw [List.set_append_left _ _ (by simp; omega)]
  have e : d - k = (d - (k + 1)) + 1 := by omega
  have e2 : d - 1 - k = d - (k + 1) := by omega
  rw [e, e2, List.replicate_succ']
  rw [List.set_append_right _ _ (by simp)]
  simp [fix]

theorem fixCells_full {w : World} {B e m d : Nat} (h : w.ownsRow B e 1 (.slice (some ⟨B, 0, none⟩) d d) d (fixCells m d d)) :
    ∀ j (hj : j < (fix m d).length), w.cell? ((⟨B, 0, none⟩ : Addr).add j) = some (.int .u8 ((fix m d)[j].toNat : Int)) := by
  intro j hj
  have hj' := hj
  rw [fix_length] at hj'
  have := h.cellAt j (by omega)
  rw [show ((⟨B, 0, none⟩ : Addr).add j) = ⟨B, j, none⟩ from by unfold Addr.add; split <;> simp_all]
  rw [this]
  simp [fixCells, hj]

end Go.Proofs.YtpdpkcadolcbmaaDoor.Num

/- Plain mathematics of chapter 1. -/
namespace Go.Proofs.YtpdpkcadolcbmaaDoor
open Go.RowKit
set_option linter.unusedVariables false

/-- bytes as a number, the most significant first -/
def Num.rd (l : List UInt8) : Nat := l.foldl (fun n b => n * 256 + b.toNat) 0

theorem Num.rd_snoc (l : List UInt8) (b : UInt8) : Num.rd (l ++ [b]) = Num.rd l * 256 + b.toNat := by
  simp [Num.rd]

theorem Num.rd_lt (l : List UInt8) : Num.rd l < 2 ^ (8 * l.length) := by
  refine Kit.snoc_rec (P := fun l => Num.rd l < 2 ^ (8 * l.length)) (by simp [Num.rd]) (fun l b ih => ?_) l
  rw [Num.rd_snoc]
  have hb : b.toNat < 256 := b.toNat_lt
  simp only [List.length_append, List.length_singleton, Nat.mul_add, Nat.pow_add]
  omega

theorem Num.rd_small (l : List UInt8) (h : l.length ≤ 6) : Num.rd l ≤ 281474976710655 := by
  have h1 := Num.rd_lt l
  have h2 : 2 ^ (8 * l.length) ≤ 2 ^ 48 := Nat.pow_le_pow_right (by omega) (by omega)
  omega

/-- the answer of ReadFixed -/
def Num.readB (s : ByteArray) (wd : Int) : Bool := decide (1 ≤ wd ∧ wd ≤ 7 ∧ wd ≤ s.size)

def Num.readN (s : ByteArray) (wd : Int) : Nat := if Num.readB s wd then Num.rd (s.data.toList.take wd.toNat) else 0

/-- the varint of a number below 128^(f+1) -/
def Num.varF : Nat → Nat → List UInt8
  | 0, q => [UInt8.ofNat q]
  | f + 1, q => if q < 128 then [UInt8.ofNat q] else UInt8.ofNat (128 + q % 128) :: Num.varF f (q / 128)

/-- what Var gives -/
def Num.varR (n : Int) : List UInt8 := if 0 ≤ n ∧ n ≤ 562949953421311 then Num.varF 6 n.toNat else []

theorem Num.varF_small (f q : Nat) (h : q < 128) : Num.varF f q = [UInt8.ofNat q] := by
  cases f <;> simp [Num.varF, h]

theorem Num.varF_big (f q : Nat) (h : 128 ≤ q) : Num.varF (f + 1) q = UInt8.ofNat (128 + q % 128) :: Num.varF f (q / 128) := by
  rw [Num.varF, if_neg (by omega)]

/-- what holds at each round's head: f bytes at most come behind those that are gathered -/
def Num.VarAt (m f q : Nat) (acc : List UInt8) : Prop := acc.length + f = 6 ∧ q < 128 ^ (f + 1) ∧ acc ++ Num.varF f q = Num.varF 6 m

theorem Num.VarAt.start {m : Nat} (h : m ≤ 562949953421311) : Num.VarAt m 6 m [] := ⟨rfl, by omega, by simp⟩

theorem Num.VarAt.len {m f q : Nat} {acc : List UInt8} (h : Num.VarAt m f q acc) : acc.length ≤ 6 := by have := h.1; omega

theorem Num.VarAt.step {m f q : Nat} {acc : List UInt8} (h : Num.VarAt m f q acc) (hq : 128 ≤ q) :
    ∃ f', f = f' + 1 ∧ Num.VarAt m f' (q / 128) (acc ++ [UInt8.ofNat (128 + q % 128)]) := by
  obtain ⟨h1, h2, h3⟩ := h
  cases f with
  | zero => omega
  | succ f =>
    refine ⟨f, rfl, by simp; omega, ?_, ?_⟩
    · rw [Nat.pow_succ] at h2
      exact Nat.div_lt_of_lt_mul (by omega)
    · rw [Num.varF_big f q hq] at h3
      simpa using h3

theorem Num.VarAt.stop {m f q : Nat} {acc : List UInt8} (h : Num.VarAt m f q acc) (hq : q < 128) : acc ++ [UInt8.ofNat q] = Num.varF 6 m := by
  have := h.2.2
  rwa [Num.varF_small f q hq] at this

theorem Num.VarAt.le {m f q : Nat} {acc : List UInt8} (h : Num.VarAt m f q acc) : q ≤ 562949953421311 := by
  obtain ⟨h1, h2, _⟩ := h
  have : 128 ^ (f + 1) ≤ 128 ^ 7 := Nat.pow_le_pow_right (by omega) (by omega)
  omega

/-- the digit of a number below 16 -/
def Num.hexd (k : Nat) : UInt8 := if k < 10 then UInt8.ofNat (48 + k) else UInt8.ofNat (87 + k)

/-- what Hex gives -/
def Num.hexL : List UInt8 → List UInt8
  | [] => []
  | b :: l => Num.hexd (b.toNat / 16) :: Num.hexd (b.toNat % 16) :: Num.hexL l

theorem Num.hexL_snoc (l : List UInt8) (b : UInt8) : Num.hexL (l ++ [b]) = Num.hexL l ++ [Num.hexd (b.toNat / 16), Num.hexd (b.toNat % 16)] := by
  induction l with
  | nil => rfl
  | cons a l ih => simp [Num.hexL, ih]

theorem Num.hexL_length (l : List UInt8) : (Num.hexL l).length = 2 * l.length := by
  induction l with
  | nil => rfl
  | cons a l ih => simp [Num.hexL, ih]; omega

theorem Num.hexIdx : ∀ n : Fin 16, (ByteArray.mk #[48, 49, 50, 51, 52, 53, 54, 55, 56, 57, 97, 98, 99, 100, 101, 102])[n.1]'n.2 = Num.hexd n.1 := by decide

theorem Num.hexAt (n : Nat) (h : n < (ByteArray.mk #[48, 49, 50, 51, 52, 53, 54, 55, 56, 57, 97, 98, 99, 100, 101, 102]).size) : (ByteArray.mk #[48, 49, 50, 51, 52, 53, 54, 55, 56, 57, 97, 98, 99, 100, 101, 102])[n]'h = Num.hexd n :=
  Num.hexIdx ⟨n, h⟩

/-- the value of a digit, or -1 -/
def Num.fromHex (b : UInt8) : Int := if 48 ≤ b.toNat ∧ b.toNat ≤ 57 then b.toNat - 48 else if 97 ≤ b.toNat ∧ b.toNat ≤ 102 then b.toNat - 87 else -1

theorem Num.fromHex_hit {k : Nat} {b : UInt8} (hk : k < 16) (h : Num.hexd k = b) : Num.fromHex b = k := by
  have : ∀ k : Fin 16, Num.fromHex (Num.hexd k.1) = (k.1 : Int) := by decide
  subst h
  exact this ⟨k, hk⟩

theorem Num.fromHex_miss {b : UInt8} (h : ∀ j, j < 16 → Num.hexd j ≠ b) : Num.fromHex b = -1 := by
  have ofn : ∀ n, n = b.toNat → UInt8.ofNat n = b := by intro n hn; subst hn; exact UInt8.ofNat_toNat
  unfold Num.fromHex
  by_cases h1 : 48 ≤ b.toNat ∧ b.toNat ≤ 57
  · exact absurd (by unfold Num.hexd; rw [if_pos (by omega)]; exact ofn _ (by omega)) (h (b.toNat - 48) (by omega))
  · by_cases h2 : 97 ≤ b.toNat ∧ b.toNat ≤ 102
    · exact absurd (by unfold Num.hexd; rw [if_neg (by omega)]; exact ofn _ (by omega)) (h (b.toNat - 87) (by omega))
    · rw [if_neg h1, if_neg h2]

theorem Num.fromHex_bd (b : UInt8) : -1 ≤ Num.fromHex b ∧ Num.fromHex b < 16 := by
  unfold Num.fromHex; split
  · omega
  · split <;> omega

/-- what Unhex gives -/
def Num.unhex : List UInt8 → Option (List UInt8)
  | [] => some []
  | [_] => none
  | a :: b :: l => if Num.fromHex a < 0 ∨ Num.fromHex b < 0 then none else (Num.unhex l).map (UInt8.ofNat (16 * Num.fromHex a + Num.fromHex b).toNat :: ·)

theorem Num.unhex_append : ∀ (n : Nat) (l m : List UInt8), l.length = 2 * n → Num.unhex (l ++ m) = (Num.unhex l).bind fun x => (Num.unhex m).map (x ++ ·)
  | 0, l, m, h => by
    obtain rfl := List.eq_nil_of_length_eq_zero (by simpa using h)
    simp [Num.unhex]
  | n + 1, l, m, h => by
    match l, h with
    | a :: b :: l, h =>
      simp only [List.cons_append, Num.unhex]
      split
      · rfl
      · rw [Num.unhex_append n l m (by simp at h; omega)]
        cases Num.unhex l <;> simp [Function.comp_def]

theorem Num.unhex_odd : ∀ (n : Nat) (l : List UInt8), l.length = 2 * n + 1 → Num.unhex l = none
  | 0, l, h => by
    match l, h with
    | [_], _ => rfl
  | n + 1, l, h => by
    match l, h with
    | a :: b :: l, h =>
      simp only [Num.unhex]
      split
      · rfl
      · rw [Num.unhex_odd n l (by simp at h; omega)]; rfl

theorem Num.take_two (s : ByteArray) (k : Nat) (h : 2 * k + 1 < s.size) : s.data.toList.take (2 * (k + 1)) = s.data.toList.take (2 * k) ++ [s[2 * k], s[2 * k + 1]] := by
  rw [show 2 * (k + 1) = 2 * k + 1 + 1 by omega, Kit.take_snoc s _ h, Kit.take_snoc s _ (by omega)]
  simp

theorem Num.drop_two (s : ByteArray) (k : Nat) (h : 2 * k + 1 < s.size) : s.data.toList = s.data.toList.take (2 * k) ++ s[2 * k] :: s[2 * k + 1] :: s.data.toList.drop (2 * (k + 1)) := by
  have := Num.take_two s k h
  have e := List.take_append_drop (2 * (k + 1)) s.data.toList
  rw [this] at e
  simpa using e.symm

theorem Num.unhex_step {s : ByteArray} {k : Nat} {acc : List UInt8} (h : 2 * k + 1 < s.size) (ha : Num.unhex (s.data.toList.take (2 * k)) = some acc) (h1 : 0 ≤ Num.fromHex s[2 * k]) (h2 : 0 ≤ Num.fromHex s[2 * k + 1]) :
    Num.unhex (s.data.toList.take (2 * (k + 1))) = some (acc ++ [UInt8.ofNat (16 * Num.fromHex s[2 * k] + Num.fromHex s[2 * k + 1]).toNat]) := by
  rw [Num.take_two s k h, Num.unhex_append k _ _ (by simp; omega), ha]
  simp only [Num.unhex]
  rw [if_neg (by omega)]
  rfl

theorem Num.unhex_bad {s : ByteArray} {k : Nat} {acc : List UInt8} (h : 2 * k + 1 < s.size) (ha : Num.unhex (s.data.toList.take (2 * k)) = some acc) (h1 : Num.fromHex s[2 * k] < 0 ∨ Num.fromHex s[2 * k + 1] < 0) :
    Num.unhex s.data.toList = none := by
  rw [Num.drop_two s k h, Num.unhex_append k _ _ (by simp; omega), ha]
  simp only [Num.unhex]
  rw [if_pos h1]
  rfl

theorem Num.idxHex : ∀ n : Fin 256, Lib.indexByte [48, 49, 50, 51, 52, 53, 54, 55, 56, 57, 97, 98, 99, 100, 101, 102] (UInt8.ofNat n.1) = Num.fromHex (UInt8.ofNat n.1) := by decide +kernel

theorem Kit.or16 (x y : Nat) (hx : x < 16) (hy : y < 16) : bits .or .i64 ((x : Int) * 16) (y : Int) = 16 * (x : Int) + y := by
  have h := Kit.i64_or (x * 16) y (by omega) (by omega)
  rw [nat_join 4 (x * 16) y (by omega) (by omega)] at h
  rw [Int.mul_comm 16]
  simpa using h

theorem Kit.or16i {x y : Int} (h0 : 0 ≤ x) (h1 : x < 16) (h2 : 0 ≤ y) (h3 : y < 16) : bits .or .i64 (x * 16) y = 16 * x + y := by
  obtain ⟨a, rfl⟩ := Int.eq_ofNat_of_zero_le h0
  obtain ⟨b, rfl⟩ := Int.eq_ofNat_of_zero_le h2
  exact Kit.or16 a b (by omega) (by omega)

def Num.unhexS (s : ByteArray) : List UInt8 := (Num.unhex s.data.toList).getD []

def Num.unhexB (s : ByteArray) : Bool := (Num.unhex s.data.toList).isSome

/-- the number of seven bits a byte, the least significant first -/
def Num.val7 : List UInt8 → Nat
  | [] => 0
  | b :: l => b.toNat % 128 + 128 * Num.val7 l

theorem Num.val7_lt (l : List UInt8) : Num.val7 l < 128 ^ l.length := by
  induction l with
  | nil => simp [Num.val7]
  | cons b l ih =>
    simp only [Num.val7, List.length_cons, Nat.pow_succ]
    have : b.toNat % 128 < 128 := Nat.mod_lt _ (by decide)
    omega

theorem Num.val7_small (l : List UInt8) (h : l.length ≤ 7) : Num.val7 l ≤ 562949953421311 := by
  have h1 := Num.val7_lt l
  have h2 : 128 ^ l.length ≤ 128 ^ 7 := Nat.pow_le_pow_right (by omega) h
  omega

theorem Num.val7_small6 (l : List UInt8) (h : l.length ≤ 6) : Num.val7 l ≤ 4398046511103 := by
  have h1 := Num.val7_lt l
  have h2 : 128 ^ l.length ≤ 128 ^ 6 := Nat.pow_le_pow_right (by omega) h
  omega

/-- the length up to the first byte below 128, among the first seven -/
def Num.vsz : Nat → List UInt8 → Nat → Nat
  | 0, _, _ => 0
  | _ + 1, [], _ => 0
  | f + 1, b :: l, i => if b.toNat < 128 then i + 1 else Num.vsz f l (i + 1)

def Num.vsize (l : List UInt8) : Nat := Num.vsz 7 l 0

theorem Num.vsz_le (f : Nat) : ∀ (l : List UInt8) (i : Nat), Num.vsz f l i = 0 ∨ (i < Num.vsz f l i ∧ Num.vsz f l i ≤ i + f ∧ Num.vsz f l i ≤ i + l.length) := by
  induction f with
  | zero => intro l i; left; rfl
  | succ f ih =>
    intro l i
    cases l with
    | nil => left; rfl
    | cons b l =>
      simp only [Num.vsz, List.length_cons]
      split
      · right; omega
      · rcases ih l (i + 1) with h | h
        · left; exact h
        · right; omega

theorem Num.vsize_le (l : List UInt8) : Num.vsize l ≤ 7 ∧ Num.vsize l ≤ l.length := by
  have := Num.vsz_le 7 l 0
  unfold Num.vsize; omega

theorem Num.vsz_var : ∀ (f q : Nat) (rest : List UInt8) (i : Nat), q < 128 ^ (f + 1) → Num.vsz (f + 1) (Num.varF f q ++ rest) i = i + (Num.varF f q).length
  | 0, q, rest, i, h => by
    have hq : q < 128 := by simpa using h
    simp [Num.varF, Num.vsz, UInt8.toNat_ofNat', Nat.mod_eq_of_lt (show q < 256 by omega), hq]
  | f + 1, q, rest, i, h => by
    by_cases hq : q < 128
    · rw [Num.varF_small _ _ hq]
      simp [Num.vsz, UInt8.toNat_ofNat', Nat.mod_eq_of_lt (show q < 256 by omega), hq]
    · rw [Num.varF_big _ _ (by omega)]
      have hb : (UInt8.ofNat (128 + q % 128)).toNat = 128 + q % 128 := by rw [UInt8.toNat_ofNat']; omega
      simp only [List.cons_append, Num.vsz, hb, List.length_cons]
      rw [if_neg (by omega), Num.vsz_var f (q / 128) rest (i + 1) (by rw [Nat.pow_succ] at h; exact Nat.div_lt_of_lt_mul (by omega))]
      omega

/-- is the beginning of k bytes the varint of what it says? -/
def Num.good (l : List UInt8) (k : Nat) : Prop := Num.varF 6 (Num.val7 (l.take k)) = l.take k

theorem Num.good_size {l : List UInt8} {k : Nat} (h7 : k ≤ 7) (hk : k ≤ l.length) (h : Num.good l k) : Num.vsize l = k := by
  have h1 : l = Num.varF 6 (Num.val7 (l.take k)) ++ l.drop k := by
    rw [h]; exact (List.take_append_drop k l).symm
  have h2 := Num.vsz_var 6 (Num.val7 (l.take k)) (l.drop k) 0 (by
    have := Num.val7_small (l.take k) (by simp; omega)
    omega)
  rw [← h1, h] at h2
  unfold Num.vsize
  rw [h2]; simp; omega

instance (l : List UInt8) (k : Nat) : Decidable (Num.good l k) := by unfold Num.good; infer_instance

/-- what ReadVar gives -/
def Num.rvK (s : ByteArray) : Nat := if Num.good s.data.toList (Num.vsize s.data.toList) then Num.vsize s.data.toList else 0

def Num.rvN (s : ByteArray) : Nat := Num.val7 (s.data.toList.take (Num.rvK s))

theorem Num.rv_good {s : ByteArray} {k : Nat} (h7 : k ≤ 7) (hk : k ≤ s.size) (h : Num.good s.data.toList k) : Num.rvK s = k ∧ Num.rvN s = Num.val7 (s.data.toList.take k) := by
  have hs := Num.good_size h7 (by simpa using hk) h
  have : Num.rvK s = k := by unfold Num.rvK; rw [hs, if_pos h]
  exact ⟨this, by unfold Num.rvN; rw [this]⟩

theorem Num.not_good_zero (l : List UInt8) : ¬ Num.good l 0 := by
  unfold Num.good
  simp [Num.val7, Num.varF]

theorem Num.rv_none {s : ByteArray} (h : ∀ k, 1 ≤ k → k ≤ 7 → k ≤ s.size → ¬ Num.good s.data.toList k) : Num.rvK s = 0 ∧ Num.rvN s = 0 := by
  have h0 : Num.rvK s = 0 := by
    unfold Num.rvK
    split
    · rename_i hg
      have hle := Num.vsize_le s.data.toList
      rcases Nat.eq_zero_or_pos (Num.vsize s.data.toList) with hz | hz
      · exact hz
      · exact absurd hg (h _ hz hle.1 (by simpa using hle.2))
    · rfl
  exact ⟨h0, by unfold Num.rvN; rw [h0]; rfl⟩

/-- the value of the bytes from i on, among the first k -/
theorem Num.val7_drop (s : ByteArray) (k i : Nat) (hi : i < k) (hk : k ≤ s.size) : Num.val7 ((s.data.toList.take k).drop i) = s[i].toNat % 128 + 128 * Num.val7 ((s.data.toList.take k).drop (i + 1)) := by
  have hl : i < (s.data.toList.take k).length := by simp; omega
  rw [List.drop_eq_getElem_cons hl]
  simp only [Num.val7]
  rw [List.getElem_take]
  rfl

theorem Num.good_test {s : ByteArray} {k : Nat} (h7 : k ≤ 7) : (Num.varR (Num.val7 (s.data.toList.take k) : Nat) == (s.extract 0 k).toList) = decide (Num.good s.data.toList k) := by
  have hs := Num.val7_small (s.data.toList.take k) (by simp; omega)
  have e : (s.extract 0 k).toList = s.data.toList.take k := by rw [Lib.extract_toList]; simp
  unfold Num.varR Num.good
  rw [if_pos (by omega), e, Int.toNat_natCast]
  rw [Bool.eq_iff_iff, beq_iff_eq]; exact decide_eq_true_iff.symm

theorem Num.vsz_skip (s : ByteArray) : ∀ (k f : Nat), k ≤ s.size → (∀ j (h : j < s.size), j < k → 128 ≤ s[j].toNat) → Num.vsz (k + f) s.data.toList 0 = Num.vsz f (s.data.toList.drop k) k := by
  have key : ∀ (k f i : Nat) (l : List UInt8), k ≤ l.length → (∀ j (h : j < l.length), j < k → 128 ≤ l[j].toNat) → Num.vsz (k + f) l i = Num.vsz f (l.drop k) (i + k) := by
    intro k
    induction k with
    | zero => intro f i l _ _; simp
    | succ k ih =>
      intro f i l hk h
      cases l with
      | nil => simp at hk
      | cons b l =>
        have h0 := h 0 (by simp) (by omega)
        simp at h0
        rw [show k + 1 + f = (k + f) + 1 by omega]
        simp only [Num.vsz]
        rw [if_neg (by omega), ih f (i + 1) l (by simpa using hk) (fun j hj hjk => by
          have := h (j + 1) (by simpa using hj) (by omega)
          simpa using this)]
        simp
        congr 1; omega
  intro k f hk h
  have := key k f 0 s.data.toList (by simpa using hk) (fun j hj hjk => h j (by simpa using hj) hjk)
  simpa using this

theorem Num.vsize_hit {s : ByteArray} {k : Nat} (h7 : k < 7) (hk : k < s.size) (h : ∀ j (h : j < s.size), j < k → 128 ≤ s[j].toNat) (hb : s[k].toNat < 128) : Num.vsize s.data.toList = k + 1 := by
  have h1 := Num.vsz_skip s k (7 - k) (by omega) h
  rw [show k + (7 - k) = 7 by omega] at h1
  unfold Num.vsize
  rw [h1, show 7 - k = (6 - k) + 1 by omega, List.drop_eq_getElem_cons (by simpa using hk)]
  simp only [Num.vsz]
  rw [if_pos (by exact hb)]

theorem Num.vsize_miss {s : ByteArray} {k : Nat} (h7 : k ≤ 7) (hk : k ≤ s.size) (hl : k = 7 ∨ k = s.size) (h : ∀ j (h : j < s.size), j < k → 128 ≤ s[j].toNat) : Num.vsize s.data.toList = 0 := by
  have h1 := Num.vsz_skip s k (7 - k) hk h
  rw [show k + (7 - k) = 7 by omega] at h1
  unfold Num.vsize
  rw [h1]
  rcases hl with rfl | rfl
  · rfl
  · rw [List.drop_eq_nil_of_le (by simp)]
    cases 7 - s.size <;> rfl

end Go.Proofs.YtpdpkcadolcbmaaDoor

/- Contracts (Cod). -/
namespace Go.Proofs.YtpdpkcadolcbmaaDoor
open Go.RowKit
set_option linter.unusedVariables false


theorem Num.varF_len' (f q : Nat) : (Num.varF f q).length ≤ f + 1 := by
  induction f generalizing q with
  | zero => by_cases h : q < 128 <;> simp [Num.varF]
  | succ f ih =>
    by_cases h : q < 128
    · rw [Num.varF_small _ _ h]; simp
    · rw [Num.varF_big _ _ (by omega)]
      have := ih (q / 128)
      simp; omega
/-- the bytes of a number -/
def Num.varB (n : Int) : ByteArray := ⟨(Num.varR n).toArray⟩
theorem Num.varB_size (n : Int) : (Num.varB n).size ≤ 7 := by
  unfold Num.varB
  show (Num.varR n).toArray.size ≤ 7
  simp only [List.size_toArray]
  unfold Num.varR
  split
  · have := Num.varF_len' 6 n.toNat
    omega
  · simp
/-- the bytes of a tree's count and of its first k nodes -/
def Tr.putTo (xs : Tr) : Nat → ByteArray
  | 0 => Num.varB xs.length
  | k + 1 => Tr.putTo xs k ++ Num.varB (Tr.l xs k) ++ Num.varB (Tr.d xs k)
def Tr.put (xs : Tr) : ByteArray := if Tr.ok xs then Tr.putTo xs xs.length else ⟨#[]⟩
theorem Tr.putTo_size (xs : Tr) (k : Nat) : (Tr.putTo xs k).size ≤ 7 + 14 * k := by
  induction k with
  | zero => exact Num.varB_size _
  | succ k ih =>
    have h1 := Num.varB_size (Tr.l xs k)
    have h2 := Num.varB_size (Tr.d xs k)
    simp only [Tr.putTo, ByteArray.size_append]
    omega
theorem Tr.putTo_two (xs : Tr) (k : Nat) : Tr.putTo xs (k + 1) = Tr.putTo xs k ++ (Num.varB (Tr.l xs k) ++ Num.varB (Tr.d xs k)) := by
  simp only [Tr.putTo, ByteArray.append_assoc]

/-- may a node of depth d come behind the first n nodes -/
def Tr.fits (xs : Tr) (n : Nat) (d : Int) : Bool := if n = 0 then decide (d = 0) else decide (1 ≤ d ∧ d ≤ Tr.d xs (n - 1) + 1)
theorem Tr.okAt_fits {xs : Tr} {k : Nat} (h1 : 0 ≤ Tr.l xs k ∧ Tr.l xs k ≤ 5) (h0 : 0 < k → 0 ≤ Tr.d xs (k - 1)) : Tr.okAt xs k = (decide (Tr.d xs k ≤ 12) && Tr.fits xs k (Tr.d xs k)) := by
  rw [Tr.okAt, Tr.fits, Bool.eq_iff_iff]
  by_cases hk : k = 0
  · simp [hk] at h1 ⊢; omega
  · have := h0 (by omega)
    simp [hk]; omega

/-- what stands behind the first u bytes -/
def Num.rest (t : ByteArray) (u : Nat) : ByteArray := t.extract u t.size
theorem Num.rest_size (t : ByteArray) (u : Nat) : (Num.rest t u).size = t.size - u := by simp [Num.rest]
theorem Num.rest_rest (t : ByteArray) (u v : Nat) : Num.rest (Num.rest t u) v = Num.rest t (u + v) := by
  unfold Num.rest
  rw [ByteArray.extract_extract, ByteArray.size_extract]
  congr 1
  omega

/-- the node at the start of t, behind the nodes xs: the node, its length, its code -/
def Tr.node (t : ByteArray) (xs : Tr) : (Int × Int) × Nat × Int :=
  if Num.rvK t = 0 then ((0, 0), 0, 1)
  else if Lab.ok (Num.rvN t) = false then ((0, 0), 0, 3)
  else if Num.rvK (Num.rest t (Num.rvK t)) = 0 then ((0, 0), 0, 1)
  else if 12 < Num.rvN (Num.rest t (Num.rvK t)) then ((0, 0), 0, 4)
  else if Tr.fits xs xs.length (Num.rvN (Num.rest t (Num.rvK t))) = false then ((0, 0), 0, 5)
  else (((Num.rvN t : Int), (Num.rvN (Num.rest t (Num.rvK t)) : Int)), Num.rvK t + Num.rvK (Num.rest t (Num.rvK t)), 0)
/-- r nodes off t, behind the nodes xs: all nodes and the code -/
def Tr.getB : Nat → ByteArray → Tr → Tr × Int
  | 0, t, xs => if t.size = 0 then (xs, 0) else ([], 6)
  | r + 1, t, xs => if (Tr.node t xs).2.2 = 0 then Tr.getB r (Num.rest t (Tr.node t xs).2.1) (xs ++ [(Tr.node t xs).1]) else ([], (Tr.node t xs).2.2)
def Tr.get (s : ByteArray) : Tr × Int :=
  if Num.rvK s = 0 then ([], 1)
  else if 1 ≤ Num.rvN s ∧ Num.rvN s ≤ 24 then Tr.getB (Num.rvN s) (Num.rest s (Num.rvK s)) []
  else ([], 2)

section
variable {t : ByteArray} {xs : Tr}
theorem Tr.node_n1 (h : Num.rvK t = 0) : Tr.node t xs = ((0, 0), 0, 1) := by unfold Tr.node; rw [if_pos h]
theorem Tr.node_n2 (h : ¬ Num.rvK t = 0) (h2 : Lab.ok (Num.rvN t) = false) : Tr.node t xs = ((0, 0), 0, 3) := by unfold Tr.node; rw [if_neg h, if_pos h2]
theorem Tr.node_n3 (h : ¬ Num.rvK t = 0) (h2 : Lab.ok (Num.rvN t) = true) (h3 : Num.rvK (Num.rest t (Num.rvK t)) = 0) : Tr.node t xs = ((0, 0), 0, 1) := by
  unfold Tr.node; rw [if_neg h, if_neg (by simp [h2]), if_pos h3]
theorem Tr.node_n4 (h : ¬ Num.rvK t = 0) (h2 : Lab.ok (Num.rvN t) = true) (h3 : ¬ Num.rvK (Num.rest t (Num.rvK t)) = 0) (h4 : 12 < Num.rvN (Num.rest t (Num.rvK t))) : Tr.node t xs = ((0, 0), 0, 4) := by
  unfold Tr.node; rw [if_neg h, if_neg (by simp [h2]), if_neg h3, if_pos h4]
theorem Tr.node_n5 (h : ¬ Num.rvK t = 0) (h2 : Lab.ok (Num.rvN t) = true) (h3 : ¬ Num.rvK (Num.rest t (Num.rvK t)) = 0) (h4 : ¬ 12 < Num.rvN (Num.rest t (Num.rvK t)))
    (h5 : Tr.fits xs xs.length (Num.rvN (Num.rest t (Num.rvK t))) = false) : Tr.node t xs = ((0, 0), 0, 5) := by
  unfold Tr.node; rw [if_neg h, if_neg (by simp [h2]), if_neg h3, if_neg h4, if_pos h5]
theorem Tr.node_y (h : ¬ Num.rvK t = 0) (h2 : Lab.ok (Num.rvN t) = true) (h3 : ¬ Num.rvK (Num.rest t (Num.rvK t)) = 0) (h4 : ¬ 12 < Num.rvN (Num.rest t (Num.rvK t)))
    (h5 : Tr.fits xs xs.length (Num.rvN (Num.rest t (Num.rvK t))) = true) :
    Tr.node t xs = (((Num.rvN t : Int), (Num.rvN (Num.rest t (Num.rvK t)) : Int)), Num.rvK t + Num.rvK (Num.rest t (Num.rvK t)), 0) := by
  unfold Tr.node; rw [if_neg h, if_neg (by simp [h2]), if_neg h3, if_neg h4, if_neg (by simp [h5])]
theorem Num.rvK_le (s : ByteArray) : Num.rvK s ≤ 7 ∧ Num.rvK s ≤ s.size := by
  have := Num.vsize_le s.data.toList
  unfold Num.rvK
  split
  · simpa using this
  · omega
theorem Num.rvN_le (s : ByteArray) : Num.rvN s ≤ 562949953421311 := Num.val7_small _ (by have := (Num.rvK_le s).1; simp; omega)
/-- a node is read, or there is none -/
theorem Tr.node_cases (t : ByteArray) (xs : Tr) : (∃ code : Int, Tr.node t xs = ((0, 0), 0, code) ∧ 1 ≤ code ∧ code ≤ 5) ∨
    (∃ (l d : Int) (u : Nat), Tr.node t xs = ((l, d), u, 0) ∧ u ≤ t.size ∧ (0 ≤ l ∧ l ≤ 5) ∧ (0 ≤ d ∧ d ≤ 12)) := by
  by_cases h : Num.rvK t = 0
  · exact .inl ⟨_, Tr.node_n1 h, by omega, by omega⟩
  · rcases h2 : Lab.ok (Num.rvN t) with _ | _
    · exact .inl ⟨_, Tr.node_n2 h h2, by omega, by omega⟩
    · by_cases h3 : Num.rvK (Num.rest t (Num.rvK t)) = 0
      · exact .inl ⟨_, Tr.node_n3 h h2 h3, by omega, by omega⟩
      · by_cases h4 : 12 < Num.rvN (Num.rest t (Num.rvK t))
        · exact .inl ⟨_, Tr.node_n4 h h2 h3 h4, by omega, by omega⟩
        · rcases h5 : Tr.fits xs xs.length (Num.rvN (Num.rest t (Num.rvK t))) with _ | _
          · exact .inl ⟨_, Tr.node_n5 h h2 h3 h4 h5, by omega, by omega⟩
          · refine .inr ⟨_, _, _, Tr.node_y h h2 h3 h4 h5, ?_, ?_, ?_⟩
            · have h6 := Num.rvK_le (Num.rest t (Num.rvK t))
              have h7 := Num.rvK_le t
              rw [Num.rest_size] at h6
              omega
            · simpa [Lab.ok] using h2
            · omega
end
theorem Tr.getB_end {t : ByteArray} {xs : Tr} (h : t.size = 0) : Tr.getB 0 t xs = (xs, 0) := by unfold Tr.getB; rw [if_pos h]
theorem Tr.getB_left {t : ByteArray} {xs : Tr} (h : ¬ t.size = 0) : Tr.getB 0 t xs = ([], 6) := by unfold Tr.getB; rw [if_neg h]
theorem Tr.getB_no {r : Nat} {t : ByteArray} {xs : Tr} {p : Int × Int} {u : Nat} {code : Int} (h : Tr.node t xs = (p, u, code)) (hc : 1 ≤ code) : Tr.getB (r + 1) t xs = ([], code) := by
  unfold Tr.getB; rw [h, if_neg (show ¬ code = 0 by omega)]
theorem Tr.getB_yes {r : Nat} {t : ByteArray} {xs : Tr} {p : Int × Int} {u : Nat} (h : Tr.node t xs = (p, u, 0)) : Tr.getB (r + 1) t xs = Tr.getB r (Num.rest t u) (xs ++ [p]) := by
  show (if (Tr.node t xs).2.2 = 0 then Tr.getB r (Num.rest t (Tr.node t xs).2.1) (xs ++ [(Tr.node t xs).1]) else ([], (Tr.node t xs).2.2)) = _
  rw [h, if_pos rfl]
theorem Tr.getB_len (r : Nat) (t : ByteArray) (xs : Tr) : (Tr.getB r t xs).1.length ≤ xs.length + r := by
  induction r generalizing t xs with
  | zero => unfold Tr.getB; split <;> simp
  | succ r ih =>
    unfold Tr.getB
    split
    · refine Nat.le_trans (ih _ _) ?_
      simp; omega
    · simp
theorem Tr.get_len (s : ByteArray) : (Tr.get s).1.length ≤ 24 := by
  unfold Tr.get
  split
  · simp
  · split
    · refine Nat.le_trans (Tr.getB_len _ _ _) ?_
      simp; omega
    · simp
theorem Tr.get_n1 {s : ByteArray} (h : Num.rvK s = 0) : Tr.get s = ([], 1) := by unfold Tr.get; rw [if_pos h]
theorem Tr.get_n2 {s : ByteArray} (h : ¬ Num.rvK s = 0) (h2 : ¬ (1 ≤ Num.rvN s ∧ Num.rvN s ≤ 24)) : Tr.get s = ([], 2) := by unfold Tr.get; rw [if_neg h, if_neg h2]
theorem Tr.get_y {s : ByteArray} (h : ¬ Num.rvK s = 0) (h2 : 1 ≤ Num.rvN s ∧ Num.rvN s ≤ 24) : Tr.get s = Tr.getB (Num.rvN s) (Num.rest s (Num.rvK s)) [] := by unfold Tr.get; rw [if_neg h, if_pos h2]

end Go.Proofs.YtpdpkcadolcbmaaDoor

/- Contracts (InS). -/
namespace Go.Proofs.YtpdpkcadolcbmaaDoor
open Go.RowKit
set_option linter.unusedVariables false

set_option maxHeartbeats 400000 in
theorem l1In_any (x a b : Int) (w : World) :
    Calls Tryd.prog 28 #[.int .i64 x, .int .i64 a, .int .i64 b] w fun e w' => e = .returned (.bool (decide (a ≤ x ∧ x ≤ b))) ∧ w = w' := by
  go_enter Tryd.func28, Tryd.ntmps28
  go_wp2
  all_goals go_ret
  all_goals exact ⟨Kit.ret_bool (by simp; try omega), rfl⟩

end Go.Proofs.YtpdpkcadolcbmaaDoor

/- Contracts (VarS). -/
namespace Go.Proofs.YtpdpkcadolcbmaaDoor
open Go.RowKit
set_option linter.unusedVariables false

set_option maxHeartbeats 400000 in
theorem specVar_no (n : Int) (h : ¬ (0 ≤ n ∧ n ≤ 562949953421311)) (w : World) :
    Calls Tryd.prog 54 #[.int .i64 n] w fun e w' => e = .returned (.string ⟨#[]⟩) ∧ w = w' := by
  go_enter Tryd.func54, Tryd.ntmps54
  go_wp2_with (go_at_call 28; refine (l1In_any _ _ _ _).mono ?_; rintro e w' ⟨rfl, rfl⟩)
  go_ret
  exact ⟨rfl, rfl⟩

set_option maxHeartbeats 400000 in
set_option maxRecDepth 100000 in
theorem specVar_yes (m : Nat) (h : 0 ≤ (m : Int) ∧ (m : Int) ≤ 562949953421311) (w : World) :
    Calls Tryd.prog 54 #[.int .i64 m] w fun e w' => e = .returned (.string ⟨(Num.varF 6 m).toArray⟩) ∧ Below w.heap.size w w' := by
  obtain ⟨i0, hi, hz0, hz1, hz2⟩ := info_parts info_u8
  go_enter Tryd.func54, Tryd.ntmps54
  go_wp2_with (go_at_call 28; refine (l1In_any _ _ _ _).mono ?_; rintro e w' ⟨rfl, rfl⟩)
  go_loopw [0, 3] (fun nv ov wr => ∃ f q acc, nv = .int .i64 ((q : Nat) : Int) ∧ wr.ownsRow w.heap.size 5 1 ov acc.length (Kit.bcells acc) ∧ Num.VarAt m f q acc ∧ Below w.heap.size w wr) (fun n _ _ => (intOf n).toNat)
  case atStart =>
    refine ⟨6, m, [], rfl, ?_, Num.VarAt.start (by omega), (Below.refl _ _).alloc (Nat.le_refl _) _⟩
    exact World.ownsRow_lit w #[] 0 (Nat.le_refl _) (Nat.zero_le _) rfl
  case round =>
    obtain ⟨f, q, acc, rfl, hown, hat, hb⟩ := hrel
    have hle : (q : Int) ≤ 562949953421311 := by have := hat.le; omega
    have hal := hat.len
    have hsz := hb.size
    by_cases hq : 128 ≤ q
    · obtain ⟨f', rfl, hat'⟩ := hat.step hq
      have Hat := Lib.hid hat'
      clear hat hat'
      go_wp2_with (at_builtin; refine Kit.append_byte wr rfl _ _ 22 rfl w.heap.size 5 i0 Tryd.underlying22 hi hz0 hz1 hz2 u3 acc.length acc rfl hown rfl (128 + (q : Int) % 128) (by omega) (by omega) rfl (by omega) hsz ?_; intro v' w1 hown' hgrow)
      have hb' := Kit.below_own hb hown hgrow
      rw [show (128 + (q : Int) % 128).toNat = 128 + q % 128 by omega] at hown'
      go_roundw
      case rel => exact ⟨f', q / 128, acc ++ [UInt8.ofNat (128 + q % 128)], by go_num, by simpa using hown', Hat.out, hb'⟩
      case measure => simp [intOf]; omega
    · have Hst := Lib.hid (hat.stop (by omega))
      clear hat
      go_wp2_with (at_builtin; refine Kit.append_byte wr rfl _ _ 22 rfl w.heap.size 5 i0 Tryd.underlying22 hi hz0 hz1 hz2 u3 acc.length acc rfl hown rfl (q : Int) (by omega) (by omega) rfl (by omega) hsz ?_; intro v' w1 hown' hgrow; have hcv := Kit.conv_own (P := Tryd.prog) Tryd.underlying22 Tryd.underlying5 Tryd.underlying9 hown' (by simp))
      have hb' := Kit.below_own hb hown hgrow
      go_ret
      exact ⟨by rw [Hst.out]; rfl, hb'⟩

/-- Var, at whatever number -/
theorem specVar_any (n : Int) (w : World) :
    Calls Tryd.prog 54 #[.int .i64 n] w fun e w' => e = .returned (.string ⟨(Num.varR n).toArray⟩) ∧ Below w.heap.size w w' := by
  unfold Num.varR
  by_cases h : 0 ≤ n ∧ n ≤ 562949953421311
  · obtain ⟨m, rfl⟩ := Int.eq_ofNat_of_zero_le h.1
    rw [if_pos h, Int.toNat_natCast]
    exact specVar_yes m h w
  · rw [if_neg h]
    refine (specVar_no n h w).mono ?_
    rintro e w' ⟨rfl, rfl⟩
    exact ⟨rfl, Below.refl _ _⟩

end Go.Proofs.YtpdpkcadolcbmaaDoor
