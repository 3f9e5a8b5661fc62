/- Texts of one claim laid into one file, in build order: Mem, Part, ToIS, SzC, IntE, IntH. -/
import Derived.Test.YtofpcedpmbecgaaHh1
import Derived.Below
import Derived.Deep.RegionLaw
import Derived.Laws.AppendOwn
import Derived.Laws.OwnMore
import Derived.Outline
import Derived.OwnWalk
import Derived.Test.YtofpcedpmbecgaaRows
/- Contracts (Mem). -/
namespace Go.Proofs.Ytofpcedpmbecgaa
open Go.RowKit
set_option linter.unusedVariables false


/-! rows of ints -/
def ints (zs : List Int) : List Value := zs.map (Value.int .i64)
def Zs.at (zs : List Int) (k : Nat) : Int := zs.getD k 0
theorem ints_length (zs : List Int) : (ints zs).length = zs.length := by simp [ints]
theorem ints_append (a b : List Int) : ints (a ++ b) = ints a ++ ints b := by simp [ints]
theorem ints_at (zs : List Int) (k : Nat) (h : k < zs.length) : (ints zs)[k]? = some (.int .i64 (Zs.at zs k)) := by
  simp [ints, Zs.at, List.getD_eq_getElem?_getD, h]
theorem ints_set (zs : List Int) (k : Nat) (a : Int) : (ints zs).set k (.int .i64 a) = ints (zs.set k a) := by simp [ints, List.map_set]
theorem Tr.cells_cell (xs : Tr) : ∀ u ∈ Tr.cells xs, u.oneCell' = true := by
  intro u hu
  simp only [Tr.cells, List.mem_flatMap] at hu
  obtain ⟨a, _, hu⟩ := hu
  simp at hu
  rcases hu with rfl | rfl <;> rfl
theorem Zs.ext {a b : List Int} (hl : a.length = b.length) (h : ∀ k, k < a.length → Zs.at a k = Zs.at b k) : a = b := by
  refine List.ext_getElem hl fun k h1 h2 => ?_
  have := h k h1
  simpa [Zs.at, List.getD_eq_getElem?_getD, h1, h2] using this

/-- the slice (A, n) reads as the ints zs, in blocks below B -/
def IntIn (w : World) (B : Nat) (A : Option Addr) (n : Nat) (zs : List Int) : Prop :=
  zs.length = n ∧ (0 < n → ∃ ad, A = some ad ∧ ad.block < B) ∧ ∀ ad, A = some ad → ∀ k, k < n → w.cell? (ad.add k) = some (.int .i64 (Zs.at zs k))

section
variable {w w' : World} {B B' n : Nat} {A : Option Addr} {zs : List Int}
theorem IntIn.keep (h : IntIn w B A n zs) (hk : ∀ p : Addr, p.block < B → w'.cell? p = w.cell? p) : IntIn w' B A n zs := by
  refine ⟨h.1, h.2.1, fun ad e k hkn => ?_⟩
  obtain ⟨ad', e', hb⟩ := h.2.1 (by omega)
  obtain rfl : ad' = ad := by rw [e'] at e; injection e
  rw [hk _ (by rw [block_of_add]; exact hb)]
  exact h.2.2 _ e k hkn
theorem IntIn.more (h : IntIn w B A n zs) (hB : B ≤ B') : IntIn w B' A n zs :=
  ⟨h.1, fun hn => by obtain ⟨ad, e, hb⟩ := h.2.1 hn; exact ⟨ad, e, by omega⟩, h.2.2⟩
theorem IntIn.below (h : IntIn w B A n zs) (hb : Below B w w') : IntIn w' B A n zs := h.keep fun _ hp => hb.cell hp
theorem IntIn.drawn (h : IntIn w B A n zs) (k : Drawn w w') : IntIn w' B A n zs := by obtain ⟨m, rfl⟩ := k; exact h
theorem IntIn.to_below (h : IntIn w w.heap.size A n zs) (hb : Below w.heap.size w w') : IntIn w' w'.heap.size A n zs := (h.below hb).more hb.size
theorem IntIn.to_drawn (h : IntIn w w.heap.size A n zs) (hb : Drawn w w') : IntIn w' w'.heap.size A n zs := h.to_below hb.toBelow
theorem IntIn.here {ad : Addr} (h : IntIn w B (some ad) n zs) {k : Nat} (hk : k < n) : w.cell? (ad.add k) = some (.int .i64 (Zs.at zs k)) := h.2.2 ad rfl k hk
theorem IntIn.at_ (h : IntIn w B A n zs) {k : Nat} (hk : k < n) : ∃ ad, A = some ad ∧ ad.block < B ∧ w.cell? (ad.add k) = some (.int .i64 (Zs.at zs k)) := by
  obtain ⟨ad, rfl, hb⟩ := h.2.1 (by omega)
  exact ⟨ad, rfl, hb, h.here hk⟩
theorem IntIn.of_own {base : Nat} {e : TypeId} {c : Nat} (h : w.ownsRow base e 1 (.slice A n c) n (ints zs)) : IntIn w w.heap.size A n zs := by
  have hlen : zs.length = n := by have := h.1; rw [ints_length] at this; omega
  have hb : 0 < n → ∃ g cap, Value.slice A n c = .slice (some ⟨g, 0, none⟩) n cap ∧ g < w.heap.size := by
    intro hn
    rcases h.2 with ⟨_, h0⟩ | ⟨g, cap, cur, hv, hg, hh, _⟩
    · omega
    · refine ⟨g, cap, hv, ?_⟩
      rcases Nat.lt_or_ge g w.heap.size with hlt | hge
      · exact hlt
      · rw [Array.getElem?_eq_none hge] at hh; cases hh
  refine ⟨hlen, fun hn => ?_, fun ad e k hk => ?_⟩
  · obtain ⟨g, cap, hv, hlt⟩ := hb hn
    obtain rfl : A = some ⟨g, 0, none⟩ := by injection hv
    exact ⟨_, rfl, hlt⟩
  · obtain ⟨g, cap, hv, hlt⟩ := hb (by omega)
    obtain rfl : A = some ⟨g, 0, none⟩ := by injection hv
    obtain rfl : (⟨g, 0, none⟩ : Addr) = ad := by injection e
    exact h.cells rfl _ _ (ints_at zs k (by omega))
theorem IntIn.cells_at {ad : Addr} (h : IntIn w B (some ad) n zs) : ∀ j u, (ints zs)[j]? = some u → w.cell? (ad.add j) = some u := by
  intro j u hj
  have hlt := (List.getElem?_eq_some_iff.1 hj).1
  rw [ints_length] at hlt
  rw [ints_at _ _ hlt] at hj
  rw [h.here (k := j) (by rw [← h.1]; exact hlt)]
  exact hj
end

theorem NdIn.cells_at {w : World} {B n : Nat} {xs : Tr} {ad : Addr} (h : NdIn w B (some ad) n xs) : ∀ j u, (Tr.cells xs)[j]? = some u → w.cell? (ad.add j) = some u := by
  intro j u hj
  have hlt := (List.getElem?_eq_some_iff.1 hj).1
  rw [Tr.cells_length] at hlt
  have hk : j / 2 < xs.length := by omega
  have hc := h.2.2 ad rfl (j / 2) (by rw [← h.1]; exact hk)
  rcases Nat.mod_two_eq_zero_or_one j with h2 | h2
  · have e : j = j / 2 * 2 := by omega
    rw [e] at hj ⊢
    rw [Tr.cells_even _ _ hk] at hj
    rw [hc.1]
    exact hj
  · have e : j = j / 2 * 2 + 1 := by omega
    rw [e] at hj ⊢
    rw [Tr.cells_odd _ _ hk] at hj
    rw [hc.2]
    exact hj

/-! rows of the call's own -/
section
variable {w w' w'' : World} {base n g size : Nat} {e : TypeId} {v : Value} {ys : List Value}
theorem grown_tr {row : Option Nat} (h : w.grownBy w' row) (k : w'.grownBy w'' row) : w.grownBy w'' row :=
  ⟨k.os.trans h.os, k.tape.trans h.tape, k.output.trans h.output, Nat.le_trans h.size k.size, fun i hi hne => (k.block i (Nat.lt_of_lt_of_le hi h.size) hne).trans (h.block i hi hne)⟩
/-- a write into another row below the base -/
theorem own_grown (h : w.ownsRow base e size v n ys) {row : Option Nat} (hg : w.grownBy w' row) (hlt : ∀ g, row = some g → g < base) : w'.ownsRow base e size v n ys := by
  refine h.kept hg ?_
  rcases hb : v.ownBlock with _ | k
  · exact .inl rfl
  · refine .inr fun he => ?_
    have := h.lt k hb
    have := hlt k he.symm
    omega
theorem own_int {c : Nat} {zs : List Int} (h : w.ownsRow base e 1 (.slice (some ⟨g, 0, none⟩) n c) n (ints zs)) {k : Nat} (hk : k < zs.length) : w.cell? ⟨g, k, none⟩ = some (.int .i64 (Zs.at zs k)) := by
  have := h.1
  rw [ints_length] at this
  rw [h.cellAt _ (by omega), ints_at _ _ hk]
/-- where a row of one element at least lies -/
theorem own_form {A : Option Addr} {c : Nat} (h : w.ownsRow base e size (.slice A n c) n ys) (hn : 0 < n) : ∃ g, A = some ⟨g, 0, none⟩ ∧ base ≤ g ∧ g < w.heap.size := by
  rcases h.2 with ⟨_, h0⟩ | ⟨g, cap, cur, hv, hg, hh, _⟩
  · omega
  · have hA : A = some ⟨g, 0, none⟩ := by injection hv
    have := h.lt g (by rw [hA]; rfl)
    exact ⟨g, hA, hg, this.2⟩
theorem own_below_of {B : Nat} {w0 : World} {A : Option Addr} {c : Nat} (hb : Below B w0 w) (h : w.ownsRow base e size (.slice A n c) n ys) (hg : w.grownBy w' (Value.ownBlock (.slice A n c))) (hB : B ≤ base) (hsz : B ≤ w.heap.size) : Below B w0 w' :=
  hb.grown hg hsz (fun k hk => by have := h.lt k hk; omega)
end

/-! marks -/
def Zs.marks (k : Int) (n : Nat) : List Int := (List.range n).map fun j => k + (j : Nat)
def Zs.marked (k : Int) (zs : List Int) (j : Nat) : List Int := Zs.marks k j ++ zs.drop j
theorem Zs.marks_length (k : Int) (n : Nat) : (Zs.marks k n).length = n := by simp [Zs.marks]
theorem Zs.marks_succ (k : Int) (j : Nat) : Zs.marks k (j + 1) = Zs.marks k j ++ [k + (j : Nat)] := by simp [Zs.marks, List.range_succ]
theorem Zs.marked_set (k : Int) (zs : List Int) (j : Nat) (h : j < zs.length) : (Zs.marked k zs j).set j (k + (j : Nat)) = Zs.marked k zs (j + 1) := by
  unfold Zs.marked
  rw [List.set_append_right _ _ (by simp [Zs.marks]), Zs.marks_length, Nat.sub_self, List.drop_eq_getElem_cons h, Zs.marks_succ, List.set_cons_zero, List.append_assoc]
  rfl
theorem Zs.marked_all (k : Int) (zs : List Int) : Zs.marked k zs zs.length = Zs.marks k zs.length := by simp [Zs.marked]
theorem Zs.marked_length (k : Int) (zs : List Int) (j : Nat) (h : j ≤ zs.length) : (Zs.marked k zs j).length = zs.length := by simp [Zs.marked, Zs.marks]; omega

def Tr.marks (k : Int) (n : Nat) : Tr := (List.range n).map fun j => (k + 2 * (j : Nat), k + 2 * (j : Nat) + 1)
def Tr.marked (k : Int) (xs : Tr) (j : Nat) : Tr := Tr.marks k j ++ xs.drop j
theorem Tr.marks_length (k : Int) (n : Nat) : (Tr.marks k n).length = n := by simp [Tr.marks]
theorem Tr.marks_l (k : Int) (n j : Nat) (h : j < n) : Tr.l (Tr.marks k n) j = k + 2 * (j : Nat) := by simp [Tr.l, Tr.marks, List.getD_eq_getElem?_getD, h]
theorem Tr.marks_d (k : Int) (n j : Nat) (h : j < n) : Tr.d (Tr.marks k n) j = k + 2 * (j : Nat) + 1 := by simp [Tr.d, Tr.marks, List.getD_eq_getElem?_getD, h]
theorem Tr.marks_succ (k : Int) (j : Nat) : Tr.marks k (j + 1) = Tr.marks k j ++ [(k + 2 * (j : Nat), k + 2 * (j : Nat) + 1)] := by simp [Tr.marks, List.range_succ]
theorem Tr.marked_set (k : Int) (xs : Tr) (j : Nat) (h : j < xs.length) : (Tr.marked k xs j).set j (k + 2 * (j : Nat), k + 2 * (j : Nat) + 1) = Tr.marked k xs (j + 1) := by
  unfold Tr.marked
  rw [List.set_append_right _ _ (by simp [Tr.marks]), Tr.marks_length, Nat.sub_self, List.drop_eq_getElem_cons h, Tr.marks_succ, List.set_cons_zero, List.append_assoc]
  rfl
theorem Tr.marked_all (k : Int) (xs : Tr) : Tr.marked k xs xs.length = Tr.marks k xs.length := by simp [Tr.marked]
theorem Tr.marked_length (k : Int) (xs : Tr) (j : Nat) (h : j ≤ xs.length) : (Tr.marked k xs j).length = xs.length := by simp [Tr.marked, Tr.marks]; omega

/-! append of one element, the elements of which lie in a new block -/
/-- out = append(out, x), out a row of ints of the call's own -/
theorem append_int {P : Program} (w : World) {ops : Array Oper} {rest : List Oper} {o : Oper} {a : Act} {Q : Exit → Act → World → Prop} (hgd : o.guard = none) (s x : Operand) (t : TypeId)
    (ho : o.op = .call { callee := .builtin .append, args := #[s, x], argTypes := #[t, t] })
    (base : Nat) (e : TypeId) (i : TypeInfo) (ht : P.underlying t = some (.slice e)) (hi : P.info? e = some i) (hz : i.zero = some (.int .i64 0))
    (hsize : i.size = 1) (hby : i.bytes = 8) (v : Value) (n : Nat) (l : List Int) (hs : a.eval s = v) (hown : w.ownsRow base e 1 v n (ints l)) (hn : n = l.length)
    (b : Int) (hx : a.eval x = .slice (some ⟨w.heap.size, 0, none⟩) 1 1)
    (h63 : l.length + 1 ≤ 1073741824) (hbase : base ≤ w.heap.size)
    (h : ∀ v' w', w'.ownsRow base e 1 v' (l ++ [b]).length (ints (l ++ [b])) → (w.alloc (.cells #[.int .i64 b] e)).grownBy w' v.ownBlock → wpList P ops Q rest (a.put o.dst v') w') :
    wpList P ops Q (o :: rest) a (w.alloc (.cells #[.int .i64 b] e)) := by
  subst hn
  refine wpList_append_own _ hgd s x t ho base e i (.int .i64 0) 1 8 ht hi hz hsize hby rfl (by decide) v l.length (ints l) hs (hown.alloc _) ⟨w.heap.size, 0, none⟩ 1 1 [.int .i64 b] hx rfl ?_ ?_ ?_ ?_ ?_ ?_
  · intro j u hj
    have hj0 : j = 0 := by
      have := (List.getElem?_eq_some_iff.1 hj).1
      simpa using this
    subst hj0
    simp at hj
    subst hj
    simp [Addr.add]
  · intro u hu; simp at hu; subst hu; rfl
  · unfold maxLen; omega
  · omega
  · simp; omega
  · intro v' w' h2 h3 _
    refine h v' w' ?_ h3
    rw [ints_append, List.length_append]
    exact h2
/-- out = append(out, T{a, b}) in a region that draws its order, out a row of such of the call's own -/
theorem step_append_node {P : Program} {ops : Array Oper} {o : Oper} {a : Act} (w : World) {K : Act → World → Prop} {Q : Exit → Act → World → Prop} {E : Prop} (hgd : o.guard = none) (s x : Operand) (t : TypeId)
    (ho : o.op = .call { callee := .builtin .append, args := #[s, x], argTypes := #[t, t] })
    (base : Nat) (e : TypeId) (i : TypeInfo) (ht : P.underlying t = some (.slice e)) (hi : P.info? e = some i) (hz : i.zero = some (.agg #[.int .i64 0, .int .i64 0]))
    (hsize : i.size = 2) (hby : i.bytes = 16) (v : Value) (n : Nat) (l : Tr) (hs : a.eval s = v) (hown : w.ownsRow base e 2 v n (Tr.cells l)) (hn : n = l.length)
    (b1 b2 : Int) (hx : a.eval x = .slice (some ⟨w.heap.size, 0, none⟩) 1 1)
    (h63 : l.length + 1 ≤ 1073741824) (hbase : base ≤ w.heap.size)
    (h : ∀ v' w', w'.ownsRow base e 2 v' (l ++ [(b1, b2)]).length (Tr.cells (l ++ [(b1, b2)])) → (w.alloc (.cells #[.int .i64 b1, .int .i64 b2] e)).grownBy w' v.ownBlock → K (a.put o.dst v') w') :
    if Region.wanted o (yielded ops a.tmps) = true then Oper.wp P o a (w.alloc (.cells #[.int .i64 b1, .int .i64 b2] e)) K Q else E := by
  have hw : Region.wanted o (yielded ops a.tmps) = true := by simp [Region.wanted, hgd]
  rw [if_pos hw]
  subst hn
  refine wp_append_own _ s x t ho base e i (.agg #[.int .i64 0, .int .i64 0]) 2 16 ht hi hz hsize hby rfl (by decide) v l.length (Tr.cells l) hs (hown.alloc _) ⟨w.heap.size, 0, none⟩ 1 1 (Tr.cells [(b1, b2)]) hx (by simp [Tr.cells]) ?_ (Tr.cells_cell _) (by unfold maxLen; omega) (by omega) (by simp; omega) ?_
  · intro j u hj
    have hj2 : j < 2 := by
      have := (List.getElem?_eq_some_iff.1 hj).1
      simpa [Tr.cells] using this
    have : j = 0 ∨ j = 1 := by omega
    rcases this with rfl | rfl <;> (simp [Tr.cells] at hj; subst hj; simp [Addr.add])
  · intro v' w' h2 h3 _
    refine h v' w' ?_ h3
    rw [Tr.cells_append, List.length_append]
    exact h2

end Go.Proofs.Ytofpcedpmbecgaa

/- Contracts (Part). -/
namespace Go.Proofs.Ytofpcedpmbecgaa
open Go.RowKit
set_option linter.unusedVariables false

/-- of a row the first k values, then zeroes -/
def Zs.part (F : List Int) (k : Nat) : List Int := F.take k ++ List.replicate (F.length - k) 0
theorem Zs.part_length (F : List Int) (k : Nat) (h : k ≤ F.length) : (Zs.part F k).length = F.length := by simp [Zs.part]; omega
theorem Zs.part_zero (F : List Int) : Zs.part F 0 = List.replicate F.length 0 := by simp [Zs.part]
theorem Zs.part_all (F : List Int) : Zs.part F F.length = F := by simp [Zs.part]
theorem Zs.part_set (F : List Int) (k : Nat) (h : k < F.length) : (Zs.part F k).set k (Zs.at F k) = Zs.part F (k + 1) := by
  unfold Zs.part
  have hl : (F.take k).length = k := by simp; omega
  rw [List.set_append_right _ _ (by omega), hl, Nat.sub_self, show F.length - k = (F.length - (k + 1)) + 1 by omega, List.replicate_succ, List.set_cons_zero, List.take_succ_eq_append_getElem h, List.append_assoc]
  simp [Zs.at, List.getD_eq_getElem?_getD, h]
theorem made_zeros (z n : Nat) : (madeCells (Value.int .i64 0).cells (n * 1)).toList = ints (List.replicate n 0) := by
  unfold madeCells ints
  refine List.ext_getElem (by simp) fun k h1 h2 => ?_
  simp at h1 h2 ⊢
  show (#[Value.int .i64 0] : Array Value)[k % 1]! = _
  rw [Nat.mod_one]
  rfl
theorem info_intZ : (Try.prog.info? 3).map (fun i => (i.zero, i.size, i.bytes)) = some (some (.int .i64 0), 1, 8) := by kernel_rfl

end Go.Proofs.Ytofpcedpmbecgaa

/- Contracts (ToIS). -/
namespace Go.Proofs.Ytofpcedpmbecgaa
open Go.RowKit
set_option linter.unusedVariables false

set_option maxHeartbeats 1600000 in
set_option maxRecDepth 100000 in
theorem toIntS_any (A : Option Addr) (n c : Nat) (zs : List Int) (w : World) (h : IntIn w w.heap.size A n zs) (hn : n ≤ 1048576) :
    Calls Try.prog 42 #[.slice A n c] w fun e w' => e = .returned (.slice (some ⟨w.heap.size, 0, none⟩) n n) ∧ w'.ownsRow w.heap.size 3 1 (.slice (some ⟨w.heap.size, 0, none⟩) n n) n (ints zs) ∧ Below w.heap.size w w' := by
  have H := Lib.hid h
  have HL := Lib.hid h.1
  clear h
  obtain ⟨i0, hi, hz0, hz1, hz2⟩ := info_parts info_intZ
  have Hi := Lib.hid hi
  clear hi
  have HZ0 := Lib.hid (show List.replicate n (0 : Int) = Zs.part zs 0 by rw [Zs.part_zero, HL.out])
  go_enter Try.func42, Try.ntmps42
  go_wp2_with (at_make; go_loud (refine wpList_make_full _ rfl _ _ 27 rfl w.heap.size 3 i0 (.int .i64 0) 1 Try.underlying27 Hi.out hz0 hz1 _ _ _ _ n rfl rfl rfl rfl (by rw [hz2]; omega) (by unfold maxLen; omega) (Nat.le_refl _) ?_); intro w2 hown2 hgrow2)
  have hb2 : Below w.heap.size w w2 := (Below.refl _ w).grown hgrow2 (Nat.le_refl _) (fun _ h => by cases h)
  rw [made_zeros 0 n, HZ0.out] at hown2
  have HO2 := Lib.hid hown2
  have HB2 := Lib.hid hb2
  clear hown2 hgrow2 hb2
  go_wp2
  go_loopw [4] (fun iv wr => ∃ k : Nat, k ≤ n ∧ iv = .int .i64 k ∧ wr.ownsRow w.heap.size 3 1 (.slice (some ⟨w.heap.size, 0, none⟩) n n) n (ints (Zs.part zs k)) ∧ Below w.heap.size w wr) (fun i _ => n - (intOf i).toNat)
  case atStart => exact ⟨0, Nat.zero_le _, rfl, HO2.out, HB2.out⟩
  case round =>
    clear HO2 HB2
    obtain ⟨k, hk, rfl, hown, hB⟩ := hrel
    have Ho := Lib.hid hown
    have HB := Lib.hid hB
    clear hown hB
    by_cases hlt : k < n
    · obtain ⟨ad, rfl, _, c1⟩ := (H.out.below HB.out).at_ hlt
      have c0 := own_int Ho.out (k := k) (by rw [Zs.part_length zs k (by rw [HL.out]; exact hk), HL.out]; exact hlt)
      have f0 := Ho.out.frozenAt k
      have b2 : (0 : Int) ≤ (k : Int) := by omega
      have b3 : (k : Int) < (n : Int) := by omega
      go_wp2
      go_roundw
      case rel =>
        refine ⟨k + 1, by omega, by go_num, ?_, HB.out.setCell (Nat.le_refl _) _⟩
        have := (Ho.out.stored k (.int .i64 (Zs.at zs k))).1
        rw [ints_set, Zs.part_set zs k (by rw [HL.out]; exact hlt)] at this
        exact this
      case measure => simp [intOf]; omega
    · obtain rfl : k = n := by omega
      rw [show Zs.part zs k = zs by rw [← HL.out]; exact Zs.part_all zs] at Ho
      go_wp2
      go_ret
      exact ⟨rfl, Ho.out, HB.out⟩
end Go.Proofs.Ytofpcedpmbecgaa

/- Contracts (SzC). -/
namespace Go.Proofs.Ytofpcedpmbecgaa
open Go.RowKit
set_option linter.unusedVariables false

set_option maxHeartbeats 400000 in
theorem szIntS_any (A : Option Addr) (n c : Nat) (left : Int) (w : World) (hn : n ≤ 9223372036854775807) (h0 : 0 ≤ left) (h1 : left ≤ 1048576) :
    Calls Try.prog 79 #[.slice A n c, .int .i64 left] w fun e w' => e = .returned (.int .i64 (if (n : Int) ≤ left then left - n else -1)) ∧ w = w' := by
  by_cases h : (n : Int) ≤ left
  · rw [if_pos h]
    go_enter Try.func79, Try.ntmps79
    go_wp2
    go_ret
    exact ⟨rfl, rfl⟩
  · rw [if_neg h]
    go_enter Try.func79, Try.ntmps79
    go_wp2
    go_ret
    exact ⟨rfl, rfl⟩
end Go.Proofs.Ytofpcedpmbecgaa

/- Contracts (IntE). -/
namespace Go.Proofs.Ytofpcedpmbecgaa
open Go.RowKit
set_option linter.unusedVariables false

set_option maxHeartbeats 800000 in
set_option maxRecDepth 100000 in
theorem eqIntS_any (A A' : Option Addr) (n c n' c' : Nat) (xs ys : List Int) (w : World) (h : IntIn w w.heap.size A n xs) (h' : IntIn w w.heap.size A' n' ys) (hn : n ≤ 1048576) (hn' : n' ≤ 1048576) :
    Calls Try.prog 39 #[.slice A n c, .slice A' n' c'] w fun e w' => e = .returned (.bool (decide (xs = ys))) ∧ Below w.heap.size w w' := by
  have H := Lib.hid h
  have H' := Lib.hid h'
  clear h h'
  have HL := Lib.hid H.out.1
  have HL' := Lib.hid H'.out.1
  by_cases hnn : n = n'
  · go_enter Try.func39, Try.ntmps39
    have Hnn := Lib.hid hnn
    have hne : ((n : Int) != (n' : Int)) = false := by simp [hnn]
    clear hnn
    go_wp2
    go_loopw [5] (fun iv wr => ∃ k : Nat, k ≤ n ∧ iv = .int .i64 k ∧ (∀ j, j < k → Zs.at xs j = Zs.at ys j) ∧ Drawn w wr) (fun i _ => n - (intOf i).toNat)
    case atStart => exact ⟨0, by omega, rfl, fun j hj => absurd hj (by omega), Drawn.refl _⟩
    case round =>
      obtain ⟨k, hk, rfl, hsm, hD⟩ := hrel
      have Hsm := Lib.hid hsm
      clear hsm
      by_cases hlt : k < n
      · obtain ⟨ad, rfl, hb, hl⟩ := (H.out.drawn hD).at_ hlt
        obtain ⟨ad', rfl, hb', hl'⟩ := (H'.out.drawn hD).at_ (k := k) (by rw [← Hnn.out]; exact hlt)
        have hlt' : (k : Int) < (n' : Int) := by rw [← Hnn.out]; omega
        have hk0 : (0 : Int) ≤ (k : Int) := by omega
        by_cases hq1 : Zs.at xs k = Zs.at ys k
        · have Hq := Lib.hid hq1
          have q1 : (Zs.at xs k != Zs.at ys k) = false := by simpa using hq1
          clear hq1
          go_wp2
          go_quiet (fail)
          go_wp2
          go_roundw
          case rel => exact ⟨k + 1, by omega, by go_num, fun j hj => by
            rcases Nat.lt_succ_iff_lt_or_eq.1 hj with h' | rfl
            · exact Hsm.out j h'
            · exact Hq.out, hD.drewN _⟩
          case measure => simp [intOf]; omega
        · have Hq := Lib.hid hq1
          have q1 : (Zs.at xs k != Zs.at ys k) = true := by simpa using hq1
          clear hq1
          go_wp2
          go_quiet (fail)
          go_wp2
          go_ret
          refine ⟨Kit.ret_bool ?_, (hD.drewN _).toBelow⟩
          symm
          rw [decide_eq_false_iff_not]
          rintro rfl
          exact Hq.out rfl
      · obtain rfl : k = n := by omega
        go_wp2
        go_ret
        refine ⟨Kit.ret_bool ?_, hD.toBelow⟩
        symm
        rw [decide_eq_true_eq]
        exact Zs.ext (by rw [HL.out, HL'.out]; exact Hnn.out) (fun j hj => Hsm.out j (by rw [← HL.out]; exact hj))
  · have hne : ((n : Int) != (n' : Int)) = true := by simp; omega
    have Hq := Lib.hid (show decide (xs = ys) = false by
      rw [decide_eq_false_iff_not]; rintro rfl; exact hnn (HL.out.symm.trans HL'.out))
    clear hnn
    go_enter Try.func39, Try.ntmps39
    go_wp2
    go_ret
    exact ⟨Kit.ret_bool Hq.out.symm, Below.refl _ _⟩


end Go.Proofs.Ytofpcedpmbecgaa

/- Contracts (IntH). -/
namespace Go.Proofs.Ytofpcedpmbecgaa
open Go.RowKit
set_option linter.unusedVariables false

set_option maxHeartbeats 800000 in
set_option maxRecDepth 100000 in
theorem markIntS_any (A : Option Addr) (n c base : Nat) (e0 : TypeId) (k0 : Int) (zs : List Int) (w : World) (h : w.ownsRow base e0 1 (.slice A n c) n (ints zs)) (hn : n ≤ 1048576) (h0 : 0 ≤ k0) (h1 : k0 ≤ 1073741824) :
    Calls Try.prog 40 #[.slice A n c, .int .i64 k0] w fun e w' => e = .returned (.int .i64 (k0 + n)) ∧ w'.ownsRow base e0 1 (.slice A n c) n (ints (Zs.marks k0 n)) ∧ w.grownBy w' (Value.ownBlock (.slice A n c)) := by
  have H := Lib.hid h
  have HL := Lib.hid (show zs.length = n by have := h.1; rw [ints_length] at this; omega)
  clear h
  go_enter Try.func40, Try.ntmps40
  go_wp2
  go_loopw [5, 1] (fun iv kv wr => ∃ j : Nat, j ≤ n ∧ iv = .int .i64 j ∧ kv = .int .i64 (k0 + j) ∧ wr.ownsRow base e0 1 (.slice A n c) n (ints (Zs.marked k0 zs j)) ∧ w.grownBy wr (Value.ownBlock (.slice A n c))) (fun i _ _ => n - (intOf i).toNat)
  case atStart => exact ⟨0, by omega, rfl, by simp, by simpa [Zs.marked, Zs.marks] using H.out, World.grownBy.refl _ _⟩
  case round =>
    obtain ⟨j, hj, rfl, rfl, hown, hgr⟩ := hrel
    by_cases hlt : j < n
    · obtain ⟨g, rfl, hg⟩ := own_form hown (by omega)
      have Ho := Lib.hid hown
      have Hg := Lib.hid hgr
      have c0 := own_int hown (k := j) (by rw [Zs.marked_length _ _ _ (by rw [HL.out]; omega), HL.out]; exact hlt)
      have f0 := hown.frozenAt j
      clear hown hgr hg
      go_wp2
      go_roundw
      case rel =>
        refine ⟨j + 1, by omega, by go_num, by go_num, ?_, grown_tr Hg.out (Ho.out.stored _ _).2⟩
        have := (Ho.out.stored j (.int .i64 (k0 + (j : Nat)))).1
        rw [ints_set, Zs.marked_set _ _ _ (by rw [HL.out]; exact hlt)] at this
        exact this
      case measure => simp [intOf]; omega
    · obtain rfl : j = n := by omega
      have Ho := Lib.hid hown
      have Hg := Lib.hid hgr
      clear hown hgr
      go_wp2
      go_ret
      refine ⟨rfl, ?_, Hg.out⟩
      have := Ho.out
      rw [← HL.out, Zs.marked_all, HL.out] at this
      exact this

end Go.Proofs.Ytofpcedpmbecgaa
