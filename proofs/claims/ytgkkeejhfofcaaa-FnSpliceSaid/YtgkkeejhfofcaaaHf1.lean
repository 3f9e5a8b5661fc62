/- Texts of one claim laid into one file, in build order: Kit, Lab, Dr, Tr. -/
import Derived.Below
import Derived.BigQuiet
import Derived.Deep.Draws
import Derived.Deep.RegionLaw
import Derived.Laws.OwnMore
import Derived.Lib.Hide
import Derived.WalkKit
import Derived.WalkLawsBesides
import Derived.WalkSpells
/- Small facts over any program: a string of one byte, sums of strings. -/
namespace Go.Proofs.Ytgkkeejhfofcaaa.Kit
open Go.RowKit

theorem i64_and255 (n : Int) : bits .and .i64 n 255 = n % 256 := by
  have h255 : (BitVec.ofInt 64 255).toNat = 2 ^ 8 - 1 := by decide
  have key : (BitVec.ofInt 64 n &&& BitVec.ofInt 64 255).toNat = (n % ((2 ^ 64 : Nat) : Int)).toNat % 2 ^ 8 := by
    rw [BitVec.toNat_and, BitVec.toNat_ofInt, h255, Nat.and_two_pow_sub_one_eq_mod]
  show IntKind.i64.wrap ((BitVec.ofInt 64 n &&& BitVec.ofInt 64 255).toNat : Nat) = n % 256
  rw [key, IntKind.wrap_i64]
  omega

/-- a byte's arithmetic, in a region's spelling -/
theorem w64 {x : Int} (h0 : -9223372036854775808 ≤ x) (h1 : x ≤ 9223372036854775807) : IntKind.i64.wrap x = x := by
  rw [IntKind.wrap_i64]; omega
theorem ret_bool {a b : Bool} (h : a = b) : Ending.returned (.bool a) = .returned (.bool b) := by rw [h]
theorem ret_int {k : IntKind} {a b : Int} (h : a = b) : Ending.returned (.int k a) = .returned (.int k b) := by rw [h]
/-- behind an append to a row of the call's own (the bytes that come on lie in a new block) -/
theorem below_own {w0 wr w1 : World} {o : Obj} {e n size : Nat} {v : Value} {xs : List Value} (hb : Below w0.heap.size w0 wr) (hown : wr.ownsRow w0.heap.size e size v n xs)
    (hg : (wr.alloc o).grownBy w1 v.ownBlock) : Below w0.heap.size w0 w1 :=
  (hb.alloc hb.size o).grown hg (by have := hb.size; simp; omega) (fun k hk => (hown.lt k hk).1)

/-- a slice of bytes that came in: nil, or n bytes of a row of cap, all of them numbers of the kind -/
def BytesIn (w : World) (a : Option Addr) (n cap : Nat) (zs : List Int) : Prop :=
  (a = none ∧ n = 0 ∧ cap = 0 ∧ zs = []) ∨
  (∃ x, a = some x ∧ n ≤ cap ∧ cap ≤ maxLen ∧ zs.length = cap ∧ (∀ i, i < zs.length → w.cell? (x.add i) = some (.int .u8 (zs.getD i 0))) ∧ ∀ z ∈ zs, (Lit.int .u8 z).wf = true)

end Go.Proofs.Ytgkkeejhfofcaaa.Kit

/- Plain mathematics of chapter 2: the names of the labels. -/
namespace Go.Proofs.Ytgkkeejhfofcaaa
open Go.RowKit
set_option linter.unusedVariables false

/-- the six names -/
def Lab.names : List ByteArray := [⟨#[100, 105, 118]⟩, ⟨#[112]⟩, ⟨#[97]⟩, ⟨#[117, 108]⟩, ⟨#[108, 105]⟩, ⟨#[98]⟩]

def Lab.ok (n : Int) : Bool := decide (0 ≤ n ∧ n ≤ 5)

/-- the name of label n; empty if n is no label -/
def Lab.name (n : Int) : ByteArray := if Lab.ok n then Lab.names.getD n.toNat ⟨#[]⟩ else ⟨#[]⟩

/-- the label of that name, or -1 -/
def Lab.of (s : ByteArray) : Int :=
  if s = Lab.name 0 then 0 else if s = Lab.name 1 then 1 else if s = Lab.name 2 then 2 else if s = Lab.name 3 then 3 else if s = Lab.name 4 then 4 else if s = Lab.name 5 then 5 else -1

theorem Lab.of_none {s : ByteArray} (h : ∀ j : Nat, j < 6 → Lab.name j ≠ s) : Lab.of s = -1 := by
  have e (j : Nat) (hj : j < 6) : ¬ s = Lab.name j := fun e => h j hj e.symm
  have e0 : ¬ s = Lab.name 0 := e 0 (by omega)
  have e1 : ¬ s = Lab.name 1 := e 1 (by omega)
  have e2 : ¬ s = Lab.name 2 := e 2 (by omega)
  have e3 : ¬ s = Lab.name 3 := e 3 (by omega)
  have e4 : ¬ s = Lab.name 4 := e 4 (by omega)
  have e5 : ¬ s = Lab.name 5 := e 5 (by omega)
  unfold Lab.of
  rw [if_neg e0, if_neg e1, if_neg e2, if_neg e3, if_neg e4, if_neg e5]

end Go.Proofs.Ytgkkeejhfofcaaa

/- The world moved on by draws alone: a word for contracts of functions that only read. -/
namespace Go.Proofs.Ytgkkeejhfofcaaa
open Go.RowKit
set_option linter.unusedVariables false

def Drawn (w w' : World) : Prop := ∃ m, w' = w.drewN m
theorem Drawn.refl (w : World) : Drawn w w := ⟨0, rfl⟩
theorem Drawn.trans {a b c : World} (h : Drawn a b) (k : Drawn b c) : Drawn a c := by
  obtain ⟨m, rfl⟩ := h
  obtain ⟨n, rfl⟩ := k
  exact ⟨m + n, by rw [World.drewN_drewN]⟩
theorem Drawn.drewN {a b : World} (h : Drawn a b) (n : Nat) : Drawn a (b.drewN n) := h.trans ⟨n, rfl⟩
theorem Drawn.drew {a b : World} (h : Drawn a b) : Drawn a b.drew := h.drewN 1
theorem Drawn.heap {a b : World} (h : Drawn a b) : b.heap = a.heap := by obtain ⟨m, rfl⟩ := h; rfl
theorem Drawn.cell {a b : World} (h : Drawn a b) (p : Addr) : b.cell? p = a.cell? p := by obtain ⟨m, rfl⟩ := h; rfl
theorem Drawn.below {B : Nat} {a b c : World} (h : Below B a b) (k : Drawn b c) : Below B a c := by
  obtain ⟨m, rfl⟩ := k
  exact ⟨h.os, h.tape, h.output, h.size, h.block⟩
theorem Drawn.toBelow {B : Nat} {a b : World} (k : Drawn a b) : Below B a b := Drawn.below (Below.refl _ _) k
theorem below_drewN {B : Nat} {a w : World} (h : Below B a w) (n : Nat) : Below B a (w.drewN n) := ⟨h.os, h.tape, h.output, h.size, h.block⟩

/-- a contract met inside a region that draws: the callee leaves the world -/
theorem quiet_same {P : Program} {f : FuncId} {args : Array Value} {w : World} {n : Nat} {v : Value}
    (h : Calls P f args (w.drewN n) fun e w' => e = .returned v ∧ w.drewN n = w') : Calls P f args (w.drewN n) fun e w'' => e = .returned v ∧ ∃ m, w'' = w.drewN m :=
  h.mono fun _ _ ⟨he, hm⟩ => ⟨he, n, hm.symm⟩
end Go.Proofs.Ytgkkeejhfofcaaa

/- Plain mathematics of chapter 3: lists of nodes (label, depth), and how a slice of them lies in memory. -/
namespace Go.Proofs.Ytgkkeejhfofcaaa
open Go.RowKit
set_option linter.unusedVariables false

/-- a tree as a list of (label, depth) -/
abbrev Tr := List (Int × Int)
def Tr.l (xs : Tr) (k : Nat) : Int := (xs.getD k (0, 0)).1
def Tr.d (xs : Tr) (k : Nat) : Int := (xs.getD k (0, 0)).2
/-- all numbers are ints of 64 bits -/
def Tr.wf (xs : Tr) : Prop := ∀ k : Nat, (-9223372036854775808 ≤ Tr.l xs k ∧ Tr.l xs k ≤ 9223372036854775807) ∧ -9223372036854775808 ≤ Tr.d xs k ∧ Tr.d xs k ≤ 9223372036854775807

def Tr.okAt (xs : Tr) (k : Nat) : Bool :=
  decide ((0 ≤ Tr.l xs k ∧ Tr.l xs k ≤ 5) ∧ (0 ≤ Tr.d xs k ∧ Tr.d xs k ≤ 12) ∧ (Tr.d xs k = 0 ↔ k = 0) ∧ (k = 0 ∨ Tr.d xs k ≤ Tr.d xs (k - 1) + 1))
/-- the first k nodes stand right -/
def Tr.okTo (xs : Tr) (k : Nat) : Prop := ∀ j : Nat, j < k → Tr.okAt xs j = true
def Tr.ok (xs : Tr) : Bool := (List.range xs.length).all (Tr.okAt xs) && decide (1 ≤ xs.length ∧ xs.length ≤ 24)
def Tr.has (xs : Tr) (i : Int) : Bool := Tr.ok xs && decide (0 ≤ i ∧ i < xs.length)

theorem Tr.okTo_succ {xs : Tr} {k : Nat} (h : Tr.okTo xs k) (hk : Tr.okAt xs k = true) : Tr.okTo xs (k + 1) := fun j hj => by
  rcases Nat.lt_succ_iff_lt_or_eq.1 hj with h' | rfl
  · exact h j h'
  · exact hk
theorem Tr.okTo_at {xs : Tr} {k j : Nat} (h : Tr.okTo xs k) (hj : j < k) : (0 ≤ Tr.l xs j ∧ Tr.l xs j ≤ 5) ∧ (0 ≤ Tr.d xs j ∧ Tr.d xs j ≤ 12) ∧ (Tr.d xs j = 0 ↔ j = 0) ∧ (j = 0 ∨ Tr.d xs j ≤ Tr.d xs (j - 1) + 1) := by
  simpa [Tr.okAt] using h j hj
theorem Tr.ok_iff {xs : Tr} : Tr.ok xs = true ↔ Tr.okTo xs xs.length ∧ 1 ≤ xs.length ∧ xs.length ≤ 24 := by
  simp [Tr.ok, Tr.okTo]
theorem Tr.not_ok {xs : Tr} {k : Nat} (hk : k < xs.length) (h : Tr.okAt xs k = false) : Tr.ok xs = false := by
  rw [Bool.eq_false_iff]
  intro e
  have := (Tr.ok_iff.1 e).1 k hk
  rw [h] at this
  cases this
theorem Tr.ok_size {xs : Tr} (h : Tr.okTo xs xs.length) : Tr.ok xs = decide (1 ≤ xs.length ∧ xs.length ≤ 24) := by
  rw [Bool.eq_iff_iff, Tr.ok_iff]
  simp [h]

/-- the place behind the last node under i -/
def Tr.endN (xs : Tr) (i : Nat) : Nat := i + 1 + ((xs.drop (i + 1)).takeWhile (fun x => decide (Tr.d xs i < x.2))).length
def Tr.endOf (xs : Tr) (i : Int) : Int := if Tr.has xs i then Tr.endN xs i.toNat else -1

theorem takeWhile_len {α : Type} (p : α → Bool) (l : List α) (n : Nat) (hn : n ≤ l.length) (h1 : ∀ j (h : j < l.length), j < n → p l[j] = true) (h2 : ∀ h : n < l.length, p l[n] = false) :
    (l.takeWhile p).length = n := by
  induction l generalizing n with
  | nil => simp at hn; simp [hn]
  | cons a l ih =>
    cases n with
    | zero =>
      have := h2 (by simp)
      simp at this
      simp [this]
    | succ n =>
      have ha := h1 0 (by simp) (by omega)
      simp at ha
      simp [ha]
      refine ih n (by simpa using hn) (fun j h hj => ?_) (fun h => ?_)
      · exact h1 (j + 1) (by simpa using h) (by omega)
      · exact h2 (by simpa using h)

theorem Tr.endN_is {xs : Tr} {i k : Nat} (hi : i < k) (hk : k ≤ xs.length) (h1 : ∀ j, i < j → j < k → Tr.d xs i < Tr.d xs j) (h2 : k = xs.length ∨ Tr.d xs k ≤ Tr.d xs i) : Tr.endN xs i = k := by
  unfold Tr.endN
  rw [takeWhile_len _ _ (k - (i + 1)) (by simp; omega)]
  · omega
  · intro j h hj
    have := h1 (i + 1 + j) (by omega) (by omega)
    simp at h
    simp [Tr.d, List.getD_eq_getElem?_getD, show i + 1 + j < xs.length by omega] at this ⊢
    exact this
  · intro h
    simp at h
    rcases h2 with h2 | h2
    · omega
    · simp [Tr.d, List.getD_eq_getElem?_getD, show k < xs.length by omega] at h2 ⊢
      simpa [show i + 1 + (k - (i + 1)) = k by omega] using h2

/-- there is such a place -/
theorem Tr.end_ex (xs : Tr) (i : Nat) (hi : i < xs.length) : ∃ k, i < k ∧ k ≤ xs.length ∧ (∀ j, i < j → j < k → Tr.d xs i < Tr.d xs j) ∧ (k = xs.length ∨ Tr.d xs k ≤ Tr.d xs i) := by
  have H : ∀ f k, xs.length - k = f → i < k → k ≤ xs.length → (∀ j, i < j → j < k → Tr.d xs i < Tr.d xs j) →
      ∃ k, i < k ∧ k ≤ xs.length ∧ (∀ j, i < j → j < k → Tr.d xs i < Tr.d xs j) ∧ (k = xs.length ∨ Tr.d xs k ≤ Tr.d xs i) := by
    intro f
    induction f with
    | zero => intro k hf h1 h2 h3; exact ⟨k, h1, h2, h3, .inl (by omega)⟩
    | succ f ih =>
      intro k hf h1 h2 h3
      by_cases h : Tr.d xs k ≤ Tr.d xs i
      · exact ⟨k, h1, h2, h3, .inr h⟩
      · refine ih (k + 1) (by omega) (by omega) (by omega) (fun j hj hj' => ?_)
        rcases Nat.lt_succ_iff_lt_or_eq.1 hj' with h' | rfl
        · exact h3 j hj h'
        · omega
  exact H _ (i + 1) rfl (by omega) (by omega) (fun j h1 h2 => by omega)
theorem Tr.endN_spec (xs : Tr) (i : Nat) (hi : i < xs.length) : i < Tr.endN xs i ∧ Tr.endN xs i ≤ xs.length ∧ (∀ j, i < j → j < Tr.endN xs i → Tr.d xs i < Tr.d xs j) ∧ (Tr.endN xs i = xs.length ∨ Tr.d xs (Tr.endN xs i) ≤ Tr.d xs i) := by
  obtain ⟨k, h1, h2, h3, h4⟩ := Tr.end_ex xs i hi
  rw [Tr.endN_is h1 h2 h3 h4]
  exact ⟨h1, h2, h3, h4⟩

/-- the nearest node ahead of k of a depth below dep, or -1 -/
def Tr.back (xs : Tr) (dep : Int) : Nat → Int
  | 0 => -1
  | k + 1 => if Tr.d xs k < dep then k else Tr.back xs dep k
def Tr.parentOf (xs : Tr) (i : Int) : Int := if Tr.has xs i then Tr.back xs (Tr.d xs i.toNat) i.toNat else -1

/-- the nodes under i ahead of k that stand one deeper -/
def Tr.kidsTo (xs : Tr) (i k : Nat) : List Nat := (List.range k).filter fun j => decide (i < j) && decide (Tr.d xs j = Tr.d xs i + 1)
def Tr.kidsOf (xs : Tr) (i : Int) : List Nat := if Tr.has xs i then Tr.kidsTo xs i.toNat (Tr.endN xs i.toNat) else []
theorem Tr.kidsTo_succ (xs : Tr) (i k : Nat) (hk : i < k) : Tr.kidsTo xs i (k + 1) = if Tr.d xs k = Tr.d xs i + 1 then Tr.kidsTo xs i k ++ [k] else Tr.kidsTo xs i k := by
  unfold Tr.kidsTo
  rw [List.range_succ, List.filter_append]
  by_cases h : Tr.d xs k = Tr.d xs i + 1 <;> simp [hk, h]
theorem Tr.kidsTo_start (xs : Tr) (i : Nat) : Tr.kidsTo xs i (i + 1) = [] := by
  unfold Tr.kidsTo
  rw [List.filter_eq_nil_iff]
  intro j hj
  simp at hj ⊢
  omega
theorem Tr.kidsTo_le (xs : Tr) (i k : Nat) : (Tr.kidsTo xs i k).length ≤ k := by
  have := List.length_filter_le (fun j => decide (i < j) && decide (Tr.d xs j = Tr.d xs i + 1)) (List.range k)
  simpa [Tr.kidsTo] using this

/-- nodes from i up to k, depths from that of i -/
def Tr.subTo (xs : Tr) (i k : Nat) : Tr := (List.range (k - i)).map fun j => (Tr.l xs (i + j), Tr.d xs (i + j) - Tr.d xs i)
def Tr.subTree (xs : Tr) (i : Int) : Tr := if Tr.has xs i then Tr.subTo xs i.toNat (Tr.endN xs i.toNat) else []
theorem Tr.subTo_length (xs : Tr) (i k : Nat) : (Tr.subTo xs i k).length = k - i := by simp [Tr.subTo]

theorem Tr.has_iff {xs : Tr} {i : Int} : Tr.has xs i = true ↔ Tr.ok xs = true ∧ 0 ≤ i ∧ i < xs.length := by simp [Tr.has]
theorem Tr.ok_at {xs : Tr} (h : Tr.ok xs = true) {k : Nat} (hk : k < xs.length) : (0 ≤ Tr.l xs k ∧ Tr.l xs k ≤ 5) ∧ (0 ≤ Tr.d xs k ∧ Tr.d xs k ≤ 12) ∧ (Tr.d xs k = 0 ↔ k = 0) ∧ (k = 0 ∨ Tr.d xs k ≤ Tr.d xs (k - 1) + 1) := by
  have := (Tr.ok_iff.1 h).1 k hk
  simpa [Tr.okAt] using this

theorem Tr.ext {xs ys : Tr} (hl : xs.length = ys.length) (h : ∀ k, k < xs.length → Tr.l xs k = Tr.l ys k ∧ Tr.d xs k = Tr.d ys k) : xs = ys := by
  refine List.ext_getElem hl fun k h1 h2 => ?_
  have := h k h1
  simp [Tr.l, Tr.d, List.getD_eq_getElem?_getD, h1, h2] at this
  exact Prod.ext this.1 this.2

/-! memory -/

/-- the cells of a list of nodes -/
def Tr.cells (xs : Tr) : List Value := xs.flatMap fun x => [.int .i64 x.1, .int .i64 x.2]
theorem Tr.cells_length (xs : Tr) : (Tr.cells xs).length = xs.length * 2 := by
  induction xs with
  | nil => rfl
  | cons a l ih => simp [Tr.cells] at ih ⊢; omega
theorem Tr.cells_append (xs ys : Tr) : Tr.cells (xs ++ ys) = Tr.cells xs ++ Tr.cells ys := by simp [Tr.cells]
theorem Tr.cells_even (xs : Tr) (k : Nat) (hk : k < xs.length) : (Tr.cells xs)[k * 2]? = some (.int .i64 (Tr.l xs k)) := by
  induction xs generalizing k with
  | nil => simp at hk
  | cons a l ih =>
    cases k with
    | zero => simp [Tr.cells, Tr.l]
    | succ k =>
      have := ih k (by simpa using hk)
      simp only [Tr.cells, Tr.l] at this ⊢
      simpa [show (k + 1) * 2 = k * 2 + 1 + 1 by omega] using this
theorem Tr.cells_odd (xs : Tr) (k : Nat) (hk : k < xs.length) : (Tr.cells xs)[k * 2 + 1]? = some (.int .i64 (Tr.d xs k)) := by
  induction xs generalizing k with
  | nil => simp at hk
  | cons a l ih =>
    cases k with
    | zero => simp [Tr.cells, Tr.d]
    | succ k =>
      have := ih k (by simpa using hk)
      simp only [Tr.cells, Tr.d] at this ⊢
      simpa [show (k + 1) * 2 + 1 = k * 2 + 1 + 1 + 1 by omega] using this

/-- the slice (A, n) reads as the nodes xs, in blocks below B -/
def NdIn (w : World) (B : Nat) (A : Option Addr) (n : Nat) (xs : Tr) : Prop :=
  xs.length = n ∧ (0 < n → ∃ ad, A = some ad ∧ ad.block < B) ∧
  ∀ ad, A = some ad → ∀ k, k < n → w.cell? (ad.add (k * 2)) = some (.int .i64 (Tr.l xs k)) ∧ w.cell? (ad.add (k * 2 + 1)) = some (.int .i64 (Tr.d xs k))

theorem block_of_add (a : Addr) (n : Nat) : (a.add n).block = a.block := by unfold Addr.add; split <;> rfl
theorem add_of_add (a : Addr) (i j : Nat) : (a.add i).add j = a.add (i + j) := by
  unfold Addr.add
  by_cases hi : i = 0 <;> by_cases hj : j = 0 <;> simp [hi, hj, Nat.add_assoc]

/-- a field's address, as the walk spells it -/
theorem add_fld (a : Addr) (i j : Nat) (hj : 0 < j) : a.add (i + j) = ⟨(a.add i).block, (a.add i).off + j, none⟩ := by
  rw [← add_of_add]
  show (if j = 0 then a.add i else _) = _
  rw [if_neg (by omega)]

section
variable {w w' : World} {B B' n : Nat} {A : Option Addr} {xs : Tr}
theorem NdIn.keep (h : NdIn w B A n xs) (hk : ∀ p : Addr, p.block < B → w'.cell? p = w.cell? p) : NdIn w' B A n xs := by
  refine ⟨h.1, h.2.1, fun ad e k hkn => ?_⟩
  obtain ⟨ad', e', hb⟩ := h.2.1 (by omega)
  obtain rfl : ad' = ad := by rw [e'] at e; injection e
  have := h.2.2 _ e k hkn
  rw [hk _ (by rw [block_of_add]; exact hb), hk _ (by rw [block_of_add]; exact hb)]
  exact this
theorem NdIn.more (h : NdIn w B A n xs) (hB : B ≤ B') : NdIn w B' A n xs :=
  ⟨h.1, fun hn => by obtain ⟨ad, e, hb⟩ := h.2.1 hn; exact ⟨ad, e, by omega⟩, h.2.2⟩
theorem NdIn.below (h : NdIn w B A n xs) (hb : Below B w w') : NdIn w' B A n xs := h.keep fun _ hp => hb.cell hp
theorem NdIn.to_below (h : NdIn w w.heap.size A n xs) (hb : Below w.heap.size w w') : NdIn w' w'.heap.size A n xs := (h.below hb).more hb.size
theorem NdIn.to_drawn (h : NdIn w w.heap.size A n xs) (hb : Drawn w w') : NdIn w' w'.heap.size A n xs := h.to_below hb.toBelow
theorem NdIn.drew (h : NdIn w B A n xs) : NdIn w.drew B A n xs := h
theorem NdIn.drawn (h : NdIn w B A n xs) (k : Drawn w w') : NdIn w' B A n xs := by obtain ⟨m, rfl⟩ := k; exact h
theorem NdIn.drewN (h : NdIn w B A n xs) (k : Nat) : NdIn (w.drewN k) B A n xs := h
theorem NdIn.alloc (h : NdIn w B A n xs) (hB : B ≤ w.heap.size) (o : Obj) : NdIn (w.alloc o) B A n xs := h.keep fun p hp => World.cell?_alloc_lt w o p (by omega)
theorem NdIn.setCell (h : NdIn w B A n xs) {p : Addr} (hB : B ≤ p.block) (u : Value) : NdIn (w.setCell p u) B A n xs :=
  h.keep fun q hq => World.cell?_setCell_other w p q u (fun e => by subst e; omega)
theorem NdIn.grown (h : NdIn w B A n xs) {row : Option Nat} (hg : w.grownBy w' row) (hB : B ≤ w.heap.size) (hr : ∀ g, row = some g → B ≤ g) : NdIn w' B A n xs :=
  h.keep fun p hp => World.cell?_of_block (hg.block p.block (by omega) (fun e => by have := hr _ e.symm; omega))
theorem NdIn.here {ad : Addr} (h : NdIn w B (some ad) n xs) {k : Nat} (hk : k < n) : w.cell? (ad.add (k * 2)) = some (.int .i64 (Tr.l xs k)) ∧ w.cell? ⟨(ad.add (k * 2)).block, (ad.add (k * 2)).off + 1, Option.none⟩ = some (.int .i64 (Tr.d xs k)) := by
  have := h.2.2 ad rfl k hk
  rw [add_fld ad (k * 2) 1 (by omega)] at this
  exact this
theorem NdIn.at_ (h : NdIn w B A n xs) {k : Nat} (hk : k < n) : ∃ ad, A = some ad ∧ ad.block < B ∧ w.cell? (ad.add (k * 2)) = some (.int .i64 (Tr.l xs k)) ∧ w.cell? ⟨(ad.add (k * 2)).block, (ad.add (k * 2)).off + 1, Option.none⟩ = some (.int .i64 (Tr.d xs k)) := by
  obtain ⟨ad, rfl, hb⟩ := h.2.1 (by omega)
  exact ⟨ad, rfl, hb, h.here hk⟩
theorem NdIn.of_own {base : Nat} {e : TypeId} {c : Nat} (h : w.ownsRow base e 2 (.slice A n c) n (Tr.cells xs)) : NdIn w w.heap.size A n xs := by
  have hlen : xs.length = n := by have := h.1; rw [Tr.cells_length] at this; omega
  have hb : 0 < n → ∃ g cap, Value.slice A n c = .slice (some ⟨g, 0, Option.none⟩) n cap ∧ base ≤ g ∧ g < w.heap.size := by
    intro hn
    rcases h.2 with ⟨_, h0⟩ | ⟨g, cap, cur, hv, hg, hh, _⟩
    · omega
    · refine ⟨g, cap, hv, hg, ?_⟩
      rcases Nat.lt_or_ge g w.heap.size with hlt | hge
      · exact hlt
      · rw [Array.getElem?_eq_none hge] at hh; cases hh
  refine ⟨hlen, fun hn => ?_, fun ad e k hk => ?_⟩
  · obtain ⟨g, cap, hv, _, hlt⟩ := hb hn
    obtain rfl : A = some ⟨g, 0, Option.none⟩ := by injection hv
    exact ⟨_, rfl, hlt⟩
  · obtain ⟨g, cap, hv, _, hlt⟩ := hb (by omega)
    obtain rfl : A = some ⟨g, 0, Option.none⟩ := by injection hv
    obtain rfl : (⟨g, 0, Option.none⟩ : Addr) = ad := by injection e
    exact ⟨h.cells rfl _ _ (Tr.cells_even xs k (by omega)), h.cells rfl _ _ (Tr.cells_odd xs k (by omega))⟩
end

section
variable {w w' : World} {base n g cap : Nat} {e : TypeId} {xs : Tr}
/-- a row of the call's own behind a call that makes memory -/
theorem own_below {size : Nat} {v : Value} {ys : List Value} (h : w.ownsRow base e size v n ys) (hb : Below w.heap.size w w') : w'.ownsRow base e size v n ys := by
  refine h.kept (row := none) ⟨hb.os, hb.tape, hb.output, hb.size, fun k hk _ => hb.block k hk⟩ ?_
  rcases v.ownBlock with _ | g <;> simp
theorem own_even (h : w.ownsRow base e 2 (.slice (some ⟨g, 0, none⟩) n cap) n (Tr.cells xs)) {k : Nat} (hk : k < xs.length) : w.cell? ⟨g, k * 2, none⟩ = some (.int .i64 (Tr.l xs k)) := by
  have := h.1
  rw [Tr.cells_length] at this
  rw [h.cellAt _ (by omega), Tr.cells_even _ _ hk]
theorem own_odd (h : w.ownsRow base e 2 (.slice (some ⟨g, 0, none⟩) n cap) n (Tr.cells xs)) {k : Nat} (hk : k < xs.length) : w.cell? ⟨g, k * 2 + 1, none⟩ = some (.int .i64 (Tr.d xs k)) := by
  have := h.1
  rw [Tr.cells_length] at this
  rw [h.cellAt _ (by omega), Tr.cells_odd _ _ hk]
end

end Go.Proofs.Ytgkkeejhfofcaaa
