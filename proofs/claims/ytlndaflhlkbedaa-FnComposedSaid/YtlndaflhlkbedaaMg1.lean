/- Texts of one claim laid into one file, in build order: Kit, Lab, Dr, Tr, Pst, Pst2, Fst, Fr, Mem, Res, KinP, IdxP, FrT, Co, Mem3, InS, LabOkS, TreeOkS, AtS, EndOfS, KidS, PostS, Dst, Grow, BoxC, Dtb. -/
import Derived.Below
import Derived.BigQuiet
import Derived.Deep.Draws
import Derived.Deep.RegionLaw
import Derived.Laws.AppendOwn
import Derived.Laws.OwnMore
import Derived.Lib.Hide
import Derived.Maps.AppendAt
import Derived.Outline
import Derived.OwnWalk
import Derived.Test.YtlndaflhlkbedaaRows
import Derived.WalkKit
import Derived.WalkLawsBesides
import Derived.WalkSpells
/- Small facts over any program: a string of one byte, sums of strings. -/
namespace Go.Proofs.Ytlndaflhlkbedaa.Kit
open Go.RowKit

/-- string([]byte{x}) -/
theorem conv1 {P : Program} (w : World) (src dst e : TypeId) (x : Int) (h0 : 0 ≤ x) (h1 : x < 256) (hs : P.underlying src = some (.slice e)) (he : P.underlying e = some (.int .u8)) (hd : P.underlying dst = some .string) :
    (convert src dst (.slice (some ⟨w.heap.size, 0, none⟩) 1 1)).run P (w.alloc (.cells #[.int .u8 x] e)) = .ok (.string ⟨#[UInt8.ofNat x.toNat]⟩) (w.alloc (.cells #[.int .u8 x] e)) := by
  have hx : ((UInt8.ofNat x.toNat).toNat : Int) = x := by
    rw [UInt8.toNat_ofNat']; omega
  exact run_convert_bytes_back (P := P) (w.alloc (.cells #[.int .u8 x] e)) src dst e ⟨w.heap.size, 0, none⟩ 1 [UInt8.ofNat x.toNat] hs he hd (fun j hj => by
    have hj0 : j = 0 := by simpa using hj
    subst hj0
    simp [Addr.add, go_sem]
    omega)

/-- the like with the byte under a name -/
theorem conv1b {P : Program} (w : World) (src dst e : TypeId) (x : Int) (b : UInt8) (hx : (b.toNat : Int) = x) (hs : P.underlying src = some (.slice e)) (he : P.underlying e = some (.int .u8)) (hd : P.underlying dst = some .string) :
    (convert src dst (.slice (some ⟨w.heap.size, 0, none⟩) 1 1)).run P (w.alloc (.cells #[.int .u8 x] e)) = .ok (.string ⟨#[b]⟩) (w.alloc (.cells #[.int .u8 x] e)) := by
  have hb := b.toNat_lt
  subst hx
  have := conv1 (P := P) w src dst e b.toNat (by omega) (by omega) hs he hd
  rw [Int.toNat_natCast, UInt8.ofNat_toNat] at this
  exact this

/-- the byte ahead of a string -/
theorem cons_bytes (b : UInt8) (l : List UInt8) : (ByteArray.mk #[b] ++ ByteArray.mk l.toArray) = ByteArray.mk (b :: l).toArray := by
  have := ByteArray.mk_append_mk [b] l
  simpa using this

theorem i64_or (a b : Nat) (ha : a < 9223372036854775808) (hb : b < 9223372036854775808) : bits .or .i64 (a : Int) (b : Int) = ((a ||| b : Nat) : Int) := by
  have hx : a ||| b < 2 ^ 63 := Nat.or_lt_two_pow (by omega) (by omega)
  have h1 : (BitVec.ofInt 64 (a : Int)).toNat = a := by
    rw [BitVec.ofInt_natCast, BitVec.toNat_ofNat]; exact Nat.mod_eq_of_lt (by omega)
  have h2 : (BitVec.ofInt 64 (b : Int)).toNat = b := by
    rw [BitVec.ofInt_natCast, BitVec.toNat_ofNat]; exact Nat.mod_eq_of_lt (by omega)
  show IntKind.i64.wrap ((BitVec.ofInt 64 (a : Int) ||| BitVec.ofInt 64 (b : Int)).toNat : Int) = _
  rw [BitVec.toNat_or, h1, h2, IntKind.wrap_i64]
  omega

/-- x<<8 | y -/
theorem or256 (x y : Nat) (hx : x < 36028797018963968) (hy : y < 256) : bits .or .i64 ((x : Int) * 256) (y : Int) = (x : Int) * 256 + y := by
  have h := i64_or (x * 256) y (by omega) (by omega)
  rw [nat_join 8 (x * 256) y (by omega) (by omega)] at h
  simpa using h
/-- x<<7 | y -/
theorem or128 (x y : Nat) (hx : x < 36028797018963968) (hy : y < 128) : bits .or .i64 ((x : Int) * 128) (y : Int) = (x : Int) * 128 + y := by
  have h := i64_or (x * 128) y (by omega) (by omega)
  rw [nat_join 7 (x * 128) y (by omega) (by omega)] at h
  simpa using h

/-- x & 15 on a byte -/
theorem and15 (x : Nat) (hx : x < 256) : bits .and .u8 (x : Int) 15 = (x : Int) % 16 := by
  have h := u8_and_nat x 15 hx (by omega)
  rw [nat_mask4] at h
  simpa using h
/-- x & 127 on a byte -/
theorem and127 (x : Nat) (hx : x < 256) : bits .and .u8 (x : Int) 127 = (x : Int) % 128 := by
  have h := u8_and_nat x 127 hx (by omega)
  rw [nat_mask7] at h
  simpa using h

theorem i64_and255 (n : Int) : bits .and .i64 n 255 = n % 256 := by
  have h255 : (BitVec.ofInt 64 255).toNat = 2 ^ 8 - 1 := by decide
  have key : (BitVec.ofInt 64 n &&& BitVec.ofInt 64 255).toNat = (n % ((2 ^ 64 : Nat) : Int)).toNat % 2 ^ 8 := by
    rw [BitVec.toNat_and, BitVec.toNat_ofInt, h255, Nat.and_two_pow_sub_one_eq_mod]
  show IntKind.i64.wrap ((BitVec.ofInt 64 n &&& BitVec.ofInt 64 255).toNat : Nat) = n % 256
  rw [key, IntKind.wrap_i64]
  omega

/-- a byte's arithmetic, in a region's spelling -/
theorem w64 {x : Int} (h0 : -9223372036854775808 ≤ x) (h1 : x ≤ 9223372036854775807) : IntKind.i64.wrap x = x := by
  rw [IntKind.wrap_i64]; omega
theorem tdiv_nat (x : Nat) (c : Int) : (x : Int).tdiv c = (x : Int) / c := Int.tdiv_eq_ediv_of_nonneg (by omega)
theorem tmod_nat (x : Nat) (c : Int) : (x : Int).tmod c = (x : Int) % c := Int.tmod_eq_emod_of_nonneg (by omega)

/-- a list from its end -/
theorem snoc_rec {α : Type} {P : List α → Prop} (h0 : P []) (h1 : ∀ l a, P l → P (l ++ [a])) (l : List α) : P l := by
  have h : ∀ n (l : List α), l.length = n → P l := by
    intro n
    induction n with
    | zero => intro l hl; rw [List.eq_nil_of_length_eq_zero hl]; exact h0
    | succ n ih =>
      intro l hl
      have hne : l ≠ [] := by intro h; simp [h] at hl
      rw [← List.dropLast_concat_getLast hne]
      exact h1 _ _ (ih _ (by simp [hl]))
  exact h _ l rfl

theorem ret_bool {a b : Bool} (h : a = b) : Ending.returned (.bool a) = .returned (.bool b) := by rw [h]
theorem ret_int {k : IntKind} {a b : Int} (h : a = b) : Ending.returned (.int k a) = .returned (.int k b) := by rw [h]
theorem wf_le {a : Int} (h : (Lit.int .i64 a).wf = true) : -9223372036854775808 ≤ a ∧ a ≤ 9223372036854775807 := by
  simpa [Lit.wf, IntKind.min, IntKind.max, IntKind.signed, IntKind.bits] using h

theorem take_snoc (s : ByteArray) (k : Nat) (h : k < s.size) : s.data.toList.take (k + 1) = s.data.toList.take k ++ [s[k]] := by
  rw [List.take_succ_eq_append_getElem (by simpa using h)]; rfl

theorem take_full (s : ByteArray) (k : Nat) (h : s.size ≤ k) : s.data.toList.take k = s.data.toList :=
  List.take_of_length_le (by simpa using h)

/-- the cells of a row of bytes -/
def bcells (l : List UInt8) : List Value := l.map fun b => .int .u8 b.toNat
theorem bcells_length (l : List UInt8) : (bcells l).length = l.length := by simp [bcells]
theorem bcells_snoc (l : List UInt8) (b : UInt8) : bcells l ++ [.int .u8 b.toNat] = bcells (l ++ [b]) := by simp [bcells]
theorem bcells_nil : bcells [] = [] := rfl

/-- string(b), b a row of the call's own -/
theorem conv_own {P : Program} {w : World} {src dst e : TypeId} {base n : Nat} {v : Value} {l : List UInt8} (hs : P.underlying src = some (.slice e)) (he : P.underlying e = some (.int .u8)) (hd : P.underlying dst = some .string)
    (h : w.ownsRow base e 1 v n (bcells l)) (hn : n = l.length) : (convert src dst v).run P w = .ok (.string ⟨l.toArray⟩) w := by
  subst hn
  rcases h.2 with ⟨rfl, h0⟩ | ⟨g, cap, cur, rfl, _⟩
  · obtain rfl : l = [] := List.eq_nil_of_length_eq_zero h0
    rw [run_convert_bytes_string w src dst e none 0 0 hs he hd]
    simp [Conv.bytesToString, go_sem]
    rfl
  · refine run_convert_bytes_back w src dst e ⟨g, 0, none⟩ cap l hs he hd (fun j hj => ?_)
    refine h.cells rfl j _ ?_
    simp [bcells, hj]

/-- behind an append to a row of the call's own (the bytes that come on lie in a new block) -/
theorem below_own {w0 wr w1 : World} {o : Obj} {e n size : Nat} {v : Value} {xs : List Value} (hb : Below w0.heap.size w0 wr) (hown : wr.ownsRow w0.heap.size e size v n xs)
    (hg : (wr.alloc o).grownBy w1 v.ownBlock) : Below w0.heap.size w0 w1 :=
  (hb.alloc hb.size o).grown hg (by have := hb.size; simp; omega) (fun k hk => (hown.lt k hk).1)

/-- out = append(out, b), out a row of bytes of the call's own -/
theorem append_byte {P : Program} (w : World) {ops : Array Oper} {rest : List Oper} {o : Oper} {a : Act} {Q : Exit → Act → World → Prop} (hgd : o.guard = none) (s x : Operand) (t : TypeId)
    (ho : o.op = .call { callee := .builtin .append, args := #[s, x], argTypes := #[t, t] })
    (base : Nat) (e : TypeId) (i : TypeInfo) (ht : P.underlying t = some (.slice e)) (hi : P.info? e = some i) (hz : i.zero = some (.int .u8 0))
    (hsize : i.size = 1) (hby : i.bytes = 1) (v : Value) (n : Nat) (l : List UInt8) (hs : a.eval s = v) (hown : w.ownsRow base e 1 v n (bcells l)) (hn : n = l.length)
    (b : Int) (h0 : 0 ≤ b) (h1 : b < 256) (hx : a.eval x = .slice (some ⟨w.heap.size, 0, none⟩) 1 1)
    (h63 : l.length + 1 ≤ 140737488355328) (hbase : base ≤ w.heap.size)
    (h : ∀ v' w', w'.ownsRow base e 1 v' (n + 1) (bcells (l ++ [UInt8.ofNat b.toNat])) → (w.alloc (.cells #[.int .u8 b] e)).grownBy w' v.ownBlock → wpList P ops Q rest (a.put o.dst v') w') :
    wpList P ops Q (o :: rest) a (w.alloc (.cells #[.int .u8 b] e)) := by
  subst hn
  refine wpList_append_own _ hgd s x t ho base e i (.int .u8 0) 1 1 ht hi hz hsize hby rfl (by decide) v l.length (bcells l) hs (hown.alloc _) ⟨w.heap.size, 0, none⟩ 1 1 [.int .u8 b] hx rfl ?_ ?_ ?_ ?_ ?_ ?_
  · intro j u hj
    have hj0 : j = 0 := by
      have := (List.getElem?_eq_some_iff.1 hj).1
      simpa using this
    subst hj0
    simp at hj
    subst hj
    simp [Addr.add]
  · intro u hu; simp at hu; subst hu; rfl
  · unfold maxLen; omega
  · omega
  · simp; omega
  · intro v' w' h2 h3 _
    refine h v' w' ?_ h3
    have hb : ((UInt8.ofNat b.toNat).toNat : Int) = b := by rw [UInt8.toNat_ofNat']; omega
    rw [← bcells_snoc, hb]
    exact h2

/-- out = append(out, b1, b2) in a region that draws its order -/
theorem step_append_two {P : Program} {ops : Array Oper} {o : Oper} {a : Act} (w : World) {K : Act → World → Prop} {Q : Exit → Act → World → Prop} {E : Prop} (hgd : o.guard = none) (s x : Operand) (t : TypeId)
    (ho : o.op = .call { callee := .builtin .append, args := #[s, x], argTypes := #[t, t] })
    (base : Nat) (e : TypeId) (i : TypeInfo) (ht : P.underlying t = some (.slice e)) (hi : P.info? e = some i) (hz : i.zero = some (.int .u8 0))
    (hsize : i.size = 1) (hby : i.bytes = 1) (v : Value) (n : Nat) (l : List UInt8) (hs : a.eval s = v) (hown : w.ownsRow base e 1 v n (bcells l)) (hn : n = l.length)
    (b1 b2 : UInt8) (hx : a.eval x = .slice (some ⟨w.heap.size, 0, none⟩) 2 2)
    (h63 : l.length + 2 ≤ 140737488355328) (hbase : base ≤ w.heap.size)
    (h : ∀ v' w', w'.ownsRow base e 1 v' (n + 2) (bcells (l ++ [b1, b2])) → (w.alloc (.cells #[.int .u8 b1.toNat, .int .u8 b2.toNat] e)).grownBy w' v.ownBlock → K (a.put o.dst v') w') :
    if Region.wanted o (yielded ops a.tmps) = true then Oper.wp P o a (w.alloc (.cells #[.int .u8 b1.toNat, .int .u8 b2.toNat] e)) K Q else E := by
  have hw : Region.wanted o (yielded ops a.tmps) = true := by simp [Region.wanted, hgd]
  rw [if_pos hw]
  subst hn
  refine wp_append_own _ s x t ho base e i (.int .u8 0) 1 1 ht hi hz hsize hby rfl (by decide) v l.length (bcells l) hs (hown.alloc _) ⟨w.heap.size, 0, none⟩ 2 2 (bcells [b1, b2]) hx (by simp [bcells]) ?_ ?_ (by unfold maxLen; omega) (by omega) (by simp; omega) ?_
  · intro j u hj
    have hj2 : j < 2 := by
      have := (List.getElem?_eq_some_iff.1 hj).1
      simpa [bcells] using this
    have : j = 0 ∨ j = 1 := by omega
    rcases this with rfl | rfl <;> (simp [bcells] at hj; subst hj; simp [Addr.add])
  · intro u hu
    simp only [bcells, List.mem_map] at hu
    obtain ⟨b, _, rfl⟩ := hu
    rfl
  · intro v' w' h2 h3 _
    refine h v' w' ?_ h3
    have e2 : bcells l ++ bcells [b1, b2] = bcells (l ++ [b1, b2]) := by simp [bcells]
    rw [← e2]; exact h2

theorem toList_inj {a b : ByteArray} (h : a.toList = b.toList) : a = b := by
  rw [ByteArray.toList_eq, ByteArray.toList_eq] at h
  exact ByteArray.ext (Array.ext' h)

/-- a slice of bytes that came in: nil, or n bytes of a row of cap, all of them numbers of the kind -/
def BytesIn (w : World) (a : Option Addr) (n cap : Nat) (zs : List Int) : Prop :=
  (a = none ∧ n = 0 ∧ cap = 0 ∧ zs = []) ∨
  (∃ x, a = some x ∧ n ≤ cap ∧ cap ≤ maxLen ∧ zs.length = cap ∧ (∀ i, i < zs.length → w.cell? (x.add i) = some (.int .u8 (zs.getD i 0))) ∧ ∀ z ∈ zs, (Lit.int .u8 z).wf = true)

end Go.Proofs.Ytlndaflhlkbedaa.Kit

/- Plain mathematics of chapter 2: the names of the labels. -/
namespace Go.Proofs.Ytlndaflhlkbedaa
open Go.RowKit
set_option linter.unusedVariables false

/-- the six names -/
def Lab.names : List ByteArray := [⟨#[100, 105, 118]⟩, ⟨#[112]⟩, ⟨#[97]⟩, ⟨#[117, 108]⟩, ⟨#[108, 105]⟩, ⟨#[98]⟩]

def Lab.ok (n : Int) : Bool := decide (0 ≤ n ∧ n ≤ 5)

/-- the name of label n; empty if n is no label -/
def Lab.name (n : Int) : ByteArray := if Lab.ok n then Lab.names.getD n.toNat ⟨#[]⟩ else ⟨#[]⟩

theorem Lab.name_no {n : Int} (h : ¬ (0 ≤ n ∧ n ≤ 5)) : Lab.name n = ⟨#[]⟩ := by simp [Lab.name, Lab.ok, h]

/-- the label of that name, or -1 -/
def Lab.of (s : ByteArray) : Int :=
  if s = Lab.name 0 then 0 else if s = Lab.name 1 then 1 else if s = Lab.name 2 then 2 else if s = Lab.name 3 then 3 else if s = Lab.name 4 then 4 else if s = Lab.name 5 then 5 else -1

theorem Lab.of_none {s : ByteArray} (h : ∀ j : Nat, j < 6 → Lab.name j ≠ s) : Lab.of s = -1 := by
  have e (j : Nat) (hj : j < 6) : ¬ s = Lab.name j := fun e => h j hj e.symm
  have e0 : ¬ s = Lab.name 0 := e 0 (by omega)
  have e1 : ¬ s = Lab.name 1 := e 1 (by omega)
  have e2 : ¬ s = Lab.name 2 := e 2 (by omega)
  have e3 : ¬ s = Lab.name 3 := e 3 (by omega)
  have e4 : ¬ s = Lab.name 4 := e 4 (by omega)
  have e5 : ¬ s = Lab.name 5 := e 5 (by omega)
  unfold Lab.of
  rw [if_neg e0, if_neg e1, if_neg e2, if_neg e3, if_neg e4, if_neg e5]

theorem Lab.of_name (j : Nat) (hj : j < 6) : Lab.of (Lab.name j) = j := by
  have h : j = 0 ∨ j = 1 ∨ j = 2 ∨ j = 3 ∨ j = 4 ∨ j = 5 := by omega
  rcases h with rfl | rfl | rfl | rfl | rfl | rfl <;> decide

end Go.Proofs.Ytlndaflhlkbedaa

/- The world moved on by draws alone: a word for contracts of functions that only read. -/
namespace Go.Proofs.Ytlndaflhlkbedaa
open Go.RowKit
set_option linter.unusedVariables false

def Drawn (w w' : World) : Prop := ∃ m, w' = w.drewN m
theorem Drawn.refl (w : World) : Drawn w w := ⟨0, rfl⟩
theorem Drawn.trans {a b c : World} (h : Drawn a b) (k : Drawn b c) : Drawn a c := by
  obtain ⟨m, rfl⟩ := h
  obtain ⟨n, rfl⟩ := k
  exact ⟨m + n, by rw [World.drewN_drewN]⟩
theorem Drawn.drewN {a b : World} (h : Drawn a b) (n : Nat) : Drawn a (b.drewN n) := h.trans ⟨n, rfl⟩
theorem Drawn.drew {a b : World} (h : Drawn a b) : Drawn a b.drew := h.drewN 1
theorem Drawn.heap {a b : World} (h : Drawn a b) : b.heap = a.heap := by obtain ⟨m, rfl⟩ := h; rfl
theorem Drawn.cell {a b : World} (h : Drawn a b) (p : Addr) : b.cell? p = a.cell? p := by obtain ⟨m, rfl⟩ := h; rfl
theorem Drawn.below {B : Nat} {a b c : World} (h : Below B a b) (k : Drawn b c) : Below B a c := by
  obtain ⟨m, rfl⟩ := k
  exact ⟨h.os, h.tape, h.output, h.size, h.block⟩
theorem Drawn.toBelow {B : Nat} {a b : World} (k : Drawn a b) : Below B a b := Drawn.below (Below.refl _ _) k
theorem below_drewN {B : Nat} {a w : World} (h : Below B a w) (n : Nat) : Below B a (w.drewN n) := ⟨h.os, h.tape, h.output, h.size, h.block⟩

/-- a contract met inside a region that draws: the callee leaves the world -/
theorem quiet_same {P : Program} {f : FuncId} {args : Array Value} {w : World} {n : Nat} {v : Value}
    (h : Calls P f args (w.drewN n) fun e w' => e = .returned v ∧ w.drewN n = w') : Calls P f args (w.drewN n) fun e w'' => e = .returned v ∧ ∃ m, w'' = w.drewN m :=
  h.mono fun _ _ ⟨he, hm⟩ => ⟨he, n, hm.symm⟩
/-- .. the callee draws -/
theorem quiet_drawn {P : Program} {f : FuncId} {args : Array Value} {w : World} {n : Nat} {v : Value}
    (h : Calls P f args (w.drewN n) fun e w' => e = .returned v ∧ Drawn (w.drewN n) w') : Calls P f args (w.drewN n) fun e w'' => e = .returned v ∧ ∃ m, w'' = w.drewN m :=
  h.mono fun _ _ ⟨he, m, hm⟩ => ⟨he, n + m, by rw [hm, World.drewN_drewN]⟩

/-- the builtins min and max, as the walk spells them -/
theorem min_if (a b : Int) : (if b < a then b else a) = min a b := by rw [Int.min_def]; split <;> split <;> omega
theorem max_if (a b : Int) : (if a < b then b else a) = max a b := by rw [Int.max_def]; split <;> split <;> omega

end Go.Proofs.Ytlndaflhlkbedaa

/- Plain mathematics of chapter 3: lists of nodes (label, depth), and how a slice of them lies in memory. -/
namespace Go.Proofs.Ytlndaflhlkbedaa
open Go.RowKit
set_option linter.unusedVariables false

/-- a tree as a list of (label, depth) -/
abbrev Tr := List (Int × Int)
def Tr.l (xs : Tr) (k : Nat) : Int := (xs.getD k (0, 0)).1
def Tr.d (xs : Tr) (k : Nat) : Int := (xs.getD k (0, 0)).2
/-- all numbers are ints of 64 bits -/
def Tr.wf (xs : Tr) : Prop := ∀ k : Nat, (-9223372036854775808 ≤ Tr.l xs k ∧ Tr.l xs k ≤ 9223372036854775807) ∧ -9223372036854775808 ≤ Tr.d xs k ∧ Tr.d xs k ≤ 9223372036854775807

def Tr.okAt (xs : Tr) (k : Nat) : Bool :=
  decide ((0 ≤ Tr.l xs k ∧ Tr.l xs k ≤ 5) ∧ (0 ≤ Tr.d xs k ∧ Tr.d xs k ≤ 12) ∧ (Tr.d xs k = 0 ↔ k = 0) ∧ (k = 0 ∨ Tr.d xs k ≤ Tr.d xs (k - 1) + 1))
/-- the first k nodes stand right -/
def Tr.okTo (xs : Tr) (k : Nat) : Prop := ∀ j : Nat, j < k → Tr.okAt xs j = true
def Tr.ok (xs : Tr) : Bool := (List.range xs.length).all (Tr.okAt xs) && decide (1 ≤ xs.length ∧ xs.length ≤ 24)
def Tr.has (xs : Tr) (i : Int) : Bool := Tr.ok xs && decide (0 ≤ i ∧ i < xs.length)

theorem Tr.okTo_succ {xs : Tr} {k : Nat} (h : Tr.okTo xs k) (hk : Tr.okAt xs k = true) : Tr.okTo xs (k + 1) := fun j hj => by
  rcases Nat.lt_succ_iff_lt_or_eq.1 hj with h' | rfl
  · exact h j h'
  · exact hk
theorem Tr.okTo_at {xs : Tr} {k j : Nat} (h : Tr.okTo xs k) (hj : j < k) : (0 ≤ Tr.l xs j ∧ Tr.l xs j ≤ 5) ∧ (0 ≤ Tr.d xs j ∧ Tr.d xs j ≤ 12) ∧ (Tr.d xs j = 0 ↔ j = 0) ∧ (j = 0 ∨ Tr.d xs j ≤ Tr.d xs (j - 1) + 1) := by
  simpa [Tr.okAt] using h j hj
theorem Tr.ok_iff {xs : Tr} : Tr.ok xs = true ↔ Tr.okTo xs xs.length ∧ 1 ≤ xs.length ∧ xs.length ≤ 24 := by
  simp [Tr.ok, Tr.okTo]
theorem Tr.not_ok {xs : Tr} {k : Nat} (hk : k < xs.length) (h : Tr.okAt xs k = false) : Tr.ok xs = false := by
  rw [Bool.eq_false_iff]
  intro e
  have := (Tr.ok_iff.1 e).1 k hk
  rw [h] at this
  cases this
theorem Tr.ok_size {xs : Tr} (h : Tr.okTo xs xs.length) : Tr.ok xs = decide (1 ≤ xs.length ∧ xs.length ≤ 24) := by
  rw [Bool.eq_iff_iff, Tr.ok_iff]
  simp [h]

/-- the place behind the last node under i -/
def Tr.endN (xs : Tr) (i : Nat) : Nat := i + 1 + ((xs.drop (i + 1)).takeWhile (fun x => decide (Tr.d xs i < x.2))).length
def Tr.endOf (xs : Tr) (i : Int) : Int := if Tr.has xs i then Tr.endN xs i.toNat else -1

theorem takeWhile_len {α : Type} (p : α → Bool) (l : List α) (n : Nat) (hn : n ≤ l.length) (h1 : ∀ j (h : j < l.length), j < n → p l[j] = true) (h2 : ∀ h : n < l.length, p l[n] = false) :
    (l.takeWhile p).length = n := by
  induction l generalizing n with
  | nil => simp at hn; simp [hn]
  | cons a l ih =>
    cases n with
    | zero =>
      have := h2 (by simp)
      simp at this
      simp [this]
    | succ n =>
      have ha := h1 0 (by simp) (by omega)
      simp at ha
      simp [ha]
      refine ih n (by simpa using hn) (fun j h hj => ?_) (fun h => ?_)
      · exact h1 (j + 1) (by simpa using h) (by omega)
      · exact h2 (by simpa using h)

theorem Tr.endN_is {xs : Tr} {i k : Nat} (hi : i < k) (hk : k ≤ xs.length) (h1 : ∀ j, i < j → j < k → Tr.d xs i < Tr.d xs j) (h2 : k = xs.length ∨ Tr.d xs k ≤ Tr.d xs i) : Tr.endN xs i = k := by
  unfold Tr.endN
  rw [takeWhile_len _ _ (k - (i + 1)) (by simp; omega)]
  · omega
  · intro j h hj
    have := h1 (i + 1 + j) (by omega) (by omega)
    simp at h
    simp [Tr.d, List.getD_eq_getElem?_getD, show i + 1 + j < xs.length by omega] at this ⊢
    exact this
  · intro h
    simp at h
    rcases h2 with h2 | h2
    · omega
    · simp [Tr.d, List.getD_eq_getElem?_getD, show k < xs.length by omega] at h2 ⊢
      simpa [show i + 1 + (k - (i + 1)) = k by omega] using h2

/-- there is such a place -/
theorem Tr.end_ex (xs : Tr) (i : Nat) (hi : i < xs.length) : ∃ k, i < k ∧ k ≤ xs.length ∧ (∀ j, i < j → j < k → Tr.d xs i < Tr.d xs j) ∧ (k = xs.length ∨ Tr.d xs k ≤ Tr.d xs i) := by
  have H : ∀ f k, xs.length - k = f → i < k → k ≤ xs.length → (∀ j, i < j → j < k → Tr.d xs i < Tr.d xs j) →
      ∃ k, i < k ∧ k ≤ xs.length ∧ (∀ j, i < j → j < k → Tr.d xs i < Tr.d xs j) ∧ (k = xs.length ∨ Tr.d xs k ≤ Tr.d xs i) := by
    intro f
    induction f with
    | zero => intro k hf h1 h2 h3; exact ⟨k, h1, h2, h3, .inl (by omega)⟩
    | succ f ih =>
      intro k hf h1 h2 h3
      by_cases h : Tr.d xs k ≤ Tr.d xs i
      · exact ⟨k, h1, h2, h3, .inr h⟩
      · refine ih (k + 1) (by omega) (by omega) (by omega) (fun j hj hj' => ?_)
        rcases Nat.lt_succ_iff_lt_or_eq.1 hj' with h' | rfl
        · exact h3 j hj h'
        · omega
  exact H _ (i + 1) rfl (by omega) (by omega) (fun j h1 h2 => by omega)
theorem Tr.endN_spec (xs : Tr) (i : Nat) (hi : i < xs.length) : i < Tr.endN xs i ∧ Tr.endN xs i ≤ xs.length ∧ (∀ j, i < j → j < Tr.endN xs i → Tr.d xs i < Tr.d xs j) ∧ (Tr.endN xs i = xs.length ∨ Tr.d xs (Tr.endN xs i) ≤ Tr.d xs i) := by
  obtain ⟨k, h1, h2, h3, h4⟩ := Tr.end_ex xs i hi
  rw [Tr.endN_is h1 h2 h3 h4]
  exact ⟨h1, h2, h3, h4⟩

/-- the nearest node ahead of k of a depth below dep, or -1 -/
def Tr.back (xs : Tr) (dep : Int) : Nat → Int
  | 0 => -1
  | k + 1 => if Tr.d xs k < dep then k else Tr.back xs dep k
def Tr.parentOf (xs : Tr) (i : Int) : Int := if Tr.has xs i then Tr.back xs (Tr.d xs i.toNat) i.toNat else -1

/-- the nodes under i ahead of k that stand one deeper -/
def Tr.kidsTo (xs : Tr) (i k : Nat) : List Nat := (List.range k).filter fun j => decide (i < j) && decide (Tr.d xs j = Tr.d xs i + 1)
def Tr.kidsOf (xs : Tr) (i : Int) : List Nat := if Tr.has xs i then Tr.kidsTo xs i.toNat (Tr.endN xs i.toNat) else []
theorem Tr.kidsTo_succ (xs : Tr) (i k : Nat) (hk : i < k) : Tr.kidsTo xs i (k + 1) = if Tr.d xs k = Tr.d xs i + 1 then Tr.kidsTo xs i k ++ [k] else Tr.kidsTo xs i k := by
  unfold Tr.kidsTo
  rw [List.range_succ, List.filter_append]
  by_cases h : Tr.d xs k = Tr.d xs i + 1 <;> simp [hk, h]
theorem Tr.kidsTo_start (xs : Tr) (i : Nat) : Tr.kidsTo xs i (i + 1) = [] := by
  unfold Tr.kidsTo
  rw [List.filter_eq_nil_iff]
  intro j hj
  simp at hj ⊢
  omega
theorem Tr.kidsTo_le (xs : Tr) (i k : Nat) : (Tr.kidsTo xs i k).length ≤ k := by
  have := List.length_filter_le (fun j => decide (i < j) && decide (Tr.d xs j = Tr.d xs i + 1)) (List.range k)
  simpa [Tr.kidsTo] using this

/-- nodes from i up to k, depths from that of i -/
def Tr.subTo (xs : Tr) (i k : Nat) : Tr := (List.range (k - i)).map fun j => (Tr.l xs (i + j), Tr.d xs (i + j) - Tr.d xs i)
def Tr.subTree (xs : Tr) (i : Int) : Tr := if Tr.has xs i then Tr.subTo xs i.toNat (Tr.endN xs i.toNat) else []
theorem Tr.subTo_succ (xs : Tr) (i k : Nat) (hk : i ≤ k) : Tr.subTo xs i (k + 1) = Tr.subTo xs i k ++ [(Tr.l xs k, Tr.d xs k - Tr.d xs i)] := by
  unfold Tr.subTo
  rw [show k + 1 - i = (k - i) + 1 by omega, List.range_succ, List.map_append]
  simp [show i + (k - i) = k by omega]
theorem Tr.subTo_length (xs : Tr) (i k : Nat) : (Tr.subTo xs i k).length = k - i := by simp [Tr.subTo]

/-- the greatest depth plus one of the first k nodes -/
def Tr.heightTo (xs : Tr) : Nat → Int
  | 0 => 0
  | k + 1 => max (Tr.heightTo xs k) (Tr.d xs k + 1)
def Tr.heightOf (xs : Tr) : Int := if Tr.ok xs then Tr.heightTo xs xs.length else 0

/-- how many of the first k nodes have nothing under them -/
def Tr.leavesTo (xs : Tr) : Nat → Nat
  | 0 => 0
  | k + 1 => if Tr.endN xs k = k + 1 then Tr.leavesTo xs k + 1 else Tr.leavesTo xs k
def Tr.leavesOf (xs : Tr) : Int := if Tr.ok xs then (Tr.leavesTo xs xs.length : Nat) else 0
theorem Tr.leavesTo_succ (xs : Tr) (k : Nat) : Tr.leavesTo xs (k + 1) = if Tr.endN xs k = k + 1 then Tr.leavesTo xs k + 1 else Tr.leavesTo xs k := rfl
theorem Tr.leavesTo_le (xs : Tr) (k : Nat) : Tr.leavesTo xs k ≤ k := by
  induction k with
  | zero => simp [Tr.leavesTo]
  | succ k ih => unfold Tr.leavesTo; split <;> omega
theorem Tr.leaf_iff {xs : Tr} {k : Nat} (hk : k + 1 < xs.length) : Tr.endN xs k = k + 1 ↔ Tr.d xs (k + 1) ≤ Tr.d xs k := by
  constructor
  · intro h
    have := (Tr.endN_spec xs k (by omega)).2.2.2
    rw [h] at this
    rcases this with h | h
    · omega
    · exact h
  · intro h
    exact Tr.endN_is (by omega) (by omega) (fun j _ _ => by omega) (.inr h)
theorem Tr.leaf_last {xs : Tr} {k : Nat} (hk : k + 1 = xs.length) : Tr.endN xs k = k + 1 :=
  Tr.endN_is (by omega) (by omega) (fun j _ _ => by omega) (.inl hk)

theorem Tr.has_iff {xs : Tr} {i : Int} : Tr.has xs i = true ↔ Tr.ok xs = true ∧ 0 ≤ i ∧ i < xs.length := by simp [Tr.has]
theorem Tr.ok_at {xs : Tr} (h : Tr.ok xs = true) {k : Nat} (hk : k < xs.length) : (0 ≤ Tr.l xs k ∧ Tr.l xs k ≤ 5) ∧ (0 ≤ Tr.d xs k ∧ Tr.d xs k ≤ 12) ∧ (Tr.d xs k = 0 ↔ k = 0) ∧ (k = 0 ∨ Tr.d xs k ≤ Tr.d xs (k - 1) + 1) := by
  have := (Tr.ok_iff.1 h).1 k hk
  simpa [Tr.okAt] using this

theorem Tr.ext {xs ys : Tr} (hl : xs.length = ys.length) (h : ∀ k, k < xs.length → Tr.l xs k = Tr.l ys k ∧ Tr.d xs k = Tr.d ys k) : xs = ys := by
  refine List.ext_getElem hl fun k h1 h2 => ?_
  have := h k h1
  simp [Tr.l, Tr.d, List.getD_eq_getElem?_getD, h1, h2] at this
  exact Prod.ext this.1 this.2

/-! memory -/

/-- the cells of a list of nodes -/
def Tr.cells (xs : Tr) : List Value := xs.flatMap fun x => [.int .i64 x.1, .int .i64 x.2]
theorem Tr.cells_length (xs : Tr) : (Tr.cells xs).length = xs.length * 2 := by
  induction xs with
  | nil => rfl
  | cons a l ih => simp [Tr.cells] at ih ⊢; omega
theorem Tr.cells_append (xs ys : Tr) : Tr.cells (xs ++ ys) = Tr.cells xs ++ Tr.cells ys := by simp [Tr.cells]
theorem Tr.cells_even (xs : Tr) (k : Nat) (hk : k < xs.length) : (Tr.cells xs)[k * 2]? = some (.int .i64 (Tr.l xs k)) := by
  induction xs generalizing k with
  | nil => simp at hk
  | cons a l ih =>
    cases k with
    | zero => simp [Tr.cells, Tr.l]
    | succ k =>
      have := ih k (by simpa using hk)
      simp only [Tr.cells, Tr.l] at this ⊢
      simpa [show (k + 1) * 2 = k * 2 + 1 + 1 by omega] using this
theorem Tr.cells_odd (xs : Tr) (k : Nat) (hk : k < xs.length) : (Tr.cells xs)[k * 2 + 1]? = some (.int .i64 (Tr.d xs k)) := by
  induction xs generalizing k with
  | nil => simp at hk
  | cons a l ih =>
    cases k with
    | zero => simp [Tr.cells, Tr.d]
    | succ k =>
      have := ih k (by simpa using hk)
      simp only [Tr.cells, Tr.d] at this ⊢
      simpa [show (k + 1) * 2 + 1 = k * 2 + 1 + 1 + 1 by omega] using this

theorem Tr.cells_set (xs : Tr) (k : Nat) (a b : Int) : ((Tr.cells xs).set (k * 2) (.int .i64 a)).set (k * 2 + 1) (.int .i64 b) = Tr.cells (xs.set k (a, b)) := by
  induction xs generalizing k with
  | nil => simp [Tr.cells]
  | cons x l ih =>
    cases k with
    | zero => simp [Tr.cells]
    | succ k =>
      have := ih k
      simp only [Tr.cells] at this ⊢
      simpa [show (k + 1) * 2 = k * 2 + 1 + 1 by omega] using this

/-- the slice (A, n) reads as the nodes xs, in blocks below B -/
def NdIn (w : World) (B : Nat) (A : Option Addr) (n : Nat) (xs : Tr) : Prop :=
  xs.length = n ∧ (0 < n → ∃ ad, A = some ad ∧ ad.block < B) ∧
  ∀ ad, A = some ad → ∀ k, k < n → w.cell? (ad.add (k * 2)) = some (.int .i64 (Tr.l xs k)) ∧ w.cell? (ad.add (k * 2 + 1)) = some (.int .i64 (Tr.d xs k))

theorem block_of_add (a : Addr) (n : Nat) : (a.add n).block = a.block := by unfold Addr.add; split <;> rfl
theorem add_of_add (a : Addr) (i j : Nat) : (a.add i).add j = a.add (i + j) := by
  unfold Addr.add
  by_cases hi : i = 0 <;> by_cases hj : j = 0 <;> simp [hi, hj, Nat.add_assoc]

/-- a field's address, as the walk spells it -/
theorem add_fld (a : Addr) (i j : Nat) (hj : 0 < j) : a.add (i + j) = ⟨(a.add i).block, (a.add i).off + j, none⟩ := by
  rw [← add_of_add]
  show (if j = 0 then a.add i else _) = _
  rw [if_neg (by omega)]

section
variable {w w' : World} {B B' n : Nat} {A : Option Addr} {xs : Tr}
theorem NdIn.keep (h : NdIn w B A n xs) (hk : ∀ p : Addr, p.block < B → w'.cell? p = w.cell? p) : NdIn w' B A n xs := by
  refine ⟨h.1, h.2.1, fun ad e k hkn => ?_⟩
  obtain ⟨ad', e', hb⟩ := h.2.1 (by omega)
  obtain rfl : ad' = ad := by rw [e'] at e; injection e
  have := h.2.2 _ e k hkn
  rw [hk _ (by rw [block_of_add]; exact hb), hk _ (by rw [block_of_add]; exact hb)]
  exact this
theorem NdIn.more (h : NdIn w B A n xs) (hB : B ≤ B') : NdIn w B' A n xs :=
  ⟨h.1, fun hn => by obtain ⟨ad, e, hb⟩ := h.2.1 hn; exact ⟨ad, e, by omega⟩, h.2.2⟩
theorem NdIn.below (h : NdIn w B A n xs) (hb : Below B w w') : NdIn w' B A n xs := h.keep fun _ hp => hb.cell hp
theorem NdIn.to_below (h : NdIn w w.heap.size A n xs) (hb : Below w.heap.size w w') : NdIn w' w'.heap.size A n xs := (h.below hb).more hb.size
theorem NdIn.to_drawn (h : NdIn w w.heap.size A n xs) (hb : Drawn w w') : NdIn w' w'.heap.size A n xs := h.to_below hb.toBelow
theorem NdIn.drew (h : NdIn w B A n xs) : NdIn w.drew B A n xs := h
theorem NdIn.drawn (h : NdIn w B A n xs) (k : Drawn w w') : NdIn w' B A n xs := by obtain ⟨m, rfl⟩ := k; exact h
theorem NdIn.drewN (h : NdIn w B A n xs) (k : Nat) : NdIn (w.drewN k) B A n xs := h
theorem NdIn.alloc (h : NdIn w B A n xs) (hB : B ≤ w.heap.size) (o : Obj) : NdIn (w.alloc o) B A n xs := h.keep fun p hp => World.cell?_alloc_lt w o p (by omega)
theorem NdIn.setCell (h : NdIn w B A n xs) {p : Addr} (hB : B ≤ p.block) (u : Value) : NdIn (w.setCell p u) B A n xs :=
  h.keep fun q hq => World.cell?_setCell_other w p q u (fun e => by subst e; omega)
theorem NdIn.grown (h : NdIn w B A n xs) {row : Option Nat} (hg : w.grownBy w' row) (hB : B ≤ w.heap.size) (hr : ∀ g, row = some g → B ≤ g) : NdIn w' B A n xs :=
  h.keep fun p hp => World.cell?_of_block (hg.block p.block (by omega) (fun e => by have := hr _ e.symm; omega))
theorem NdIn.here {ad : Addr} (h : NdIn w B (some ad) n xs) {k : Nat} (hk : k < n) : w.cell? (ad.add (k * 2)) = some (.int .i64 (Tr.l xs k)) ∧ w.cell? ⟨(ad.add (k * 2)).block, (ad.add (k * 2)).off + 1, none⟩ = some (.int .i64 (Tr.d xs k)) := by
  have := h.2.2 ad rfl k hk
  rw [add_fld ad (k * 2) 1 (by omega)] at this
  exact this
theorem NdIn.at_ (h : NdIn w B A n xs) {k : Nat} (hk : k < n) : ∃ ad, A = some ad ∧ ad.block < B ∧ w.cell? (ad.add (k * 2)) = some (.int .i64 (Tr.l xs k)) ∧ w.cell? ⟨(ad.add (k * 2)).block, (ad.add (k * 2)).off + 1, none⟩ = some (.int .i64 (Tr.d xs k)) := by
  obtain ⟨ad, rfl, hb⟩ := h.2.1 (by omega)
  exact ⟨ad, rfl, hb, h.here hk⟩
theorem NdIn.of_own {base : Nat} {e : TypeId} {c : Nat} (h : w.ownsRow base e 2 (.slice A n c) n (Tr.cells xs)) : NdIn w w.heap.size A n xs := by
  have hlen : xs.length = n := by have := h.1; rw [Tr.cells_length] at this; omega
  have hb : 0 < n → ∃ g cap, Value.slice A n c = .slice (some ⟨g, 0, none⟩) n cap ∧ base ≤ g ∧ g < w.heap.size := by
    intro hn
    rcases h.2 with ⟨_, h0⟩ | ⟨g, cap, cur, hv, hg, hh, _⟩
    · omega
    · refine ⟨g, cap, hv, hg, ?_⟩
      rcases Nat.lt_or_ge g w.heap.size with hlt | hge
      · exact hlt
      · rw [Array.getElem?_eq_none hge] at hh; cases hh
  refine ⟨hlen, fun hn => ?_, fun ad e k hk => ?_⟩
  · obtain ⟨g, cap, hv, _, hlt⟩ := hb hn
    obtain rfl : A = some ⟨g, 0, none⟩ := by injection hv
    exact ⟨_, rfl, hlt⟩
  · obtain ⟨g, cap, hv, _, hlt⟩ := hb (by omega)
    obtain rfl : A = some ⟨g, 0, none⟩ := by injection hv
    obtain rfl : (⟨g, 0, none⟩ : Addr) = ad := by injection e
    exact ⟨h.cells rfl _ _ (Tr.cells_even xs k (by omega)), h.cells rfl _ _ (Tr.cells_odd xs k (by omega))⟩
end

section
variable {w w' : World} {base n g cap : Nat} {e : TypeId} {xs : Tr}
/-- a row of the call's own behind a call that makes memory -/
theorem own_below {size : Nat} {v : Value} {ys : List Value} (h : w.ownsRow base e size v n ys) (hb : Below w.heap.size w w') : w'.ownsRow base e size v n ys := by
  refine h.kept (row := none) ⟨hb.os, hb.tape, hb.output, hb.size, fun k hk _ => hb.block k hk⟩ ?_
  rcases v.ownBlock with _ | g <;> simp
theorem own_even (h : w.ownsRow base e 2 (.slice (some ⟨g, 0, none⟩) n cap) n (Tr.cells xs)) {k : Nat} (hk : k < xs.length) : w.cell? ⟨g, k * 2, none⟩ = some (.int .i64 (Tr.l xs k)) := by
  have := h.1
  rw [Tr.cells_length] at this
  rw [h.cellAt _ (by omega), Tr.cells_even _ _ hk]
theorem own_odd (h : w.ownsRow base e 2 (.slice (some ⟨g, 0, none⟩) n cap) n (Tr.cells xs)) {k : Nat} (hk : k < xs.length) : w.cell? ⟨g, k * 2 + 1, none⟩ = some (.int .i64 (Tr.d xs k)) := by
  have := h.1
  rw [Tr.cells_length] at this
  rw [h.cellAt _ (by omega), Tr.cells_odd _ _ hk]
theorem own_set (h : w.ownsRow base e 2 (.slice (some ⟨g, 0, none⟩) n cap) n (Tr.cells xs)) (k : Nat) (a b : Int) :
    ((w.setCell ⟨g, k * 2, none⟩ (.int .i64 a)).setCell ⟨g, k * 2 + 1, none⟩ (.int .i64 b)).ownsRow base e 2 (.slice (some ⟨g, 0, none⟩) n cap) n (Tr.cells (xs.set k (a, b))) := by
  rw [← Tr.cells_set]
  exact ((h.stored _ _).1.stored _ _).1
end

end Go.Proofs.Ytlndaflhlkbedaa

/- Contracts (Pst). -/
namespace Go.Proofs.Ytlndaflhlkbedaa
open Go.RowKit
set_option linter.unusedVariables false

/-! Postorder of a right tree, as plain mathematics. dn: the depth as a number; rk: a node's place in postorder, endN - 1 - dn; the place of its first leaf is i - dn i. -/
def Tr.dn (xs : Tr) (i : Nat) : Nat := (Tr.d xs i).toNat
section
variable {xs : Tr} (h : Tr.ok xs = true)
include h
theorem Tr.dn_eq {i : Nat} (hi : i < xs.length) : (Tr.dn xs i : Int) = Tr.d xs i := by
  have := (Tr.ok_at h hi).2.1
  unfold Tr.dn
  omega
theorem Tr.dn_zero : Tr.dn xs 0 = 0 := by
  have h0 := (Tr.ok_iff.1 h).2
  have h1 := (Tr.ok_at h (k := 0) (by omega)).2.2.1
  have h2 := Tr.dn_eq h (i := 0) (by omega)
  omega
theorem Tr.dn_succ {i : Nat} (hi : i + 1 < xs.length) : 1 ≤ Tr.dn xs (i + 1) ∧ Tr.dn xs (i + 1) ≤ Tr.dn xs i + 1 := by
  have h1 := Tr.ok_at h hi
  have h2 := Tr.dn_eq h hi
  have h3 := Tr.dn_eq h (i := i) (by omega)
  have h4 := h1.2.2.2
  rw [show i + 1 - 1 = i by omega] at h4
  omega
theorem Tr.gap_mono {i j : Nat} (hij : i ≤ j) (hj : j < xs.length) : i + Tr.dn xs j ≤ j + Tr.dn xs i := by
  induction j with
  | zero => obtain rfl : i = 0 := by omega
            omega
  | succ j ih =>
    by_cases e : i = j + 1
    · subst e; omega
    · have := ih (by omega) (by omega)
      have := (Tr.dn_succ h hj).2
      omega
theorem Tr.dn_le {i : Nat} (hi : i < xs.length) : Tr.dn xs i ≤ i := by
  have := Tr.gap_mono h (Nat.zero_le i) hi
  have := Tr.dn_zero h
  omega
/-- endN, with depths as numbers -/
theorem Tr.endN_dn {i : Nat} (hi : i < xs.length) : i < Tr.endN xs i ∧ Tr.endN xs i ≤ xs.length ∧ (∀ j, i < j → j < Tr.endN xs i → Tr.dn xs i < Tr.dn xs j) ∧ (Tr.endN xs i = xs.length ∨ (Tr.endN xs i < xs.length ∧ Tr.dn xs (Tr.endN xs i) ≤ Tr.dn xs i)) := by
  obtain ⟨h1, h2, h3, h4⟩ := Tr.endN_spec xs i hi
  refine ⟨h1, h2, fun j a b => ?_, ?_⟩
  · have := h3 j a b
    have := Tr.dn_eq h hi
    have := Tr.dn_eq h (i := j) (by omega)
    omega
  · rcases h4 with h4 | h4
    · exact .inl h4
    · by_cases e : Tr.endN xs i = xs.length
      · exact .inl e
      · have := Tr.dn_eq h hi
        have := Tr.dn_eq h (i := Tr.endN xs i) (by omega)
        exact .inr ⟨by omega, by omega⟩
theorem Tr.endN_in {i j : Nat} (hi : i < xs.length) (hij : i < j) (hj : j < Tr.endN xs i) : Tr.endN xs j ≤ Tr.endN xs i := by
  obtain ⟨a1, a2, a3, a4⟩ := Tr.endN_dn h hi
  obtain ⟨b1, b2, b3, b4⟩ := Tr.endN_dn h (i := j) (by omega)
  by_cases e : Tr.endN xs j ≤ Tr.endN xs i
  · exact e
  · have c1 := a3 j hij hj
    have c2 := b3 (Tr.endN xs i) hj (by omega)
    omega
end
def Tr.rk (xs : Tr) (i : Nat) : Nat := Tr.endN xs i - 1 - Tr.dn xs i
section
variable {xs : Tr} (h : Tr.ok xs = true)
include h
theorem Tr.rk_ge {i j : Nat} (hij : i ≤ j) (hj : j < xs.length) : i - Tr.dn xs i ≤ Tr.rk xs j := by
  have := Tr.gap_mono h hij hj
  have := Tr.dn_le h hj
  have := Tr.dn_le h (i := i) (by omega)
  have := (Tr.endN_dn h hj).1
  unfold Tr.rk
  omega
theorem Tr.rk_lt {i : Nat} (hi : i < xs.length) : Tr.rk xs i < xs.length := by
  have := Tr.endN_dn h hi
  unfold Tr.rk
  omega
theorem Tr.rk_under {i j : Nat} (hi : i < xs.length) (hij : i < j) (hj : j < Tr.endN xs i) : Tr.rk xs j < Tr.rk xs i := by
  have a := Tr.endN_dn h hi
  have b := Tr.endN_in h hi hij hj
  have c := a.2.2.1 j hij hj
  have d := Tr.dn_le h (i := j) (by omega)
  have e := (Tr.endN_dn h (i := j) (by omega)).1
  unfold Tr.rk
  omega
theorem Tr.rk_left {i j : Nat} (hi : i < xs.length) (hij : Tr.endN xs i ≤ j) (hj : j < xs.length) : Tr.rk xs i < Tr.rk xs j := by
  have a := Tr.endN_dn h hi
  have b := Tr.gap_mono h hij hj
  have c := Tr.dn_le h hj
  have d := Tr.dn_le h hi
  have e := (Tr.endN_dn h hj).1
  unfold Tr.rk
  omega
theorem Tr.rk_inj {i j : Nat} (hi : i < xs.length) (hj : j < xs.length) (e : Tr.rk xs i = Tr.rk xs j) : i = j := by
  rcases Nat.lt_trichotomy i j with hij | hij | hij
  · by_cases hu : j < Tr.endN xs i
    · have := Tr.rk_under h hi hij hu; omega
    · have := Tr.rk_left h hi (show Tr.endN xs i ≤ j by omega) hj; omega
  · exact hij
  · by_cases hu : i < Tr.endN xs j
    · have := Tr.rk_under h hj hij hu; omega
    · have := Tr.rk_left h hj (show Tr.endN xs j ≤ i by omega) hi; omega
end
/-- the subtree of i in postorder, by kids; the fuel is at least the number of nodes under i -/
def Tr.postF (xs : Tr) : Nat → Nat → List Nat
  | 0, i => [i]
  | f + 1, i => (Tr.kidsTo xs i (Tr.endN xs i)).flatMap (Tr.postF xs f) ++ [i]
/-- up to place k of the children's row of i, a kid stands next (or none is left) -/
def Tr.bound (xs : Tr) (i k : Nat) : Prop := i < k ∧ k ≤ Tr.endN xs i ∧ (k < Tr.endN xs i → Tr.dn xs k = Tr.dn xs i + 1)
section
variable {xs : Tr} (h : Tr.ok xs = true)
include h
theorem Tr.bound_start {i : Nat} (hi : i < xs.length) : Tr.bound xs i (i + 1) := by
  have a := Tr.endN_dn h hi
  refine ⟨by omega, by omega, fun hk => ?_⟩
  have := a.2.2.1 (i + 1) (by omega) hk
  have := Tr.dn_succ h (i := i) (by omega)
  omega
theorem Tr.bound_next {i k : Nat} (hi : i < xs.length) (hb : Tr.bound xs i k) (hk : k < Tr.endN xs i) : Tr.bound xs i (Tr.endN xs k) ∧ k < Tr.endN xs k := by
  have a := Tr.endN_dn h hi
  have b := Tr.endN_dn h (i := k) (by omega)
  have c := Tr.endN_in h hi hb.1 hk
  have d := hb.2.2 hk
  have b1 := b.1
  have b4 := b.2.2.2
  have hb1 := hb.1
  refine ⟨⟨by omega, c, fun e => ?_⟩, b.1⟩
  have := a.2.2.1 (Tr.endN xs k) (by omega) e
  omega
theorem Tr.kids_in {i k m : Nat} (hi : i < xs.length) (hb : Tr.bound xs i k) (hk : k < Tr.endN xs i) (hm : k < m) (hm2 : m ≤ Tr.endN xs k) : Tr.kidsTo xs i m = Tr.kidsTo xs i k ++ [k] := by
  have a := Tr.endN_dn h hi
  have b := Tr.endN_dn h (i := k) (by omega)
  induction m with
  | zero => omega
  | succ m ih =>
    have e1 := Tr.dn_eq h hi
    rw [Tr.kidsTo_succ xs i m (by have := hb.1; omega)]
    by_cases e : m = k
    · subst e
      have e2 := Tr.dn_eq h (i := m) (by omega)
      have := hb.2.2 hk
      rw [if_pos (by omega)]
    · have e2 := Tr.dn_eq h (i := m) (by omega)
      have e3 := b.2.2.1 m (by omega) (by omega)
      have := hb.2.2 hk
      rw [if_neg (by omega)]
      exact ih (by omega) (by omega)
theorem Tr.postF_spec (f : Nat) : ∀ i, i < xs.length → Tr.endN xs i - i ≤ f + 1 →
    (Tr.postF xs f i).length = Tr.endN xs i - i ∧ ∀ j, i ≤ j → j < Tr.endN xs i → (Tr.postF xs f i)[Tr.rk xs j - (i - Tr.dn xs i)]? = some j := by
  induction f with
  | zero =>
    intro i hi hf
    have a := Tr.endN_dn h hi
    refine ⟨by simp [Tr.postF]; omega, fun j h1 h2 => ?_⟩
    obtain rfl : j = i := by omega
    have : Tr.rk xs j - (j - Tr.dn xs j) = 0 := by
      have := Tr.dn_le h hi
      unfold Tr.rk; omega
    rw [this]; rfl
  | succ f ih =>
    intro i hi hf
    have a := Tr.endN_dn h hi
    have hdi := Tr.dn_le h hi
    have key : ∀ r k, Tr.endN xs i - k = r → Tr.bound xs i k →
        (((Tr.kidsTo xs i k).flatMap (Tr.postF xs f)).length = k - (i + 1) ∧ ∀ j, i < j → j < k → ((Tr.kidsTo xs i k).flatMap (Tr.postF xs f))[Tr.rk xs j - (i - Tr.dn xs i)]? = some j) →
        ((Tr.kidsTo xs i (Tr.endN xs i)).flatMap (Tr.postF xs f)).length = Tr.endN xs i - (i + 1) ∧ ∀ j, i < j → j < Tr.endN xs i → ((Tr.kidsTo xs i (Tr.endN xs i)).flatMap (Tr.postF xs f))[Tr.rk xs j - (i - Tr.dn xs i)]? = some j := by
      intro r
      induction r using Nat.strongRecOn with
      | ind r ihr =>
        intro k hr hb hk
        by_cases e : k = Tr.endN xs i
        · rw [← e]; exact hk
        · have hki : k < Tr.endN xs i := by have := hb.2.1; omega
          obtain ⟨hb', hlt⟩ := Tr.bound_next h hi hb hki
          have hkn : k < xs.length := by omega
          have hdk := hb.2.2 hki
          have hdk2 := Tr.dn_le h hkn
          have hik := hb.1
          have hsub := hb'.2.1
          obtain ⟨s1, s2⟩ := ih k hkn (by omega)
          refine ihr _ ?_ _ rfl hb' ?_
          · omega
          · rw [Tr.kids_in h hi hb hki hlt (Nat.le_refl _), List.flatMap_append]
            simp only [List.flatMap_cons, List.flatMap_nil, List.append_nil]
            refine ⟨by rw [List.length_append, hk.1, s1]; omega, fun j h1 h2 => ?_⟩
            by_cases hjk : j < k
            · have hc := hk.2 j h1 hjk
              have hlen := (List.getElem?_eq_some_iff.1 hc).1
              rw [List.getElem?_append_left hlen]
              exact hc
            · have hc := s2 j (by omega) h2
              have hge := Tr.rk_ge h (i := k) (j := j) (by omega) (by omega)
              rw [List.getElem?_append_right (by rw [hk.1]; omega), hk.1]
              rw [show Tr.rk xs j - (i - Tr.dn xs i) - (k - (i + 1)) = Tr.rk xs j - (k - Tr.dn xs k) by omega]
              exact hc
    have hstart := key _ (i + 1) rfl (Tr.bound_start h hi) ⟨by rw [Tr.kidsTo_start]; simp, fun j h1 h2 => by omega⟩
    obtain ⟨p1, p2⟩ := hstart
    unfold Tr.postF
    refine ⟨by rw [List.length_append, p1]; simp; omega, fun j h1 h2 => ?_⟩
    by_cases e : j = i
    · subst e
      rw [List.getElem?_append_right (by rw [p1]; unfold Tr.rk; omega), p1]
      have : Tr.rk xs j - (j - Tr.dn xs j) - (Tr.endN xs j - (j + 1)) = 0 := by unfold Tr.rk; omega
      rw [this]; rfl
    · have hc := p2 j (by omega) h2
      have hlen := (List.getElem?_eq_some_iff.1 hc).1
      rw [List.getElem?_append_left hlen]
      exact hc
end
/-- all nodes in postorder -/
def Tr.post (xs : Tr) : List Nat := if Tr.ok xs then Tr.postF xs xs.length 0 else []
section
variable {xs : Tr} (h : Tr.ok xs = true)
include h
theorem Tr.endN_zero : Tr.endN xs 0 = xs.length := by
  have h0 := (Tr.ok_iff.1 h).2
  have a := Tr.endN_dn h (i := 0) (by omega)
  rcases a.2.2.2 with e | ⟨e1, e2⟩
  · exact e
  · have h3 := Tr.dn_zero h
    have h4 := Tr.dn_succ h (i := Tr.endN xs 0 - 1) (by omega)
    rw [show Tr.endN xs 0 - 1 + 1 = Tr.endN xs 0 by omega] at h4
    omega
theorem Tr.post_length : (Tr.post xs).length = xs.length := by
  have h0 := (Tr.ok_iff.1 h).2
  have := (Tr.postF_spec h xs.length 0 (by omega) (by rw [Tr.endN_zero h]; omega)).1
  rw [Tr.post, if_pos h, this, Tr.endN_zero h]
  omega
theorem Tr.post_rk {j : Nat} (hj : j < xs.length) : (Tr.post xs)[Tr.rk xs j]? = some j := by
  have h0 := (Tr.ok_iff.1 h).2
  have := (Tr.postF_spec h xs.length 0 (by omega) (by rw [Tr.endN_zero h]; omega)).2 j (Nat.zero_le _) (by rw [Tr.endN_zero h]; exact hj)
  rw [Tr.post, if_pos h]
  simpa using this
end

end Go.Proofs.Ytlndaflhlkbedaa

/- Contracts (Pst2). -/
namespace Go.Proofs.Ytlndaflhlkbedaa
open Go.RowKit
set_option linter.unusedVariables false

/-- a map of [0, n) into itself that tells all apart meets all -/
theorem pigeon : ∀ (n : Nat) (f : Nat → Nat), (∀ i, i < n → f i < n) → (∀ i j, i < n → j < n → f i = f j → i = j) → ∀ q, q < n → ∃ i, i < n ∧ f i = q := by
  intro n
  induction n with
  | zero => intro f _ _ q hq; omega
  | succ n ih =>
    intro f hf hinj q hq
    have hg1 : ∀ i, i < n → (if f i = n then f n else f i) < n := by
      intro i hi
      split
      · rename_i e
        have := hf n (by omega)
        by_cases e2 : f n = n
        · have := hinj i n (by omega) (by omega) (by omega); omega
        · omega
      · have := hf i (by omega); omega
    have hg2 : ∀ i j, i < n → j < n → (if f i = n then f n else f i) = (if f j = n then f n else f j) → i = j := by
      intro i j hi hj e
      split at e <;> split at e
      · exact hinj i j (by omega) (by omega) (by omega)
      · have := hinj n j (by omega) (by omega) e; omega
      · have := hinj i n (by omega) (by omega) e; omega
      · exact hinj i j (by omega) (by omega) e
    have H := ih (fun i => if f i = n then f n else f i) hg1 hg2
    by_cases e : q = f n
    · exact ⟨n, by omega, e.symm⟩
    · by_cases e2 : q = n
      · obtain ⟨i, hi, h⟩ := H (f n) (by have := hf n (by omega); omega)
        split at h
        · rename_i h'; exact ⟨i, by omega, by omega⟩
        · have := hinj i n (by omega) (by omega) h; omega
      · obtain ⟨i, hi, h⟩ := H q (by omega)
        split at h
        · exact absurd h.symm e
        · exact ⟨i, by omega, h⟩
section
variable {xs : Tr} (h : Tr.ok xs = true)
include h
theorem Tr.post_get {k : Nat} (hk : k < xs.length) : ∃ i, i < xs.length ∧ (Tr.post xs)[k]? = some i ∧ Tr.rk xs i = k := by
  obtain ⟨i, hi, e⟩ := pigeon xs.length (Tr.rk xs) (fun i hi => Tr.rk_lt h hi) (fun i j hi hj e => Tr.rk_inj h hi hj e) k hk
  exact ⟨i, hi, by rw [← e]; exact Tr.post_rk h hi, e⟩
end
theorem Tr.post_none {xs : Tr} (h : Tr.ok xs = false) : Tr.post xs = [] := by unfold Tr.post; rw [h]; rfl
theorem Tr.post_len_le (xs : Tr) : (Tr.post xs).length ≤ xs.length := by
  rcases h : Tr.ok xs with _ | _
  · rw [Tr.post_none h]; exact Nat.zero_le _
  · rw [Tr.post_length h]; exact Nat.le_refl _
theorem Tr.post_ok {xs : Tr} {k : Nat} (hk : k < (Tr.post xs).length) : Tr.ok xs = true ∧ (Tr.post xs).length = xs.length := by
  rcases h : Tr.ok xs with _ | _
  · rw [Tr.post_none h] at hk; simp at hk
  · exact ⟨rfl, Tr.post_length h⟩
/-- one place of the postorder: its node -/
theorem Tr.post_at {xs : Tr} {k : Nat} (hk : k < (Tr.post xs).length) : ∃ i, i < (Tr.post xs).length ∧ (Tr.post xs)[k]? = some i ∧ Tr.rk xs i = k ∧ Tr.ok xs = true ∧ (Tr.post xs).length = xs.length := by
  obtain ⟨h1, h2⟩ := Tr.post_ok hk
  obtain ⟨i, a, b, c⟩ := Tr.post_get h1 (k := k) (by omega)
  exact ⟨i, by omega, b, c, h1, h2⟩
/-- the ranks that are known when k places are done -/
def Tr.rkTo (xs : Tr) (k : Nat) : List Nat := (List.range (Tr.post xs).length).map fun i => if Tr.rk xs i < k then Tr.rk xs i else 0
def Tr.rks (xs : Tr) : List Nat := (List.range (Tr.post xs).length).map (Tr.rk xs)
theorem Tr.rkTo_length (xs : Tr) (k : Nat) : (Tr.rkTo xs k).length = (Tr.post xs).length := by simp [Tr.rkTo]
theorem Tr.rks_length (xs : Tr) : (Tr.rks xs).length = (Tr.post xs).length := by simp [Tr.rks]
theorem Tr.rkTo_zero (xs : Tr) : Tr.rkTo xs 0 = List.replicate (Tr.post xs).length 0 := by
  unfold Tr.rkTo
  refine List.ext_getElem (by simp) fun i h1 h2 => by simp
theorem Tr.rkTo_all (xs : Tr) : Tr.rkTo xs (Tr.post xs).length = Tr.rks xs := by
  unfold Tr.rkTo Tr.rks
  refine List.map_congr_left fun i hi => ?_
  have hi := List.mem_range.1 hi
  obtain ⟨h1, h2⟩ := Tr.post_ok hi
  rw [if_pos (by rw [h2]; exact Tr.rk_lt h1 (by omega))]
theorem Tr.rkTo_set {xs : Tr} {i k : Nat} (hi : i < (Tr.post xs).length) (hk : Tr.rk xs i = k) : (Tr.rkTo xs k).set i k = Tr.rkTo xs (k + 1) := by
  obtain ⟨h1, h2⟩ := Tr.post_ok hi
  unfold Tr.rkTo
  refine List.ext_getElem (by simp) fun j a b => ?_
  simp only [List.length_map, List.length_range] at b
  by_cases e : j = i
  · subst e
    simp [hk]
  · rw [List.getElem_set_ne (by omega)]
    simp only [List.getElem_map, List.getElem_range]
    have hne : Tr.rk xs j ≠ k := fun q => e (Tr.rk_inj h1 (by omega) (by omega) (q.trans hk.symm))
    by_cases q : Tr.rk xs j < k
    · rw [if_pos q, if_pos (by omega)]
    · rw [if_neg q, if_neg (by omega)]
/-- the place of the first leaf, for each place -/
def Tr.lfs (xs : Tr) : List Nat := (Tr.post xs).map fun i => i - Tr.dn xs i
theorem Tr.lfs_length (xs : Tr) : (Tr.lfs xs).length = (Tr.post xs).length := by simp [Tr.lfs]
/-- the first leaf under i0, reached down a chain -/
theorem Tr.chain_end {xs : Tr} (h : Tr.ok xs = true) {i0 i : Nat} (hi0 : i0 ≤ i) (hi : i < Tr.endN xs i0) (h0 : i0 < xs.length) (hd : Tr.dn xs i = Tr.dn xs i0 + (i - i0)) (hend : ¬ (i + 1 < Tr.endN xs i0 ∧ Tr.d xs (i + 1) = Tr.d xs i + 1)) :
    Tr.rk xs i = i0 - Tr.dn xs i0 := by
  have a := Tr.endN_dn h h0
  have b := Tr.endN_dn h (i := i) (by omega)
  have c : Tr.endN xs i ≤ Tr.endN xs i0 := by
    by_cases e : i = i0
    · subst e; omega
    · exact Tr.endN_in h h0 (by omega) hi
  have d0 := Tr.dn_le h h0
  have e1 : Tr.endN xs i = i + 1 := by
    by_cases e : Tr.endN xs i = i + 1
    · exact e
    · have h1 := b.2.2.1 (i + 1) (by omega) (by omega)
      have h2 := (Tr.dn_succ h (i := i) (by omega)).2
      have h3 := Tr.dn_eq h (i := i) (by omega)
      have h4 := Tr.dn_eq h (i := i + 1) (by omega)
      exact absurd ⟨by omega, by omega⟩ hend
  unfold Tr.rk
  omega
/-- of a row the places whose value does not come again up to m -/
def Zs.lastTo (f : List Nat) (k m : Nat) : Bool := (List.range m).all fun j => decide (j ≤ k) || decide (f.getD j 0 ≠ f.getD k 0)
theorem Zs.lastTo_start (f : List Nat) (k : Nat) : Zs.lastTo f k (k + 1) = true := by
  simp only [Zs.lastTo, List.all_eq_true, List.mem_range]
  intro j hj
  simp; omega
theorem Zs.lastTo_succ (f : List Nat) (k m : Nat) (hm : k < m) : Zs.lastTo f k (m + 1) = (Zs.lastTo f k m && decide (f.getD m 0 ≠ f.getD k 0)) := by
  unfold Zs.lastTo
  rw [List.range_succ, List.all_append]
  have : decide (m ≤ k) = false := by simp; omega
  simp [this]
def Tr.krTo (xs : Tr) (k : Nat) : List Nat := (List.range k).filter fun j => Zs.lastTo (Tr.lfs xs) j (Tr.lfs xs).length
def Tr.krs (xs : Tr) : List Nat := Tr.krTo xs (Tr.lfs xs).length
theorem Tr.krTo_succ (xs : Tr) (k : Nat) : Tr.krTo xs (k + 1) = if Zs.lastTo (Tr.lfs xs) k (Tr.lfs xs).length = true then Tr.krTo xs k ++ [k] else Tr.krTo xs k := by
  unfold Tr.krTo
  rw [List.range_succ, List.filter_append]
  by_cases h : Zs.lastTo (Tr.lfs xs) k (Tr.lfs xs).length = true <;> simp [h]
theorem Tr.krTo_le (xs : Tr) (k : Nat) : (Tr.krTo xs k).length ≤ k := by
  have := List.length_filter_le (fun j => Zs.lastTo (Tr.lfs xs) j (Tr.lfs xs).length) (List.range k)
  simpa [Tr.krTo] using this
/-- is j under i; does j come behind i, and all under it -/
def Tr.under (xs : Tr) (i j : Int) : Bool := Tr.has xs i && Tr.has xs j && decide (i < j) && decide (j < Tr.endOf xs i)
def Tr.leftOf (xs : Tr) (i j : Int) : Bool := Tr.has xs i && Tr.has xs j && decide (Tr.endOf xs i ≤ j)
/-- the first place of i in zs, counted from k -/
def Zs.find : List Int → Int → Nat → Int
  | [], _, _ => -1
  | z :: zs, i, k => if z = i then k else Zs.find zs i (k + 1)
theorem Zs.find_step (zs : List Int) (i : Int) (k : Nat) (hk : k < zs.length) : Zs.find (zs.drop k) i k = if zs.getD k 0 = i then (k : Int) else Zs.find (zs.drop (k + 1)) i (k + 1) := by
  rw [List.drop_eq_getElem_cons hk]
  simp [Zs.find, List.getD_eq_getElem?_getD, hk]
def Tr.kidRank (xs : Tr) (i : Int) : Int := if Tr.parentOf xs i < 0 then -1 else Zs.find ((Tr.kidsOf xs (Tr.parentOf xs i)).map fun (m : Nat) => (m : Int)) i 0

end Go.Proofs.Ytlndaflhlkbedaa

/- Contracts (Fst). -/
namespace Go.Proofs.Ytlndaflhlkbedaa
open Go.RowKit
set_option linter.unusedVariables false

/-! Ordered forests and their edit distance, as plain mathematics. -/
/-- a forest: the trees ahead, the last tree's root, the trees under it -/
inductive Fst where
  | nil : Fst
  | snoc : Fst → Int → Fst → Fst
def Fst.size : Fst → Nat
  | .nil => 0
  | .snoc l _ s => l.size + s.size + 1
def Fst.cat (f : Fst) : Fst → Fst
  | .nil => f
  | .snoc l a s => .snoc (f.cat l) a s
theorem Fst.nil_cat (f : Fst) : Fst.nil.cat f = f := by
  induction f with
  | nil => rfl
  | snoc l a s ih _ => rw [Fst.cat, ih]
theorem Fst.cat_assoc (f g h : Fst) : (f.cat g).cat h = f.cat (g.cat h) := by
  induction h with
  | nil => rfl
  | snoc l a s ih _ => rw [Fst.cat, Fst.cat, Fst.cat, ih]
theorem Fst.size_cat (f g : Fst) : (f.cat g).size = f.size + g.size := by
  induction g with
  | nil => rfl
  | snoc l a s ih _ => simp only [Fst.cat, Fst.size, ih]; omega
/-- costs as functions of labels -/
structure Cs where
  del : Int → Int
  ins : Int → Int
  rel : Int → Int → Int
def Cs.swap (K : Cs) : Cs := ⟨K.ins, K.del, fun a b => K.rel b a⟩
/-- the least cost of turning one forest into another -/
def FD (K : Cs) : Fst → Fst → Int
  | .nil, .nil => 0
  | .snoc l a s, .nil => FD K (l.cat s) .nil + K.del a
  | .nil, .snoc m b t => FD K .nil (m.cat t) + K.ins b
  | .snoc l a s, .snoc m b t => min (min (FD K (l.cat s) (.snoc m b t) + K.del a) (FD K (.snoc l a s) (m.cat t) + K.ins b)) (FD K l m + FD K s t + K.rel a b)
termination_by f g => f.size + g.size
decreasing_by all_goals (simp only [Fst.size, Fst.size_cat]; omega)
section
variable (K : Cs)
theorem FD_nn : FD K .nil .nil = 0 := by rw [FD]
theorem FD_sn (l s : Fst) (a : Int) : FD K (.snoc l a s) .nil = FD K (l.cat s) .nil + K.del a := by rw [FD]
theorem FD_ns (m t : Fst) (b : Int) : FD K .nil (.snoc m b t) = FD K .nil (m.cat t) + K.ins b := by rw [FD]
theorem FD_ss (l s m t : Fst) (a b : Int) : FD K (.snoc l a s) (.snoc m b t) = min (min (FD K (l.cat s) (.snoc m b t) + K.del a) (FD K (.snoc l a s) (m.cat t) + K.ins b)) (FD K l m + FD K s t + K.rel a b) := by rw [FD]
theorem FD_del (l s g : Fst) (a : Int) : FD K (.snoc l a s) g ≤ FD K (l.cat s) g + K.del a := by
  cases g with
  | nil => rw [FD_sn]; exact Int.le_refl _
  | snoc m b t => rw [FD_ss]; omega
theorem FD_ins (f m t : Fst) (b : Int) : FD K f (.snoc m b t) ≤ FD K f (m.cat t) + K.ins b := by
  cases f with
  | nil => rw [FD_ns]; exact Int.le_refl _
  | snoc l a s => rw [FD_ss]; omega
theorem FD_match (l s m t : Fst) (a b : Int) : FD K (.snoc l a s) (.snoc m b t) ≤ FD K l m + FD K s t + K.rel a b := by rw [FD_ss]; omega
/-- which of the three is met -/
theorem FD_cases (l s m t : Fst) (a b : Int) : FD K (.snoc l a s) (.snoc m b t) = FD K (l.cat s) (.snoc m b t) + K.del a ∨ FD K (.snoc l a s) (.snoc m b t) = FD K (.snoc l a s) (m.cat t) + K.ins b ∨ FD K (.snoc l a s) (.snoc m b t) = FD K l m + FD K s t + K.rel a b := by
  rw [FD_ss]; omega
/-- forests side by side -/
theorem FD_cat : ∀ (n : Nat) (A B C D : Fst), B.size + D.size = n → FD K (A.cat B) (C.cat D) ≤ FD K A C + FD K B D := by
  intro n
  induction n using Nat.strongRecOn with
  | ind n ih =>
    intro A B C D hn
    cases B with
    | nil =>
      cases D with
      | nil => rw [FD_nn]; simp only [Fst.cat]; omega
      | snoc m b t =>
        have h := ih (Fst.nil.size + (m.cat t).size) (by simp only [Fst.size, Fst.size_cat] at hn ⊢; omega) A .nil C (m.cat t) rfl
        have h2 := FD_ins K A (C.cat m) t b
        rw [Fst.cat_assoc] at h2
        rw [FD_ns]
        simp only [Fst.cat] at h ⊢
        omega
    | snoc l a s =>
      cases D with
      | nil =>
        have h := ih ((l.cat s).size + Fst.nil.size) (by simp only [Fst.size, Fst.size_cat] at hn ⊢; omega) A (l.cat s) C .nil rfl
        have h2 := FD_del K (A.cat l) s C a
        rw [Fst.cat_assoc] at h2
        rw [FD_sn]
        simp only [Fst.cat] at h ⊢
        omega
      | snoc m b t =>
        rcases FD_cases K l s m t a b with e | e | e
        · have h := ih ((l.cat s).size + (Fst.snoc m b t).size) (by simp only [Fst.size, Fst.size_cat] at hn ⊢; omega) A (l.cat s) C (.snoc m b t) rfl
          have h2 := FD_del K (A.cat l) s (C.cat (.snoc m b t)) a
          rw [Fst.cat_assoc] at h2
          rw [e]
          simp only [Fst.cat] at h h2 ⊢
          omega
        · have h := ih ((Fst.snoc l a s).size + (m.cat t).size) (by simp only [Fst.size, Fst.size_cat] at hn ⊢; omega) A (.snoc l a s) C (m.cat t) rfl
          have h2 := FD_ins K (A.cat (.snoc l a s)) (C.cat m) t b
          rw [Fst.cat_assoc] at h2
          rw [e]
          simp only [Fst.cat] at h h2 ⊢
          omega
        · have h := ih (l.size + m.size) (by simp only [Fst.size] at hn ⊢; omega) A l C m rfl
          have h2 := FD_match K (A.cat l) s (C.cat m) t a b
          rw [e]
          simp only [Fst.cat]
          omega
/-- the last tree alone -/
def Fst.one (a : Int) (s : Fst) : Fst := .snoc .nil a s
theorem Fst.cat_one (l : Fst) (a : Int) (s : Fst) : l.cat (.one a s) = .snoc l a s := rfl
/-- the third way by the last trees' own distance -/
theorem FD_trees (l s m t : Fst) (a b : Int) : FD K (.snoc l a s) (.snoc m b t) = min (min (FD K (l.cat s) (.snoc m b t) + K.del a) (FD K (.snoc l a s) (m.cat t) + K.ins b)) (FD K l m + FD K (.one a s) (.one b t)) := by
  have h1 := FD_cat K _ l (.one a s) m (.one b t) rfl
  have h2 := FD_match K .nil s .nil t a b
  rw [Fst.cat_one, Fst.cat_one] at h1
  rw [FD_nn] at h2
  rw [FD_ss] at h1 ⊢
  unfold Fst.one at h1 ⊢
  omega
theorem FD_first (s t : Fst) (a b : Int) : FD K (.one a s) (.one b t) = min (min (FD K s (.one b t) + K.del a) (FD K (.one a s) t + K.ins b)) (FD K s t + K.rel a b) := by
  unfold Fst.one
  rw [FD_ss, FD_nn, Fst.nil_cat, Fst.nil_cat]
  omega
/-- exchanged -/
theorem FD_swap : ∀ (n : Nat) (f g : Fst), f.size + g.size = n → FD K f g = FD K.swap g f := by
  intro n
  induction n using Nat.strongRecOn with
  | ind n ih =>
    intro f g hn
    cases f with
    | nil =>
      cases g with
      | nil => rw [FD_nn, FD_nn]
      | snoc m b t =>
        rw [FD_ns, FD_sn, ih _ (by simp only [Fst.size, Fst.size_cat] at hn ⊢; omega) .nil (m.cat t) rfl]
        rfl
    | snoc l a s =>
      cases g with
      | nil =>
        rw [FD_ns, FD_sn, ih _ (by simp only [Fst.size, Fst.size_cat] at hn ⊢; omega) (l.cat s) .nil rfl]
        rfl
      | snoc m b t =>
        rw [FD_ss, FD_ss, ih _ (by simp only [Fst.size, Fst.size_cat] at hn ⊢; omega) (l.cat s) (.snoc m b t) rfl,
          ih _ (by simp only [Fst.size, Fst.size_cat] at hn ⊢; omega) (.snoc l a s) (m.cat t) rfl,
          ih _ (by simp only [Fst.size] at hn ⊢; omega) l m rfl, ih _ (by simp only [Fst.size] at hn ⊢; omega) s t rfl]
        show min (min (_ + K.del a) (_ + K.ins b)) (_ + K.rel a b) = min (min (_ + K.ins b) (_ + K.del a)) (_ + K.rel a b)
        omega
/-- costs that stand n times as high -/
def Cs.times (K : Cs) (n : Int) : Cs := ⟨fun a => n * K.del a, fun a => n * K.ins a, fun a b => n * K.rel a b⟩
theorem FD_times3 : ∀ (n : Nat) (f g : Fst), f.size + g.size = n → FD (K.times 3) f g = 3 * FD K f g := by
  intro n
  induction n using Nat.strongRecOn with
  | ind n ih =>
    intro f g hn
    cases f with
    | nil =>
      cases g with
      | nil => rw [FD_nn, FD_nn]; rfl
      | snoc m b t =>
        rw [FD_ns, FD_ns, ih _ (by simp only [Fst.size, Fst.size_cat] at hn ⊢; omega) .nil (m.cat t) rfl]
        show _ + 3 * K.ins b = _
        omega
    | snoc l a s =>
      cases g with
      | nil =>
        rw [FD_sn, FD_sn, ih _ (by simp only [Fst.size, Fst.size_cat] at hn ⊢; omega) (l.cat s) .nil rfl]
        show _ + 3 * K.del a = _
        omega
      | snoc m b t =>
        rw [FD_ss, FD_ss, ih _ (by simp only [Fst.size, Fst.size_cat] at hn ⊢; omega) (l.cat s) (.snoc m b t) rfl,
          ih _ (by simp only [Fst.size, Fst.size_cat] at hn ⊢; omega) (.snoc l a s) (m.cat t) rfl,
          ih _ (by simp only [Fst.size] at hn ⊢; omega) l m rfl, ih _ (by simp only [Fst.size] at hn ⊢; omega) s t rfl]
        show min (min (_ + 3 * K.del a) (_ + 3 * K.ins b)) (_ + 3 * K.rel a b) = _
        omega
end
/-- no cost is negative -/
def Cs.nonneg (K : Cs) : Prop := (∀ a, 0 ≤ K.del a) ∧ (∀ a, 0 ≤ K.ins a) ∧ ∀ a b, 0 ≤ K.rel a b
theorem FD_nonneg {K : Cs} (hK : K.nonneg) : ∀ (n : Nat) (f g : Fst), f.size + g.size = n → 0 ≤ FD K f g := by
  intro n
  induction n using Nat.strongRecOn with
  | ind n ih =>
    intro f g hn
    cases f with
    | nil =>
      cases g with
      | nil => rw [FD_nn]; omega
      | snoc m b t =>
        have := ih _ (by simp only [Fst.size, Fst.size_cat] at hn ⊢; omega) .nil (m.cat t) rfl
        have := hK.2.1 b
        rw [FD_ns]; omega
    | snoc l a s =>
      cases g with
      | nil =>
        have := ih _ (by simp only [Fst.size, Fst.size_cat] at hn ⊢; omega) (l.cat s) .nil rfl
        have := hK.1 a
        rw [FD_sn]; omega
      | snoc m b t =>
        have := ih _ (by simp only [Fst.size, Fst.size_cat] at hn ⊢; omega) (l.cat s) (.snoc m b t) rfl
        have := ih _ (by simp only [Fst.size, Fst.size_cat] at hn ⊢; omega) (.snoc l a s) (m.cat t) rfl
        have := ih _ (by simp only [Fst.size] at hn ⊢; omega) l m rfl
        have := ih _ (by simp only [Fst.size] at hn ⊢; omega) s t rfl
        have := hK.1 a
        have := hK.2.1 b
        have := hK.2.2 a b
        rw [FD_ss]; omega
/-- no cost is above M: a distance is at most M a node -/
theorem FD_le {K : Cs} {M : Int} (h1 : ∀ a, K.del a ≤ M) (h2 : ∀ a, K.ins a ≤ M) : ∀ (n : Nat) (f g : Fst), f.size + g.size = n → FD K f g ≤ M * (f.size + g.size : Nat) := by
  intro n
  induction n using Nat.strongRecOn with
  | ind n ih =>
    intro f g hn
    cases f with
    | nil =>
      cases g with
      | nil => rw [FD_nn]; simp [Fst.size]
      | snoc m b t =>
        have h := ih _ (by simp only [Fst.size, Fst.size_cat] at hn ⊢; omega) .nil (m.cat t) rfl
        have hb := h2 b
        rw [FD_ns]
        rw [show (Fst.nil.size + (Fst.snoc m b t).size) = (Fst.nil.size + (m.cat t).size) + 1 by simp only [Fst.size, Fst.size_cat]; omega, Int.natCast_add, Int.mul_add]
        omega
    | snoc l a s =>
      have h := ih _ (by simp only [Fst.size, Fst.size_cat] at hn ⊢; omega) (l.cat s) g rfl
      have ha := h1 a
      have hd := FD_del K l s g a
      rw [show ((Fst.snoc l a s).size + g.size) = ((l.cat s).size + g.size) + 1 by simp only [Fst.size, Fst.size_cat]; omega, Int.natCast_add, Int.mul_add]
      omega
/-- all costs are 0 -/
theorem FD_zero {K : Cs} (hK : K.nonneg) (h1 : ∀ a, K.del a = 0) (h2 : ∀ a, K.ins a = 0) (f g : Fst) : FD K f g = 0 := by
  have a := FD_nonneg hK _ f g rfl
  have b := FD_le (K := K) (M := 0) (fun a => by rw [h1]; exact Int.le_refl _) (fun a => by rw [h2]; exact Int.le_refl _) _ f g rfl
  omega
/-- costs under which ways by a third forest are no shorter -/
structure Cs.metric (K : Cs) : Prop where
  pos : K.nonneg
  dd : ∀ a b, K.del a ≤ K.rel a b + K.del b
  ii : ∀ b c, K.ins c ≤ K.ins b + K.rel b c
  rr : ∀ a b c, K.rel a c ≤ K.rel a b + K.rel b c
theorem FD_triangle {K : Cs} (hK : K.metric) : ∀ (n : Nat) (f g h : Fst), f.size + g.size + h.size = n → FD K f h ≤ FD K f g + FD K g h := by
  intro n
  induction n using Nat.strongRecOn with
  | ind n ih =>
    intro f g h hn
    cases g with
    | nil =>
      have hc := FD_cat K _ f .nil .nil h rfl
      rw [Fst.nil_cat] at hc
      exact hc
    | snoc m b t =>
      have hb1 := hK.pos.1 b
      have hb2 := hK.pos.2.1 b
      -- g's last is inserted on the way from f and taken out on the way to h
      have ID : FD K f (.snoc m b t) = FD K f (m.cat t) + K.ins b → FD K (.snoc m b t) h = FD K (m.cat t) h + K.del b → FD K f h ≤ FD K f (.snoc m b t) + FD K (.snoc m b t) h := by
        intro e1 e2
        have := ih _ (by simp only [Fst.size, Fst.size_cat] at hn ⊢; omega) f (m.cat t) h rfl
        omega
      -- the last of f is deleted
      have DD : ∀ l a s, f = .snoc l a s → FD K f (.snoc m b t) = FD K (l.cat s) (.snoc m b t) + K.del a → FD K f h ≤ FD K f (.snoc m b t) + FD K (.snoc m b t) h := by
        rintro l a s rfl e
        have h1 := ih _ (by simp only [Fst.size, Fst.size_cat] at hn ⊢; omega) (l.cat s) (.snoc m b t) h rfl
        have h2 := FD_del K l s h a
        omega
      -- the last of h is inserted
      have II : ∀ p c u, h = .snoc p c u → FD K (.snoc m b t) h = FD K (.snoc m b t) (p.cat u) + K.ins c → FD K f h ≤ FD K f (.snoc m b t) + FD K (.snoc m b t) h := by
        rintro p c u rfl e
        have h1 := ih _ (by simp only [Fst.size, Fst.size_cat] at hn ⊢; omega) f (.snoc m b t) (p.cat u) rfl
        have h2 := FD_ins K f p u c
        omega
      cases f with
      | nil =>
        cases h with
        | nil => exact ID (FD_ns K m t b) (FD_sn K m t b)
        | snoc p c u =>
          rcases FD_cases K m t p u b c with e | e | e
          · exact ID (FD_ns K m t b) e
          · exact II p c u rfl e
          · -- inserted, then matched
            have h1 := ih _ (by simp only [Fst.size, Fst.size_cat] at hn ⊢; omega) Fst.nil (m.cat t) (p.cat u) rfl
            have h2 := FD_ins K .nil p u c
            have h3 := FD_cat K _ m t p u rfl
            have h4 := FD_ns K m t b
            have h5 := hK.ii b c
            omega
      | snoc l a s =>
        cases h with
        | nil =>
          rcases FD_cases K l s m t a b with e | e | e
          · exact DD l a s rfl e
          · exact ID e (FD_sn K m t b)
          · -- matched, then deleted
            have h1 := ih _ (by simp only [Fst.size, Fst.size_cat] at hn ⊢; omega) (l.cat s) (m.cat t) Fst.nil rfl
            have h2 := FD_del K l s .nil a
            have h3 := FD_cat K _ l s m t rfl
            have h4 := FD_sn K m t b
            have h5 := hK.dd a b
            omega
        | snoc p c u =>
          rcases FD_cases K l s m t a b with e | e | e
          · exact DD l a s rfl e
          · rcases FD_cases K m t p u b c with e' | e' | e'
            · exact ID e e'
            · exact II p c u rfl e'
            · have h1 := ih _ (by simp only [Fst.size, Fst.size_cat] at hn ⊢; omega) (.snoc l a s) (m.cat t) (p.cat u) rfl
              have h2 := FD_ins K (.snoc l a s) p u c
              have h3 := FD_cat K _ m t p u rfl
              have h5 := hK.ii b c
              omega
          · rcases FD_cases K m t p u b c with e' | e' | e'
            · have h1 := ih _ (by simp only [Fst.size, Fst.size_cat] at hn ⊢; omega) (l.cat s) (m.cat t) (.snoc p c u) rfl
              have h2 := FD_del K l s (.snoc p c u) a
              have h3 := FD_cat K _ l s m t rfl
              have h5 := hK.dd a b
              omega
            · exact II p c u rfl e'
            · have h1 := ih _ (by simp only [Fst.size] at hn ⊢; omega) l m p rfl
              have h2 := ih _ (by simp only [Fst.size] at hn ⊢; omega) s t u rfl
              have h3 := FD_match K l s p u a c
              have h5 := hK.rr a b c
              omega
/-- of a node at least 1: the distance is no less than what the sizes differ by -/
theorem FD_ge {K : Cs} (hK : K.nonneg) (h1 : ∀ a, 1 ≤ K.del a) (h2 : ∀ a, 1 ≤ K.ins a) : ∀ (n : Nat) (f g : Fst), f.size + g.size = n → (f.size : Int) - g.size ≤ FD K f g ∧ (g.size : Int) - f.size ≤ FD K f g := by
  intro n
  induction n using Nat.strongRecOn with
  | ind n ih =>
    intro f g hn
    cases f with
    | nil =>
      cases g with
      | nil => rw [FD_nn]; simp [Fst.size]
      | snoc m b t =>
        have h := ih _ (by simp only [Fst.size, Fst.size_cat] at hn ⊢; omega) .nil (m.cat t) rfl
        have := h2 b
        rw [FD_ns]
        simp only [Fst.size, Fst.size_cat] at h ⊢
        omega
    | snoc l a s =>
      cases g with
      | nil =>
        have h := ih _ (by simp only [Fst.size, Fst.size_cat] at hn ⊢; omega) (l.cat s) .nil rfl
        have := h1 a
        rw [FD_sn]
        simp only [Fst.size, Fst.size_cat] at h ⊢
        omega
      | snoc m b t =>
        have e1 := ih _ (by simp only [Fst.size, Fst.size_cat] at hn ⊢; omega) (l.cat s) (.snoc m b t) rfl
        have e2 := ih _ (by simp only [Fst.size, Fst.size_cat] at hn ⊢; omega) (.snoc l a s) (m.cat t) rfl
        have e3 := ih _ (by simp only [Fst.size] at hn ⊢; omega) l m rfl
        have e4 := ih _ (by simp only [Fst.size] at hn ⊢; omega) s t rfl
        have := h1 a
        have := h2 b
        have := hK.2.2 a b
        rw [FD_ss]
        simp only [Fst.size, Fst.size_cat] at e1 e2 ⊢
        omega

end Go.Proofs.Ytlndaflhlkbedaa

/- Contracts (Fr). -/
namespace Go.Proofs.Ytlndaflhlkbedaa
open Go.RowKit
set_option linter.unusedVariables false

/-! A row of places in postorder as a forest: la p the place of the first leaf under p, x p its label. -/
def fr (la : Nat → Nat) (x : Nat → Int) (i j : Nat) : Fst :=
  if j ≤ i then .nil else .snoc (fr la x i (min (j - 1) (max i (la (j - 1))))) (x (j - 1)) (fr la x (min (j - 1) (max i (la (j - 1)))) (j - 1))
termination_by j - i
decreasing_by all_goals omega
/-- first leaves of the first n places: each stands no later than its node, and all that lies between belongs to the node -/
def Nest (la : Nat → Nat) (n : Nat) : Prop := ∀ p, p < n → la p ≤ p ∧ ∀ q, la p ≤ q → q < p → la p ≤ la q
theorem fr_nil {la : Nat → Nat} {x : Nat → Int} {i j : Nat} (h : j ≤ i) : fr la x i j = .nil := by rw [fr, if_pos h]
section
variable {la : Nat → Nat} {x : Nat → Int} {n : Nat} (hN : Nest la n)
include hN
theorem fr_succ {i j : Nat} (h : i ≤ j) (hj : j < n) : fr la x i (j + 1) = .snoc (fr la x i (max i (la j))) (x j) (fr la x (max i (la j)) j) := by
  have h1 := (hN j hj).1
  rw [fr, if_neg (by omega)]
  simp only [Nat.add_sub_cancel]
  rw [show min j (max i (la j)) = max i (la j) by omega]
theorem fr_size : ∀ (m i j : Nat), j - i = m → i ≤ j → j ≤ n → (fr la x i j).size = j - i := by
  intro m
  induction m using Nat.strongRecOn with
  | ind m ih =>
    intro i j hm hij hj
    by_cases e : j = i
    · subst e; rw [fr_nil (Nat.le_refl _)]; simp [Fst.size]
    · obtain ⟨j, rfl⟩ : ∃ k, j = k + 1 := ⟨j - 1, by omega⟩
      have h1 := (hN j (by omega)).1
      rw [fr_succ hN (by omega) (by omega)]
      simp only [Fst.size]
      rw [ih _ (by omega) i (max i (la j)) rfl (by omega) (by omega), ih _ (by omega) (max i (la j)) j rfl (by omega) (by omega)]
      omega
/-- a row parted where no node's subtree is cut -/
theorem fr_cat {i p : Nat} (hip : i ≤ p) : ∀ (m j : Nat), j - p = m → p ≤ j → j ≤ n → (∀ q, p ≤ q → q < j → p ≤ la q) → fr la x i j = (fr la x i p).cat (fr la x p j) := by
  intro m
  induction m using Nat.strongRecOn with
  | ind m ih =>
    intro j hm hpj hj hall
    by_cases e : j = p
    · subst e; rw [fr_nil (i := j) (Nat.le_refl _)]; rfl
    · obtain ⟨j, rfl⟩ : ∃ k, j = k + 1 := ⟨j - 1, by omega⟩
      have h1 := (hN j (by omega)).1
      have h2 := hall j (by omega) (by omega)
      rw [fr_succ hN (i := i) (by omega) (by omega), fr_succ hN (i := p) (by omega) (by omega), Fst.cat]
      rw [show max i (la j) = la j by omega, show max p (la j) = la j by omega]
      rw [ih _ (by omega) (la j) rfl (by omega) (by omega) (fun q a b => hall q a (by omega))]
/-- the last root taken out -/
theorem fr_open {i j : Nat} (h : i ≤ j) (hj : j < n) : (fr la x i (max i (la j))).cat (fr la x (max i (la j)) j) = fr la x i j := by
  have h1 := hN j hj
  by_cases e : la j ≤ i
  · rw [show max i (la j) = i by omega, fr_nil (j := i) (Nat.le_refl _), Fst.nil_cat]
  · rw [show max i (la j) = la j by omega]
    exact (fr_cat hN (by omega) _ j rfl h1.1 (by omega) h1.2).symm
/-- a whole subtree -/
theorem fr_tree {p : Nat} (hp : p < n) : fr la x (la p) (p + 1) = .one (x p) (fr la x (la p) p) := by
  rw [fr_succ hN (hN p hp).1 hp, Nat.max_self, fr_nil (Nat.le_refl _)]
  rfl
end
/-- the distance of two rows of places -/
def RD (K : Cs) (la lb : Nat → Nat) (x y : Nat → Int) (i j k m : Nat) : Int := FD K (fr la x i j) (fr lb y k m)
/-- .. of two subtrees -/
def TD (K : Cs) (la lb : Nat → Nat) (x y : Nat → Int) (p q : Nat) : Int := RD K la lb x y (la p) (p + 1) (lb q) (q + 1)
section
variable {K : Cs} {la lb : Nat → Nat} {x y : Nat → Int} {n m : Nat}
theorem RD_none {i j k l : Nat} (h1 : j ≤ i) (h2 : l ≤ k) : RD K la lb x y i j k l = 0 := by unfold RD; rw [fr_nil h1, fr_nil h2, FD_nn]
theorem RD_left (hN : Nest la n) {i j k l : Nat} (h1 : i ≤ j) (hj : j < n) (h2 : l ≤ k) : RD K la lb x y i (j + 1) k l = RD K la lb x y i j k l + K.del (x j) := by
  unfold RD; rw [fr_nil h2, fr_succ hN h1 hj, FD_sn, fr_open hN h1 hj]
theorem RD_right (hM : Nest lb m) {i j k l : Nat} (h1 : j ≤ i) (h2 : k ≤ l) (hl : l < m) : RD K la lb x y i j k (l + 1) = RD K la lb x y i j k l + K.ins (y l) := by
  unfold RD; rw [fr_nil h1, fr_succ hM h2 hl, FD_ns, fr_open hM h2 hl]
theorem RD_both (hN : Nest la n) (hM : Nest lb m) {i j k l : Nat} (h1 : i ≤ j) (hj : j < n) (h2 : k ≤ l) (hl : l < m) :
    RD K la lb x y i (j + 1) k (l + 1) = min (min (RD K la lb x y i j k (l + 1) + K.del (x j)) (RD K la lb x y i (j + 1) k l + K.ins (y l)))
      (RD K la lb x y i (max i (la j)) k (max k (lb l)) + RD K la lb x y (max i (la j)) j (max k (lb l)) l + K.rel (x j) (y l)) := by
  unfold RD
  rw [fr_succ hN h1 hj, fr_succ hM h2 hl, FD_ss, fr_open hN h1 hj, fr_open hM h2 hl]
/-- by way of the subtrees' distance -/
theorem RD_trees (hN : Nest la n) (hM : Nest lb m) {i j k l : Nat} (h1 : i ≤ la j) (hj : j < n) (h2 : k ≤ lb l) (hl : l < m) :
    RD K la lb x y i (j + 1) k (l + 1) = min (min (RD K la lb x y i j k (l + 1) + K.del (x j)) (RD K la lb x y i (j + 1) k l + K.ins (y l)))
      (RD K la lb x y i (la j) k (lb l) + TD K la lb x y j l) := by
  have a := (hN j hj).1
  have b := (hM l hl).1
  unfold TD RD
  rw [fr_tree hN hj, fr_tree hM hl, fr_succ hN (i := i) (by omega) hj, fr_succ hM (i := k) (by omega) hl, FD_trees, fr_open hN (by omega) hj, fr_open hM (by omega) hl, show max i (la j) = la j by omega, show max k (lb l) = lb l by omega]
/-- of two subtrees, rows that begin at their first leaves -/
theorem TD_rec (hN : Nest la n) (hM : Nest lb m) {j l : Nat} (hj : j < n) (hl : l < m) :
    TD K la lb x y j l = min (min (RD K la lb x y (la j) j (lb l) (l + 1) + K.del (x j)) (RD K la lb x y (la j) (j + 1) (lb l) l + K.ins (y l)))
      (RD K la lb x y (la j) j (lb l) l + K.rel (x j) (y l)) := by
  unfold TD
  rw [RD_both hN hM (hN j hj).1 hj (hM l hl).1 hl, Nat.max_self, Nat.max_self, RD_none (Nat.le_refl _) (Nat.le_refl _)]
  omega
end

end Go.Proofs.Ytlndaflhlkbedaa

/- Contracts (Mem). -/
namespace Go.Proofs.Ytlndaflhlkbedaa
open Go.RowKit
set_option linter.unusedVariables false


/-! rows of ints -/
def ints (zs : List Int) : List Value := zs.map (Value.int .i64)
def Zs.at (zs : List Int) (k : Nat) : Int := zs.getD k 0
theorem ints_length (zs : List Int) : (ints zs).length = zs.length := by simp [ints]
theorem ints_append (a b : List Int) : ints (a ++ b) = ints a ++ ints b := by simp [ints]
theorem ints_at (zs : List Int) (k : Nat) (h : k < zs.length) : (ints zs)[k]? = some (.int .i64 (Zs.at zs k)) := by
  simp [ints, Zs.at, List.getD_eq_getElem?_getD, h]
theorem ints_set (zs : List Int) (k : Nat) (a : Int) : (ints zs).set k (.int .i64 a) = ints (zs.set k a) := by simp [ints, List.map_set]
theorem ints_cell (zs : List Int) : ∀ u ∈ ints zs, u.oneCell' = true := by
  intro u hu
  simp only [ints, List.mem_map] at hu
  obtain ⟨a, _, rfl⟩ := hu
  rfl
theorem Tr.cells_cell (xs : Tr) : ∀ u ∈ Tr.cells xs, u.oneCell' = true := by
  intro u hu
  simp only [Tr.cells, List.mem_flatMap] at hu
  obtain ⟨a, _, hu⟩ := hu
  simp at hu
  rcases hu with rfl | rfl <;> rfl
theorem Zs.ext {a b : List Int} (hl : a.length = b.length) (h : ∀ k, k < a.length → Zs.at a k = Zs.at b k) : a = b := by
  refine List.ext_getElem hl fun k h1 h2 => ?_
  have := h k h1
  simpa [Zs.at, List.getD_eq_getElem?_getD, h1, h2] using this

/-- the slice (A, n) reads as the ints zs, in blocks below B -/
def IntIn (w : World) (B : Nat) (A : Option Addr) (n : Nat) (zs : List Int) : Prop :=
  zs.length = n ∧ (0 < n → ∃ ad, A = some ad ∧ ad.block < B) ∧ ∀ ad, A = some ad → ∀ k, k < n → w.cell? (ad.add k) = some (.int .i64 (Zs.at zs k))

section
variable {w w' : World} {B B' n : Nat} {A : Option Addr} {zs : List Int}
theorem IntIn.keep (h : IntIn w B A n zs) (hk : ∀ p : Addr, p.block < B → w'.cell? p = w.cell? p) : IntIn w' B A n zs := by
  refine ⟨h.1, h.2.1, fun ad e k hkn => ?_⟩
  obtain ⟨ad', e', hb⟩ := h.2.1 (by omega)
  obtain rfl : ad' = ad := by rw [e'] at e; injection e
  rw [hk _ (by rw [block_of_add]; exact hb)]
  exact h.2.2 _ e k hkn
theorem IntIn.more (h : IntIn w B A n zs) (hB : B ≤ B') : IntIn w B' A n zs :=
  ⟨h.1, fun hn => by obtain ⟨ad, e, hb⟩ := h.2.1 hn; exact ⟨ad, e, by omega⟩, h.2.2⟩
theorem IntIn.below (h : IntIn w B A n zs) (hb : Below B w w') : IntIn w' B A n zs := h.keep fun _ hp => hb.cell hp
theorem IntIn.drawn (h : IntIn w B A n zs) (k : Drawn w w') : IntIn w' B A n zs := by obtain ⟨m, rfl⟩ := k; exact h
theorem IntIn.to_below (h : IntIn w w.heap.size A n zs) (hb : Below w.heap.size w w') : IntIn w' w'.heap.size A n zs := (h.below hb).more hb.size
theorem IntIn.to_drawn (h : IntIn w w.heap.size A n zs) (hb : Drawn w w') : IntIn w' w'.heap.size A n zs := h.to_below hb.toBelow
theorem IntIn.here {ad : Addr} (h : IntIn w B (some ad) n zs) {k : Nat} (hk : k < n) : w.cell? (ad.add k) = some (.int .i64 (Zs.at zs k)) := h.2.2 ad rfl k hk
theorem IntIn.at_ (h : IntIn w B A n zs) {k : Nat} (hk : k < n) : ∃ ad, A = some ad ∧ ad.block < B ∧ w.cell? (ad.add k) = some (.int .i64 (Zs.at zs k)) := by
  obtain ⟨ad, rfl, hb⟩ := h.2.1 (by omega)
  exact ⟨ad, rfl, hb, h.here hk⟩
theorem IntIn.of_own {base : Nat} {e : TypeId} {c : Nat} (h : w.ownsRow base e 1 (.slice A n c) n (ints zs)) : IntIn w w.heap.size A n zs := by
  have hlen : zs.length = n := by have := h.1; rw [ints_length] at this; omega
  have hb : 0 < n → ∃ g cap, Value.slice A n c = .slice (some ⟨g, 0, none⟩) n cap ∧ g < w.heap.size := by
    intro hn
    rcases h.2 with ⟨_, h0⟩ | ⟨g, cap, cur, hv, hg, hh, _⟩
    · omega
    · refine ⟨g, cap, hv, ?_⟩
      rcases Nat.lt_or_ge g w.heap.size with hlt | hge
      · exact hlt
      · rw [Array.getElem?_eq_none hge] at hh; cases hh
  refine ⟨hlen, fun hn => ?_, fun ad e k hk => ?_⟩
  · obtain ⟨g, cap, hv, hlt⟩ := hb hn
    obtain rfl : A = some ⟨g, 0, none⟩ := by injection hv
    exact ⟨_, rfl, hlt⟩
  · obtain ⟨g, cap, hv, hlt⟩ := hb (by omega)
    obtain rfl : A = some ⟨g, 0, none⟩ := by injection hv
    obtain rfl : (⟨g, 0, none⟩ : Addr) = ad := by injection e
    exact h.cells rfl _ _ (ints_at zs k (by omega))
theorem IntIn.cells_at {ad : Addr} (h : IntIn w B (some ad) n zs) : ∀ j u, (ints zs)[j]? = some u → w.cell? (ad.add j) = some u := by
  intro j u hj
  have hlt := (List.getElem?_eq_some_iff.1 hj).1
  rw [ints_length] at hlt
  rw [ints_at _ _ hlt] at hj
  rw [h.here (k := j) (by rw [← h.1]; exact hlt)]
  exact hj
end

theorem NdIn.cells_at {w : World} {B n : Nat} {xs : Tr} {ad : Addr} (h : NdIn w B (some ad) n xs) : ∀ j u, (Tr.cells xs)[j]? = some u → w.cell? (ad.add j) = some u := by
  intro j u hj
  have hlt := (List.getElem?_eq_some_iff.1 hj).1
  rw [Tr.cells_length] at hlt
  have hk : j / 2 < xs.length := by omega
  have hc := h.2.2 ad rfl (j / 2) (by rw [← h.1]; exact hk)
  rcases Nat.mod_two_eq_zero_or_one j with h2 | h2
  · have e : j = j / 2 * 2 := by omega
    rw [e] at hj ⊢
    rw [Tr.cells_even _ _ hk] at hj
    rw [hc.1]
    exact hj
  · have e : j = j / 2 * 2 + 1 := by omega
    rw [e] at hj ⊢
    rw [Tr.cells_odd _ _ hk] at hj
    rw [hc.2]
    exact hj

/-! rows of the call's own -/
section
variable {w w' w'' : World} {base n g size : Nat} {e : TypeId} {v : Value} {ys : List Value}
theorem grown_tr {row : Option Nat} (h : w.grownBy w' row) (k : w'.grownBy w'' row) : w.grownBy w'' row :=
  ⟨k.os.trans h.os, k.tape.trans h.tape, k.output.trans h.output, Nat.le_trans h.size k.size, fun i hi hne => (k.block i (Nat.lt_of_lt_of_le hi h.size) hne).trans (h.block i hi hne)⟩
/-- a write into another row below the base -/
theorem own_grown (h : w.ownsRow base e size v n ys) {row : Option Nat} (hg : w.grownBy w' row) (hlt : ∀ g, row = some g → g < base) : w'.ownsRow base e size v n ys := by
  refine h.kept hg ?_
  rcases hb : v.ownBlock with _ | k
  · exact .inl rfl
  · refine .inr fun he => ?_
    have := h.lt k hb
    have := hlt k he.symm
    omega
theorem own_int {c : Nat} {zs : List Int} (h : w.ownsRow base e 1 (.slice (some ⟨g, 0, none⟩) n c) n (ints zs)) {k : Nat} (hk : k < zs.length) : w.cell? ⟨g, k, none⟩ = some (.int .i64 (Zs.at zs k)) := by
  have := h.1
  rw [ints_length] at this
  rw [h.cellAt _ (by omega), ints_at _ _ hk]
/-- where a row of one element at least lies -/
theorem own_form {A : Option Addr} {c : Nat} (h : w.ownsRow base e size (.slice A n c) n ys) (hn : 0 < n) : ∃ g, A = some ⟨g, 0, none⟩ ∧ base ≤ g ∧ g < w.heap.size := by
  rcases h.2 with ⟨_, h0⟩ | ⟨g, cap, cur, hv, hg, hh, _⟩
  · omega
  · have hA : A = some ⟨g, 0, none⟩ := by injection hv
    have := h.lt g (by rw [hA]; rfl)
    exact ⟨g, hA, hg, this.2⟩
theorem own_below_of {B : Nat} {w0 : World} {A : Option Addr} {c : Nat} (hb : Below B w0 w) (h : w.ownsRow base e size (.slice A n c) n ys) (hg : w.grownBy w' (Value.ownBlock (.slice A n c))) (hB : B ≤ base) (hsz : B ≤ w.heap.size) : Below B w0 w' :=
  hb.grown hg hsz (fun k hk => by have := h.lt k hk; omega)
end

/-! marks -/
def Zs.marks (k : Int) (n : Nat) : List Int := (List.range n).map fun j => k + (j : Nat)
def Zs.marked (k : Int) (zs : List Int) (j : Nat) : List Int := Zs.marks k j ++ zs.drop j
theorem Zs.marks_length (k : Int) (n : Nat) : (Zs.marks k n).length = n := by simp [Zs.marks]
theorem Zs.marks_at (k : Int) (n j : Nat) (h : j < n) : Zs.at (Zs.marks k n) j = k + (j : Nat) := by simp [Zs.at, Zs.marks, List.getD_eq_getElem?_getD, h]
theorem Zs.marks_succ (k : Int) (j : Nat) : Zs.marks k (j + 1) = Zs.marks k j ++ [k + (j : Nat)] := by simp [Zs.marks, List.range_succ]
theorem Zs.marked_set (k : Int) (zs : List Int) (j : Nat) (h : j < zs.length) : (Zs.marked k zs j).set j (k + (j : Nat)) = Zs.marked k zs (j + 1) := by
  unfold Zs.marked
  rw [List.set_append_right _ _ (by simp [Zs.marks]), Zs.marks_length, Nat.sub_self, List.drop_eq_getElem_cons h, Zs.marks_succ, List.set_cons_zero, List.append_assoc]
  rfl
theorem Zs.marked_all (k : Int) (zs : List Int) : Zs.marked k zs zs.length = Zs.marks k zs.length := by simp [Zs.marked]
theorem Zs.marked_length (k : Int) (zs : List Int) (j : Nat) (h : j ≤ zs.length) : (Zs.marked k zs j).length = zs.length := by simp [Zs.marked, Zs.marks]; omega

def Tr.marks (k : Int) (n : Nat) : Tr := (List.range n).map fun j => (k + 2 * (j : Nat), k + 2 * (j : Nat) + 1)
def Tr.marked (k : Int) (xs : Tr) (j : Nat) : Tr := Tr.marks k j ++ xs.drop j
theorem Tr.marks_length (k : Int) (n : Nat) : (Tr.marks k n).length = n := by simp [Tr.marks]
theorem Tr.marks_l (k : Int) (n j : Nat) (h : j < n) : Tr.l (Tr.marks k n) j = k + 2 * (j : Nat) := by simp [Tr.l, Tr.marks, List.getD_eq_getElem?_getD, h]
theorem Tr.marks_d (k : Int) (n j : Nat) (h : j < n) : Tr.d (Tr.marks k n) j = k + 2 * (j : Nat) + 1 := by simp [Tr.d, Tr.marks, List.getD_eq_getElem?_getD, h]
theorem Tr.marks_succ (k : Int) (j : Nat) : Tr.marks k (j + 1) = Tr.marks k j ++ [(k + 2 * (j : Nat), k + 2 * (j : Nat) + 1)] := by simp [Tr.marks, List.range_succ]
theorem Tr.marked_set (k : Int) (xs : Tr) (j : Nat) (h : j < xs.length) : (Tr.marked k xs j).set j (k + 2 * (j : Nat), k + 2 * (j : Nat) + 1) = Tr.marked k xs (j + 1) := by
  unfold Tr.marked
  rw [List.set_append_right _ _ (by simp [Tr.marks]), Tr.marks_length, Nat.sub_self, List.drop_eq_getElem_cons h, Tr.marks_succ, List.set_cons_zero, List.append_assoc]
  rfl
theorem Tr.marked_all (k : Int) (xs : Tr) : Tr.marked k xs xs.length = Tr.marks k xs.length := by simp [Tr.marked]
theorem Tr.marked_length (k : Int) (xs : Tr) (j : Nat) (h : j ≤ xs.length) : (Tr.marked k xs j).length = xs.length := by simp [Tr.marked, Tr.marks]; omega

/-! append of one element, the elements of which lie in a new block -/
/-- out = append(out, x), out a row of ints of the call's own -/
theorem append_int {P : Program} (w : World) {ops : Array Oper} {rest : List Oper} {o : Oper} {a : Act} {Q : Exit → Act → World → Prop} (hgd : o.guard = none) (s x : Operand) (t : TypeId)
    (ho : o.op = .call { callee := .builtin .append, args := #[s, x], argTypes := #[t, t] })
    (base : Nat) (e : TypeId) (i : TypeInfo) (ht : P.underlying t = some (.slice e)) (hi : P.info? e = some i) (hz : i.zero = some (.int .i64 0))
    (hsize : i.size = 1) (hby : i.bytes = 8) (v : Value) (n : Nat) (l : List Int) (hs : a.eval s = v) (hown : w.ownsRow base e 1 v n (ints l)) (hn : n = l.length)
    (b : Int) (hx : a.eval x = .slice (some ⟨w.heap.size, 0, none⟩) 1 1)
    (h63 : l.length + 1 ≤ 1073741824) (hbase : base ≤ w.heap.size)
    (h : ∀ v' w', w'.ownsRow base e 1 v' (l ++ [b]).length (ints (l ++ [b])) → (w.alloc (.cells #[.int .i64 b] e)).grownBy w' v.ownBlock → wpList P ops Q rest (a.put o.dst v') w') :
    wpList P ops Q (o :: rest) a (w.alloc (.cells #[.int .i64 b] e)) := by
  subst hn
  refine wpList_append_own _ hgd s x t ho base e i (.int .i64 0) 1 8 ht hi hz hsize hby rfl (by decide) v l.length (ints l) hs (hown.alloc _) ⟨w.heap.size, 0, none⟩ 1 1 [.int .i64 b] hx rfl ?_ ?_ ?_ ?_ ?_ ?_
  · intro j u hj
    have hj0 : j = 0 := by
      have := (List.getElem?_eq_some_iff.1 hj).1
      simpa using this
    subst hj0
    simp at hj
    subst hj
    simp [Addr.add]
  · intro u hu; simp at hu; subst hu; rfl
  · unfold maxLen; omega
  · omega
  · simp; omega
  · intro v' w' h2 h3 _
    refine h v' w' ?_ h3
    rw [ints_append, List.length_append]
    exact h2
/-- out = append(out, T{a, b}) in a region that draws its order, out a row of such of the call's own -/
theorem step_append_node {P : Program} {ops : Array Oper} {o : Oper} {a : Act} (w : World) {K : Act → World → Prop} {Q : Exit → Act → World → Prop} {E : Prop} (hgd : o.guard = none) (s x : Operand) (t : TypeId)
    (ho : o.op = .call { callee := .builtin .append, args := #[s, x], argTypes := #[t, t] })
    (base : Nat) (e : TypeId) (i : TypeInfo) (ht : P.underlying t = some (.slice e)) (hi : P.info? e = some i) (hz : i.zero = some (.agg #[.int .i64 0, .int .i64 0]))
    (hsize : i.size = 2) (hby : i.bytes = 16) (v : Value) (n : Nat) (l : Tr) (hs : a.eval s = v) (hown : w.ownsRow base e 2 v n (Tr.cells l)) (hn : n = l.length)
    (b1 b2 : Int) (hx : a.eval x = .slice (some ⟨w.heap.size, 0, none⟩) 1 1)
    (h63 : l.length + 1 ≤ 1073741824) (hbase : base ≤ w.heap.size)
    (h : ∀ v' w', w'.ownsRow base e 2 v' (l ++ [(b1, b2)]).length (Tr.cells (l ++ [(b1, b2)])) → (w.alloc (.cells #[.int .i64 b1, .int .i64 b2] e)).grownBy w' v.ownBlock → K (a.put o.dst v') w') :
    if Region.wanted o (yielded ops a.tmps) = true then Oper.wp P o a (w.alloc (.cells #[.int .i64 b1, .int .i64 b2] e)) K Q else E := by
  have hw : Region.wanted o (yielded ops a.tmps) = true := by simp [Region.wanted, hgd]
  rw [if_pos hw]
  subst hn
  refine wp_append_own _ s x t ho base e i (.agg #[.int .i64 0, .int .i64 0]) 2 16 ht hi hz hsize hby rfl (by decide) v l.length (Tr.cells l) hs (hown.alloc _) ⟨w.heap.size, 0, none⟩ 1 1 (Tr.cells [(b1, b2)]) hx (by simp [Tr.cells]) ?_ (Tr.cells_cell _) (by unfold maxLen; omega) (by omega) (by simp; omega) ?_
  · intro j u hj
    have hj2 : j < 2 := by
      have := (List.getElem?_eq_some_iff.1 hj).1
      simpa [Tr.cells] using this
    have : j = 0 ∨ j = 1 := by omega
    rcases this with rfl | rfl <;> (simp [Tr.cells] at hj; subst hj; simp [Addr.add])
  · intro v' w' h2 h3 _
    refine h v' w' ?_ h3
    rw [Tr.cells_append, List.length_append]
    exact h2

end Go.Proofs.Ytlndaflhlkbedaa

/- Contracts (Res). -/
namespace Go.Proofs.Ytlndaflhlkbedaa
open Go.RowKit
set_option linter.unusedVariables false


/-- the answer is a row of ints of the call's own -/
def OwnInts (E : TypeId) (zs : List Int) (w : World) (e : Ending) (w' : World) : Prop :=
  ∃ A c, e = .returned (.slice A zs.length c) ∧ w'.ownsRow w.heap.size E 1 (.slice A zs.length c) zs.length (ints zs) ∧ Below w.heap.size w w'
/-- .. of nodes -/
def OwnNodes (E : TypeId) (xs : Tr) (w : World) (e : Ending) (w' : World) : Prop :=
  ∃ A c, e = .returned (.slice A xs.length c) ∧ w'.ownsRow w.heap.size E 2 (.slice A xs.length c) xs.length (Tr.cells xs) ∧ Below w.heap.size w w'
theorem own_slice {w : World} {base n size : Nat} {e : TypeId} {v : Value} {ys : List Value} (h : w.ownsRow base e size v n ys) : ∃ A c, v = .slice A n c := by
  rcases h.2 with ⟨rfl, rfl⟩ | ⟨g, cap, cur, rfl, _⟩
  · exact ⟨_, _, rfl⟩
  · exact ⟨_, _, rfl⟩
theorem own_drawn {w w' : World} {base n size : Nat} {e : TypeId} {v : Value} {ys : List Value} (h : w.ownsRow base e size v n ys) (k : Drawn w w') : w'.ownsRow base e size v n ys := own_below h k.toBelow
theorem own_nil {w : World} {base size : Nat} {e : TypeId} : w.ownsRow base e size (.slice none 0 0) 0 [] := World.ownsRow_nil w base e size
theorem own_base {w : World} {base base' n size : Nat} {e : TypeId} {v : Value} {ys : List Value} (h : w.ownsRow base e size v n ys) (hb : base' ≤ base) : w.ownsRow base' e size v n ys := by
  refine ⟨h.1, ?_⟩
  rcases h.2 with h | ⟨g, cap, cur, hv, hg, h⟩
  · exact .inl h
  · exact .inr ⟨g, cap, cur, hv, Nat.le_trans hb hg, h⟩
def Tr.kidsZ (xs : Tr) (i k : Nat) : List Int := (Tr.kidsTo xs i k).map fun (m : Nat) => (m : Int)
theorem Tr.kidsZ_succ (xs : Tr) (i k : Nat) (hk : i < k) : Tr.kidsZ xs i (k + 1) = if Tr.d xs k = Tr.d xs i + 1 then Tr.kidsZ xs i k ++ [(k : Int)] else Tr.kidsZ xs i k := by
  unfold Tr.kidsZ
  rw [Tr.kidsTo_succ xs i k hk]
  split <;> simp
theorem Tr.kidsZ_start (xs : Tr) (i : Nat) : Tr.kidsZ xs i (i + 1) = [] := by simp [Tr.kidsZ, Tr.kidsTo_start]
theorem Tr.kidsZ_len (xs : Tr) (i k : Nat) : (Tr.kidsZ xs i k).length ≤ k := by simpa [Tr.kidsZ] using Tr.kidsTo_le xs i k
def Tr.kidsI (xs : Tr) (i : Int) : List Int := (Tr.kidsOf xs i).map fun (m : Nat) => (m : Int)
theorem Tr.kidsI_yes {xs : Tr} {j : Nat} (h : Tr.has xs j = true) : Tr.kidsI xs j = Tr.kidsZ xs j (Tr.endN xs j) := by simp [Tr.kidsI, Tr.kidsOf, h, Tr.kidsZ]
theorem Tr.kidsI_no {xs : Tr} {i : Int} (h : Tr.has xs i = false) : Tr.kidsI xs i = [] := by simp [Tr.kidsI, Tr.kidsOf, h]
theorem Tr.endOf_yes {xs : Tr} {j : Nat} (h : Tr.has xs j = true) : Tr.endOf xs j = (Tr.endN xs j : Nat) := by simp [Tr.endOf, h]
theorem Tr.endOf_no {xs : Tr} {i : Int} (h : Tr.has xs i = false) : Tr.endOf xs i = -1 := by simp [Tr.endOf, h]
theorem Tr.subTree_yes {xs : Tr} {j : Nat} (h : Tr.has xs j = true) : Tr.subTree xs j = Tr.subTo xs j (Tr.endN xs j) := by simp [Tr.subTree, h]
theorem Tr.subTree_len (xs : Tr) (i : Int) : (Tr.subTree xs i).length ≤ xs.length := by
  rcases h : Tr.has xs i with _ | _
  · rw [show Tr.subTree xs i = [] by simp [Tr.subTree, h]]; simp
  · have h1 := (Tr.has_iff.1 h).2
    obtain ⟨j, rfl⟩ := Int.eq_ofNat_of_zero_le h1.1
    rw [Tr.subTree_yes h, Tr.subTo_length]
    have := (Tr.endN_spec xs j (by omega)).2.1
    omega
theorem Tr.kidsI_len (xs : Tr) (i : Int) : (Tr.kidsI xs i).length ≤ xs.length := by
  rcases h : Tr.has xs i with _ | _
  · rw [Tr.kidsI_no h]; simp
  · have h1 := (Tr.has_iff.1 h).2
    obtain ⟨j, rfl⟩ := Int.eq_ofNat_of_zero_le h1.1
    rw [Tr.kidsI_yes h]
    have h2 := (Tr.endN_spec xs j (by omega)).2.1
    have h3 := Tr.kidsZ_len xs j (Tr.endN xs j)
    omega
theorem Tr.subTree_no {xs : Tr} {i : Int} (h : Tr.has xs i = false) : Tr.subTree xs i = [] := by simp [Tr.subTree, h]
theorem own_cap {w : World} {base n size : Nat} {e : TypeId} {A : Option Addr} {c : Nat} {ys : List Value} (h : w.ownsRow base e size (.slice A n c) n ys) : n ≤ c := by
  rcases h.2 with ⟨h1, h2⟩ | ⟨g, cap, cur, hv, _, _, hle, _⟩
  · omega
  · injection hv with h1 h2 h3
    omega

end Go.Proofs.Ytlndaflhlkbedaa

/- Contracts (KinP). -/
namespace Go.Proofs.Ytlndaflhlkbedaa
open Go.RowKit
set_option linter.unusedVariables false

/-! mathematics of the laws on kin -/
theorem Tr.has_nat {xs : Tr} {i : Nat} (hok : Tr.ok xs = true) (hi : i < xs.length) : Tr.has xs (i : Int) = true := Tr.has_iff.2 ⟨hok, Int.natCast_nonneg i, Int.ofNat_lt.2 hi⟩
theorem Tr.under_nat {xs : Tr} {i j : Nat} (hok : Tr.ok xs = true) (hi : i < xs.length) (hj : j < xs.length) : Tr.under xs i j = decide (i < j ∧ j < Tr.endN xs i) := by
  unfold Tr.under
  rw [Tr.has_nat hok hi, Tr.has_nat hok hj, Tr.endOf_yes (Tr.has_nat hok hi), Bool.eq_iff_iff]
  simp
theorem Tr.leftOf_nat {xs : Tr} {i j : Nat} (hok : Tr.ok xs = true) (hi : i < xs.length) (hj : j < xs.length) : Tr.leftOf xs i j = decide (Tr.endN xs i ≤ j) := by
  unfold Tr.leftOf
  rw [Tr.has_nat hok hi, Tr.has_nat hok hj, Tr.endOf_yes (Tr.has_nat hok hi), Bool.eq_iff_iff]
  simp
theorem Tr.under_no {xs : Tr} {i j : Int} (h : ¬ (Tr.has xs i = true ∧ Tr.has xs j = true)) : Tr.under xs i j = false ∧ Tr.leftOf xs i j = false := by
  unfold Tr.under Tr.leftOf
  rcases h1 : Tr.has xs i with _ | _
  · exact ⟨rfl, rfl⟩
  · rcases h2 : Tr.has xs j with _ | _
    · exact ⟨rfl, rfl⟩
    · exact absurd ⟨h1, h2⟩ h
/-- the five ways in which two nodes stand to one another -/
def Tr.ways (xs : Tr) (i j : Nat) : List Bool := [decide ((i : Int) = j), Tr.under xs i j, Tr.under xs j i, Tr.leftOf xs i j, Tr.leftOf xs j i]
def Bs.count (bs : List Bool) (k : Nat) : Nat := (bs.take k).countP id
theorem Bs.count_succ (bs : List Bool) (k : Nat) (h : k < bs.length) : Bs.count bs (k + 1) = if bs.getD k false = true then Bs.count bs k + 1 else Bs.count bs k := by
  unfold Bs.count
  rw [List.take_succ_eq_append_getElem h, List.countP_append]
  have e : bs.getD k false = bs[k] := by simp [List.getD_eq_getElem?_getD, h]
  rw [e]
  rcases bs[k] with _ | _ <;> simp
theorem Bs.count_le (bs : List Bool) (k : Nat) : Bs.count bs k ≤ k := by
  have := List.countP_le_length (p := id) (l := bs.take k)
  have h2 := List.length_take_le k bs
  unfold Bs.count
  omega
theorem Tr.one_way {xs : Tr} {i j : Nat} (hok : Tr.ok xs = true) (hi : i < xs.length) (hj : j < xs.length) : Bs.count (Tr.ways xs i j) 5 = 1 := by
  have a := Tr.endN_dn hok hi
  have b := Tr.endN_dn hok hj
  unfold Tr.ways Bs.count
  rw [Tr.under_nat hok hi hj, Tr.under_nat hok hj hi, Tr.leftOf_nat hok hi hj, Tr.leftOf_nat hok hj hi]
  rcases Nat.lt_trichotomy i j with h | h | h
  · by_cases q : j < Tr.endN xs i
    · have e0 : decide ((i : Int) = j) = false := by simp only [decide_eq_false_iff_not]; omega
      have e1 : decide (i < j ∧ j < Tr.endN xs i) = true := by simp only [decide_eq_true_eq]; omega
      have e2 : decide (j < i ∧ i < Tr.endN xs j) = false := by simp only [decide_eq_false_iff_not]; omega
      have e3 : decide (Tr.endN xs i ≤ j) = false := by simp only [decide_eq_false_iff_not]; omega
      have e4 : decide (Tr.endN xs j ≤ i) = false := by simp only [decide_eq_false_iff_not]; omega
      rw [e0, e1, e2, e3, e4]; rfl
    · have e0 : decide ((i : Int) = j) = false := by simp only [decide_eq_false_iff_not]; omega
      have e1 : decide (i < j ∧ j < Tr.endN xs i) = false := by simp only [decide_eq_false_iff_not]; omega
      have e2 : decide (j < i ∧ i < Tr.endN xs j) = false := by simp only [decide_eq_false_iff_not]; omega
      have e3 : decide (Tr.endN xs i ≤ j) = true := by simp only [decide_eq_true_eq]; omega
      have e4 : decide (Tr.endN xs j ≤ i) = false := by simp only [decide_eq_false_iff_not]; omega
      rw [e0, e1, e2, e3, e4]; rfl
  · have e0 : decide ((i : Int) = j) = true := by simp only [decide_eq_true_eq]; omega
    have e1 : decide (i < j ∧ j < Tr.endN xs i) = false := by simp only [decide_eq_false_iff_not]; omega
    have e2 : decide (j < i ∧ i < Tr.endN xs j) = false := by simp only [decide_eq_false_iff_not]; omega
    have e3 : decide (Tr.endN xs i ≤ j) = false := by simp only [decide_eq_false_iff_not]; omega
    have e4 : decide (Tr.endN xs j ≤ i) = false := by simp only [decide_eq_false_iff_not]; omega
    rw [e0, e1, e2, e3, e4]; rfl
  · by_cases q : i < Tr.endN xs j
    · have e0 : decide ((i : Int) = j) = false := by simp only [decide_eq_false_iff_not]; omega
      have e1 : decide (i < j ∧ j < Tr.endN xs i) = false := by simp only [decide_eq_false_iff_not]; omega
      have e2 : decide (j < i ∧ i < Tr.endN xs j) = true := by simp only [decide_eq_true_eq]; omega
      have e3 : decide (Tr.endN xs i ≤ j) = false := by simp only [decide_eq_false_iff_not]; omega
      have e4 : decide (Tr.endN xs j ≤ i) = false := by simp only [decide_eq_false_iff_not]; omega
      rw [e0, e1, e2, e3, e4]; rfl
    · have e0 : decide ((i : Int) = j) = false := by simp only [decide_eq_false_iff_not]; omega
      have e1 : decide (i < j ∧ j < Tr.endN xs i) = false := by simp only [decide_eq_false_iff_not]; omega
      have e2 : decide (j < i ∧ i < Tr.endN xs j) = false := by simp only [decide_eq_false_iff_not]; omega
      have e3 : decide (Tr.endN xs i ≤ j) = false := by simp only [decide_eq_false_iff_not]; omega
      have e4 : decide (Tr.endN xs j ≤ i) = true := by simp only [decide_eq_true_eq]; omega
      rw [e0, e1, e2, e3, e4]; rfl
theorem Tr.back_is {xs : Tr} {dep : Int} {p : Nat} (hp : Tr.d xs p < dep) : ∀ j, p < j → (∀ m, p < m → m < j → dep ≤ Tr.d xs m) → Tr.back xs dep j = p := by
  intro j
  induction j with
  | zero => intro h _; omega
  | succ j ih =>
    intro h hall
    unfold Tr.back
    by_cases e : j = p
    · subst e; rw [if_pos hp]
    · have := hall j (by omega) (by omega)
      rw [if_neg (by omega)]
      exact ih (by omega) (fun m h1 h2 => hall m h1 (by omega))
theorem Tr.back_ex {xs : Tr} {dep : Int} : ∀ j, (∃ q, q < j ∧ Tr.d xs q < dep) → ∃ p, p < j ∧ Tr.d xs p < dep ∧ ∀ m, p < m → m < j → dep ≤ Tr.d xs m := by
  intro j
  induction j with
  | zero => rintro ⟨q, h, _⟩; omega
  | succ j ih =>
    rintro ⟨q, h1, h2⟩
    by_cases e : Tr.d xs j < dep
    · exact ⟨j, by omega, e, fun m a b => by omega⟩
    · have hq : q ≠ j := fun r => by subst r; exact e h2
      obtain ⟨p, a, b, c⟩ := ih ⟨q, by omega, h2⟩
      refine ⟨p, by omega, b, fun m d1 d2 => ?_⟩
      by_cases r : m = j
      · subst r; omega
      · exact c m d1 (by omega)
theorem Tr.kid_in {xs : Tr} {p j : Nat} (hpj : p < j) (hje : j < Tr.endN xs p) (hd : Tr.d xs j = Tr.d xs p + 1) : j ∈ Tr.kidsTo xs p (Tr.endN xs p) := by
  unfold Tr.kidsTo
  simp [hje, hpj, hd]
section
variable {xs : Tr} (hok : Tr.ok xs = true)
include hok
theorem Tr.parent_zero : Tr.parentOf xs ((0 : Nat) : Int) = -1 := by
  have h0 := (Tr.ok_iff.1 hok).2
  unfold Tr.parentOf
  rw [Tr.has_nat hok (by omega)]
  rfl
theorem Tr.parent_pos {j : Nat} (hj : j < xs.length) (h0 : 0 < j) : ∃ p : Nat, p < j ∧ Tr.parentOf xs (j : Int) = (p : Int) ∧ Tr.d xs p = Tr.d xs j - 1 ∧ j < Tr.endN xs p := by
  have hz := Tr.dn_zero hok
  have hz2 := Tr.dn_eq hok (i := 0) (by omega)
  have hk := (Tr.ok_at hok hj).2
  obtain ⟨p, h1, h2, h3⟩ := Tr.back_ex (xs := xs) (dep := Tr.d xs j) j ⟨0, h0, by
    have : ¬ Tr.d xs j = 0 := fun e => by have := hk.2.1.1 e; omega
    omega⟩
  have hb := Tr.back_is h2 j h1 h3
  have hp := Tr.endN_dn hok (i := p) (by omega)
  have hd1 := Tr.dn_eq hok (i := p) (by omega)
  have hd2 := Tr.dn_eq hok hj
  refine ⟨p, h1, ?_, ?_, ?_⟩
  · unfold Tr.parentOf
    rw [Tr.has_nat hok hj]
    exact hb
  · have hs := (Tr.dn_succ hok (i := p) (by omega)).2
    have hd3 := Tr.dn_eq hok (i := p + 1) (by omega)
    by_cases e : p + 1 = j
    · rw [e] at hs hd3; omega
    · have := h3 (p + 1) (by omega) (by omega)
      omega
  · by_cases e : j < Tr.endN xs p
    · exact e
    · exfalso
      rcases hp.2.2.2 with q | ⟨q1, q2⟩
      · omega
      · by_cases r : Tr.endN xs p = j
        · rw [r] at q2; omega
        · have := h3 (Tr.endN xs p) (by omega) (by omega)
          have := Tr.dn_eq hok (i := Tr.endN xs p) (by omega)
          omega
theorem Tr.rank_pos {j : Nat} (hj : j < xs.length) : 0 ≤ Tr.kidRank xs (j : Int) ↔ 0 < j := by
  have find_mem : ∀ (zs : List Int) (i : Int) (k : Nat), i ∈ zs → 0 ≤ Zs.find zs i k := by
    intro zs i
    induction zs with
    | nil => intro k h; cases h
    | cons z zs ih =>
      intro k h
      unfold Zs.find
      by_cases e : z = i
      · rw [if_pos e]; omega
      · rw [if_neg e]
        rcases List.mem_cons.1 h with r | r
        · exact absurd r.symm e
        · exact ih _ r
  constructor
  · intro h
    by_cases e : j = 0
    · subst e
      unfold Tr.kidRank at h
      rw [Tr.parent_zero hok] at h
      simp at h
    · omega
  · intro h
    obtain ⟨p, h1, h2, h3, h4⟩ := Tr.parent_pos hok hj h
    unfold Tr.kidRank
    rw [h2, if_neg (by omega)]
    refine find_mem _ _ _ ?_
    rw [show Tr.kidsOf xs (p : Int) = Tr.kidsTo xs p (Tr.endN xs p) by unfold Tr.kidsOf; rw [Tr.has_nat hok (by omega)]; rfl]
    exact List.mem_map.2 ⟨j, Tr.kid_in h1 h4 (by omega), rfl⟩
end

end Go.Proofs.Ytlndaflhlkbedaa

/- Contracts (IdxP). -/
namespace Go.Proofs.Ytlndaflhlkbedaa
open Go.RowKit
set_option linter.unusedVariables false

theorem Zs.last_iff (F : List Nat) (k m : Nat) : Zs.lastTo F k m = true ↔ ∀ j, j < m → k < j → F.getD j 0 ≠ F.getD k 0 := by
  simp only [Zs.lastTo, List.all_eq_true, List.mem_range, Bool.or_eq_true, decide_eq_true_eq]
  constructor
  · intro h j h1 h2
    rcases h j h1 with q | q
    · omega
    · exact q
  · intro h j h1
    by_cases q : j ≤ k
    · exact .inl q
    · exact .inr (h j h1 (by omega))
theorem Zs.last_ex (F : List Nat) (m : Nat) : ∀ r p, m - p = r → p < m → ∃ q, q < m ∧ Zs.lastTo F q m = true ∧ F.getD q 0 = F.getD p 0 := by
  intro r
  induction r using Nat.strongRecOn with
  | ind r ih =>
    intro p hr hp
    by_cases h : Zs.lastTo F p m = true
    · exact ⟨p, hp, h, rfl⟩
    · have h2 : ∃ j, j < m ∧ p < j ∧ F.getD j 0 = F.getD p 0 := by
        refine Classical.byContradiction fun hn => h ((Zs.last_iff F p m).2 fun j h1 h3 e => hn ⟨j, h1, h3, e⟩)
      obtain ⟨j, h3, h4, h5⟩ := h2
      obtain ⟨q, q1, q2, q3⟩ := ih (m - j) (by omega) j rfl h3
      exact ⟨q, q1, q2, q3.trans h5⟩
theorem Tr.leaves_list (xs : Tr) (k : Nat) : Tr.leavesTo xs k = ((List.range k).filter fun j => decide (Tr.endN xs j = j + 1)).length := by
  induction k with
  | zero => rfl
  | succ k ih =>
    rw [Tr.leavesTo_succ, List.range_succ, List.filter_append, List.length_append, ih]
    by_cases h : Tr.endN xs k = k + 1 <;> simp [h]
section
variable {xs : Tr} (hok : Tr.ok xs = true)
include hok
theorem Tr.leaf_ex : ∀ r i, i < xs.length → Tr.endN xs i - i = r → ∃ l, i ≤ l ∧ l < Tr.endN xs i ∧ Tr.endN xs l = l + 1 ∧ l + Tr.dn xs i = i + Tr.dn xs l := by
  intro r
  induction r using Nat.strongRecOn with
  | ind r ih =>
    intro i hi hr
    have a := Tr.endN_dn hok hi
    by_cases e : Tr.endN xs i = i + 1
    · exact ⟨i, Nat.le_refl _, a.1, e, rfl⟩
    · have h1 := a.2.2.1 (i + 1) (by omega) (by omega)
      have h2 := (Tr.dn_succ hok (i := i) (by omega)).2
      have h3 := Tr.endN_in hok hi (j := i + 1) (by omega) (by omega)
      have h4 := (Tr.endN_dn hok (i := i + 1) (by omega)).1
      obtain ⟨l, l1, l2, l3, l4⟩ := ih (Tr.endN xs (i + 1) - (i + 1)) (by omega) (i + 1) (by omega) rfl
      exact ⟨l, by omega, by omega, l3, by omega⟩
theorem Tr.lf_at {p : Nat} (hp : p < xs.length) : ∃ i, i < xs.length ∧ Tr.rk xs i = p ∧ (Tr.lfs xs).getD p 0 = i - Tr.dn xs i := by
  obtain ⟨i, h1, h2, h3⟩ := Tr.post_get hok hp
  refine ⟨i, h1, h3, ?_⟩
  unfold Tr.lfs
  rw [List.getD_eq_getElem?_getD, List.getElem?_map, h2]
  rfl
theorem Tr.lf_rk {i : Nat} (hi : i < xs.length) : (Tr.lfs xs).getD (Tr.rk xs i) 0 = i - Tr.dn xs i := by
  obtain ⟨j, h1, h2, h3⟩ := Tr.lf_at hok (Tr.rk_lt hok hi)
  rw [h3, Tr.rk_inj hok h1 hi h2]
theorem Tr.krs_leaves : (Tr.krs xs).length = Tr.leavesTo xs xs.length := by
  have hlen : (Tr.lfs xs).length = xs.length := by rw [Tr.lfs_length, Tr.post_length hok]
  obtain ⟨F, hF⟩ : ∃ F, F = Tr.lfs xs := ⟨_, rfl⟩
  have hkr : Tr.krs xs = (List.range xs.length).filter fun j => Zs.lastTo F j xs.length := by
    unfold Tr.krs Tr.krTo
    rw [← hF] at hlen ⊢
    rw [hlen]
  have hmem : ∀ p, p ∈ Tr.krs xs ↔ p < xs.length ∧ Zs.lastTo F p xs.length = true := fun p => by rw [hkr]; simp
  have nd1 : ((Tr.krs xs).map fun p => F.getD p 0).Nodup := by
    unfold List.Nodup
    rw [List.pairwise_map]
    have hpw : List.Pairwise (· < ·) (Tr.krs xs) := by rw [hkr]; exact List.pairwise_lt_range.filter _
    refine List.Pairwise.imp_of_mem (fun {a b} ha hb hab e => ?_) hpw
    exact (Zs.last_iff F a xs.length).1 ((hmem a).1 ha).2 b ((hmem b).1 hb).1 hab e.symm
  have nd2 : (((List.range xs.length).filter fun j => decide (Tr.endN xs j = j + 1)).map (Tr.rk xs)).Nodup := by
    unfold List.Nodup
    rw [List.pairwise_map]
    have hpw : List.Pairwise (· < ·) ((List.range xs.length).filter fun j => decide (Tr.endN xs j = j + 1)) := List.pairwise_lt_range.filter _
    refine List.Pairwise.imp_of_mem (fun {a b} ha hb hab e => ?_) hpw
    simp only [List.mem_filter, List.mem_range] at ha hb
    have := Tr.rk_inj hok ha.1 hb.1 e
    omega
  have hperm := (List.perm_ext_iff_of_nodup nd1 nd2).2 fun v => by
    simp only [List.mem_map, List.mem_filter, List.mem_range, decide_eq_true_eq]
    constructor
    · rintro ⟨p, hp, rfl⟩
      obtain ⟨i, h1, h2, h3⟩ := Tr.lf_at hok ((hmem p).1 hp).1
      obtain ⟨l, l1, l2, l3, l4⟩ := Tr.leaf_ex hok _ i h1 rfl
      have hln : l < xs.length := by have := (Tr.endN_dn hok h1).2.1; omega
      refine ⟨l, ⟨hln, l3⟩, ?_⟩
      have q1 := Tr.dn_le hok h1
      have q2 := Tr.dn_le hok hln
      rw [hF, h3]
      unfold Tr.rk
      rw [l3]
      omega
    · rintro ⟨l, ⟨hln, l3⟩, rfl⟩
      have h3 := Tr.lf_rk hok hln
      obtain ⟨q, q1, q2, q3⟩ := Zs.last_ex F xs.length _ (Tr.rk xs l) rfl (Tr.rk_lt hok hln)
      refine ⟨q, (hmem q).2 ⟨q1, q2⟩, ?_⟩
      rw [q3, hF, h3]
      unfold Tr.rk
      rw [l3]
      omega
  have := hperm.length_eq
  rw [List.length_map, List.length_map, ← Tr.leaves_list] at this
  exact this
theorem Tr.krs_last : ∃ r, Tr.krs xs = r ++ [xs.length - 1] := by
  have hlen : (Tr.lfs xs).length = xs.length := by rw [Tr.lfs_length, Tr.post_length hok]
  have h1 := (Tr.ok_iff.1 hok).2
  refine ⟨Tr.krTo xs (xs.length - 1), ?_⟩
  unfold Tr.krs
  have := Tr.krTo_succ xs (xs.length - 1)
  rw [show xs.length - 1 + 1 = xs.length by omega, hlen] at this
  rw [hlen, this, if_pos ((Zs.last_iff _ _ _).2 fun j h2 h3 => by omega)]
end
theorem Tr.krs_rise {xs : Tr} {a b : Nat} (hab : a < b) (hb : b < (Tr.krs xs).length) : (Tr.krs xs)[a] < (Tr.krs xs)[b] := by
  have hpw : List.Pairwise (· < ·) (Tr.krs xs) := by unfold Tr.krs Tr.krTo; exact List.pairwise_lt_range.filter _
  exact List.pairwise_iff_getElem.1 hpw a b (by omega) hb hab

end Go.Proofs.Ytlndaflhlkbedaa

/- Contracts (FrT). -/
namespace Go.Proofs.Ytlndaflhlkbedaa
open Go.RowKit
set_option linter.unusedVariables false

/-! The first leaves of a right tree nest; its key roots. -/
def Tr.la (xs : Tr) (p : Nat) : Nat := (Tr.lfs xs).getD p 0
def Tr.lab (xs : Tr) : List Int := (Tr.post xs).map fun i => Tr.l xs i
def Tr.xa (xs : Tr) (p : Nat) : Int := (Tr.lab xs).getD p 0
theorem Tr.lab_length (xs : Tr) : (Tr.lab xs).length = (Tr.post xs).length := by simp [Tr.lab]
section
variable {xs : Tr} (hok : Tr.ok xs = true)
include hok
theorem Tr.la_at {p : Nat} (hp : p < xs.length) : ∃ i, i < xs.length ∧ Tr.rk xs i = p ∧ Tr.la xs p = i - Tr.dn xs i ∧ Tr.xa xs p = Tr.l xs i ∧ (Tr.post xs)[p]? = some i := by
  obtain ⟨i, h1, h2, h3⟩ := Tr.post_get hok hp
  refine ⟨i, h1, h3, ?_, ?_, h2⟩
  · unfold Tr.la Tr.lfs
    rw [List.getD_eq_getElem?_getD, List.getElem?_map, h2]
    rfl
  · unfold Tr.xa Tr.lab
    rw [List.getD_eq_getElem?_getD, List.getElem?_map, h2]
    rfl
theorem Tr.la_nest : Nest (Tr.la xs) xs.length := by
  intro p hp
  obtain ⟨i, h1, h2, h3, _⟩ := Tr.la_at hok hp
  have a := Tr.endN_dn hok h1
  have b := Tr.dn_le hok h1
  have e : Tr.rk xs i = Tr.endN xs i - 1 - Tr.dn xs i := rfl
  refine ⟨by rw [h3, ← h2, e]; omega, fun q hq hqp => ?_⟩
  obtain ⟨j, k1, k2, k3, _⟩ := Tr.la_at hok (p := q) (by omega)
  rw [h3] at hq
  rw [h3, k3]
  have c := Tr.endN_dn hok k1
  have d := Tr.dn_le hok k1
  have e2 : Tr.rk xs j = Tr.endN xs j - 1 - Tr.dn xs j := rfl
  have hij : i < j := by
    rcases Nat.lt_trichotomy i j with h | h | h
    · exact h
    · subst h; omega
    · by_cases hu : i < Tr.endN xs j
      · have := Tr.rk_under hok k1 h hu
        omega
      · have h5 := Tr.gap_mono hok (i := Tr.endN xs j) (j := i) (by omega) h1
        rcases c.2.2.2 with h6 | ⟨h6, h7⟩
        · omega
        · omega
  have := Tr.gap_mono hok (i := i) (j := j) (by omega) k1
  omega
/-- the last place of the whole tree -/
theorem Tr.la_last : Tr.la xs (xs.length - 1) = 0 := by
  have h1 := (Tr.ok_iff.1 hok).2
  obtain ⟨i, a, b, c, _⟩ := Tr.la_at hok (p := xs.length - 1) (by omega)
  have h0 := Tr.rk_inj hok (i := 0) (j := i) (by omega) a (by
    rw [b]
    unfold Tr.rk
    rw [Tr.endN_zero hok, Tr.dn_zero hok]
    omega)
  rw [c, ← h0]
  omega
/-- each place has its key root: the last one with the same first leaf -/
theorem Tr.kr_ex {p : Nat} (hp : p < xs.length) : ∃ q, q ∈ Tr.krs xs ∧ p ≤ q ∧ q < xs.length ∧ Tr.la xs q = Tr.la xs p := by
  have hlen : (Tr.lfs xs).length = xs.length := by rw [Tr.lfs_length, Tr.post_length hok]
  have key : ∀ r p, xs.length - p = r → p < xs.length → ∃ q, p ≤ q ∧ q < xs.length ∧ Zs.lastTo (Tr.lfs xs) q xs.length = true ∧ Tr.la xs q = Tr.la xs p := by
    intro r
    induction r using Nat.strongRecOn with
    | ind r ih =>
      intro p hr hp
      by_cases h : Zs.lastTo (Tr.lfs xs) p xs.length = true
      · exact ⟨p, Nat.le_refl _, hp, h, rfl⟩
      · have h2 : ∃ j, j < xs.length ∧ p < j ∧ (Tr.lfs xs).getD j 0 = (Tr.lfs xs).getD p 0 := by
          refine Classical.byContradiction fun hn => h ((Zs.last_iff _ p _).2 fun j h1 h3 e => hn ⟨j, h1, h3, e⟩)
        obtain ⟨j, h3, h4, h5⟩ := h2
        obtain ⟨q, q1, q2, q3, q4⟩ := ih (xs.length - j) (by omega) j rfl h3
        exact ⟨q, by omega, q2, q3, q4.trans h5⟩
  obtain ⟨q, h1, h2, h3, h4⟩ := key _ p rfl hp
  refine ⟨q, ?_, h1, h2, h4⟩
  unfold Tr.krs Tr.krTo
  rw [hlen]
  simp [h2, h3]
theorem Tr.kr_last {q j : Nat} (hq : q ∈ Tr.krs xs) (hj : j < xs.length) (hqj : q < j) : Tr.la xs j ≠ Tr.la xs q := by
  have hlen : (Tr.lfs xs).length = xs.length := by rw [Tr.lfs_length, Tr.post_length hok]
  unfold Tr.krs Tr.krTo at hq
  rw [hlen] at hq
  simp only [List.mem_filter, List.mem_range] at hq
  exact (Zs.last_iff _ _ _).1 hq.2 j hj hqj
/-- of a place under key root i that begins later, the key root stands ahead of i -/
theorem Tr.kr_under {i p q : Nat} (hi : i < xs.length) (hp1 : Tr.la xs i ≤ p) (hp2 : p ≤ i) (hla : Tr.la xs p ≠ Tr.la xs i) (hq : q < xs.length) (hqp : p ≤ q) (hql : Tr.la xs q = Tr.la xs p) : q < i := by
  have hN := Tr.la_nest hok
  have h1 : Tr.la xs i ≤ Tr.la xs p := by
    rcases Nat.lt_or_ge p i with h | h
    · exact (hN i hi).2 p hp1 h
    · have : p = i := by omega
      subst this; exact absurd rfl hla
  rcases Nat.lt_trichotomy q i with h | h | h
  · exact h
  · subst h; omega
  · have h2 := (hN q hq).2 i (by have := (hN p (by omega)).1; omega) h
    omega
end

end Go.Proofs.Ytlndaflhlkbedaa

/- Contracts (Co). -/
namespace Go.Proofs.Ytlndaflhlkbedaa
open Go.RowKit
set_option linter.unusedVariables false

/-! Costs: three rows of numbers. -/
structure Co where
  d : List Int
  i : List Int
  r : List Int
def Zs.fit (zs : List Int) (n : Nat) : Bool := zs.all (fun z => decide (0 ≤ z ∧ z ≤ 1000)) && decide (zs.length = n)
def Co.diag (k : Co) : Bool := (List.range 6).all fun a => decide (k.r.getD (a * 6 + a) 0 = 0)
def Co.ok (k : Co) : Bool := Zs.fit k.d 6 && Zs.fit k.i 6 && Zs.fit k.r 36 && Co.diag k
theorem Zs.fit_iff {zs : List Int} {n : Nat} : Zs.fit zs n = true ↔ zs.length = n ∧ ∀ k, k < zs.length → 0 ≤ Zs.at zs k ∧ Zs.at zs k ≤ 1000 := by
  simp only [Zs.fit, Bool.and_eq_true, List.all_eq_true, decide_eq_true_eq]
  constructor
  · rintro ⟨h, e⟩
    refine ⟨e, fun k hk => ?_⟩
    have := h (zs[k]) (List.getElem_mem hk)
    simpa [Zs.at, List.getD_eq_getElem?_getD, hk] using this
  · rintro ⟨e, h⟩
    refine ⟨fun z hz => ?_, e⟩
    obtain ⟨k, hk, rfl⟩ := List.getElem_of_mem hz
    have := h k hk
    simpa [Zs.at, List.getD_eq_getElem?_getD, hk] using this
/-- the first k numbers stand within bounds -/
def Zs.inTo (zs : List Int) (k : Nat) : Prop := ∀ j, j < k → 0 ≤ Zs.at zs j ∧ Zs.at zs j ≤ 1000
theorem Zs.fit_not {zs : List Int} {k n : Nat} (hk : k < zs.length) (h : ¬ (0 ≤ Zs.at zs k ∧ Zs.at zs k ≤ 1000)) : Zs.fit zs n = false := by
  rw [Bool.eq_false_iff]
  exact fun e => h ((Zs.fit_iff.1 e).2 k hk)
theorem Zs.fit_all {zs : List Int} {n : Nat} (h : Zs.inTo zs zs.length) : Zs.fit zs n = decide (zs.length = n) := by
  rw [Bool.eq_iff_iff, Zs.fit_iff]
  simp only [decide_eq_true_eq]
  exact ⟨fun e => e.1, fun e => ⟨e, h⟩⟩
def Co.del (k : Co) (a : Int) : Int := if Co.ok k && Lab.ok a then Zs.at k.d a.toNat else 0
def Co.ins (k : Co) (a : Int) : Int := if Co.ok k && Lab.ok a then Zs.at k.i a.toNat else 0
def Co.rel (k : Co) (a b : Int) : Int := if Co.ok k && Lab.ok a && Lab.ok b then Zs.at k.r (a * 6 + b).toNat else 0
theorem Co.ok_iff {k : Co} : Co.ok k = true ↔ Zs.fit k.d 6 = true ∧ Zs.fit k.i 6 = true ∧ Zs.fit k.r 36 = true ∧ Co.diag k = true := by
  simp only [Co.ok, Bool.and_eq_true, and_assoc]
/-- the three slices of a cost read as k -/
def CoIn (w : World) (B : Nat) (A0 A1 A2 : Option Addr) (n0 n1 n2 : Nat) (k : Co) : Prop := IntIn w B A0 n0 k.d ∧ IntIn w B A1 n1 k.i ∧ IntIn w B A2 n2 k.r
section
variable {w w' : World} {B : Nat} {A0 A1 A2 : Option Addr} {n0 n1 n2 : Nat} {k : Co}
theorem CoIn.below (h : CoIn w B A0 A1 A2 n0 n1 n2 k) (hb : Below B w w') : CoIn w' B A0 A1 A2 n0 n1 n2 k := ⟨h.1.below hb, h.2.1.below hb, h.2.2.below hb⟩
theorem CoIn.drawn (h : CoIn w B A0 A1 A2 n0 n1 n2 k) (hd : Drawn w w') : CoIn w' B A0 A1 A2 n0 n1 n2 k := ⟨h.1.drawn hd, h.2.1.drawn hd, h.2.2.drawn hd⟩
theorem CoIn.to_below (h : CoIn w w.heap.size A0 A1 A2 n0 n1 n2 k) (hb : Below w.heap.size w w') : CoIn w' w'.heap.size A0 A1 A2 n0 n1 n2 k := ⟨h.1.to_below hb, h.2.1.to_below hb, h.2.2.to_below hb⟩
theorem CoIn.to_drawn (h : CoIn w w.heap.size A0 A1 A2 n0 n1 n2 k) (hd : Drawn w w') : CoIn w' w'.heap.size A0 A1 A2 n0 n1 n2 k := h.to_below hd.toBelow
theorem CoIn.more {B' : Nat} (h : CoIn w B A0 A1 A2 n0 n1 n2 k) (hB : B ≤ B') : CoIn w B' A0 A1 A2 n0 n1 n2 k := ⟨h.1.more hB, h.2.1.more hB, h.2.2.more hB⟩
theorem CoIn.len (h : CoIn w B A0 A1 A2 n0 n1 n2 k) : k.d.length = n0 ∧ k.i.length = n1 ∧ k.r.length = n2 := ⟨h.1.1, h.2.1.1, h.2.2.1⟩
end

end Go.Proofs.Ytlndaflhlkbedaa

/- Contracts (Mem3). -/
namespace Go.Proofs.Ytlndaflhlkbedaa
open Go.RowKit
set_option linter.unusedVariables false

/-- the rows a and b lie in blocks apart (a's may be none) -/
def Apart (a b : Value) : Prop := a.ownBlock = none ∨ a.ownBlock ≠ b.ownBlock
theorem Apart.grew {kv ov v' : Value} {w : World} {base size n : Nat} {e : TypeId} {ys : List Value} (h : Apart kv ov) (hk : w.ownsRow base e size kv n ys) (hv : v'.ownBlock = ov.ownBlock ∨ v'.ownBlock = some w.heap.size) : Apart kv v' := by
  rcases hv with hv | hv
  · rcases h with h | h
    · exact .inl h
    · exact .inr (by rw [hv]; exact h)
  · rcases hb : kv.ownBlock with _ | g
    · exact .inl hb
    · refine .inr ?_
      have := (hk.lt g hb).2
      rw [hb, hv]
      intro e
      injection e with e
      omega
/-- out = append(out, x...), both rows of ints -/
theorem append_ints {P : Program} (w : World) {ops : Array Oper} {rest : List Oper} {o : Oper} {a : Act} {Q : Exit → Act → World → Prop} (hgd : o.guard = none) (s x : Operand) (t : TypeId)
    (ho : o.op = .call { callee := .builtin .append, args := #[s, x], argTypes := #[t, t] })
    (base : Nat) (e : TypeId) (i : TypeInfo) (ht : P.underlying t = some (.slice e)) (hi : P.info? e = some i) (hz : i.zero = some (.int .i64 0))
    (hsize : i.size = 1) (hby : i.bytes = 8) (v : Value) (n : Nat) (l : List Int) (hs : a.eval s = v) (hown : w.ownsRow base e 1 v n (ints l)) (hn : n = l.length)
    {B : Nat} (zs : List Int) (A : Option Addr) (c : Nat) (hx : a.eval x = .slice A zs.length c) (hin : IntIn w B A zs.length zs) (hpos : 0 < zs.length)
    (h63 : l.length + zs.length ≤ 1073741824) (hbase : base ≤ w.heap.size)
    (h : ∀ v' w', w'.ownsRow base e 1 v' (l ++ zs).length (ints (l ++ zs)) → w.grownBy w' v.ownBlock → (v'.ownBlock = v.ownBlock ∨ v'.ownBlock = some w.heap.size) → wpList P ops Q rest (a.put o.dst v') w') :
    wpList P ops Q (o :: rest) a w := by
  subst hn
  obtain ⟨ad, rfl, _⟩ := hin.2.1 hpos
  refine wpList_append_own_at _ hgd s x t ho base e i (.int .i64 0) 1 8 ht hi hz hsize hby rfl (by decide) v l.length (ints l) hs hown ad zs.length c (ints zs) hx (by rw [ints_length, Nat.mul_one]) hin.cells_at (ints_cell _) (by unfold maxLen; omega) (by omega) hbase ?_
  intro v' w' h2 h3 _ h5
  refine h v' w' ?_ h3 h5
  rw [ints_append, List.length_append]
  exact h2
/-- .. of one element -/
theorem append_int_at {P : Program} (w : World) {ops : Array Oper} {rest : List Oper} {o : Oper} {a : Act} {Q : Exit → Act → World → Prop} (hgd : o.guard = none) (s x : Operand) (t : TypeId)
    (ho : o.op = .call { callee := .builtin .append, args := #[s, x], argTypes := #[t, t] })
    (base : Nat) (e : TypeId) (i : TypeInfo) (ht : P.underlying t = some (.slice e)) (hi : P.info? e = some i) (hz : i.zero = some (.int .i64 0))
    (hsize : i.size = 1) (hby : i.bytes = 8) (v : Value) (n : Nat) (l : List Int) (hs : a.eval s = v) (hown : w.ownsRow base e 1 v n (ints l)) (hn : n = l.length)
    (b : Int) (hx : a.eval x = .slice (some ⟨w.heap.size, 0, none⟩) 1 1)
    (h63 : l.length + 1 ≤ 1073741824) (hbase : base ≤ w.heap.size)
    (h : ∀ v' w', w'.ownsRow base e 1 v' (l ++ [b]).length (ints (l ++ [b])) → (w.alloc (.cells #[.int .i64 b] e)).grownBy w' v.ownBlock → (v'.ownBlock = v.ownBlock ∨ v'.ownBlock = some (w.heap.size + 1)) → wpList P ops Q rest (a.put o.dst v') w') :
    wpList P ops Q (o :: rest) a (w.alloc (.cells #[.int .i64 b] e)) := by
  have hsz : (w.alloc (.cells #[.int .i64 b] e)).heap.size = w.heap.size + 1 := by simp
  refine append_ints (w.alloc (.cells #[.int .i64 b] e)) hgd s x t ho base e i ht hi hz hsize hby v n l hs (hown.alloc _) hn (B := w.heap.size + 1) [b] (some ⟨w.heap.size, 0, none⟩) 1 hx ?_ (by simp) (by simpa using h63) (by omega) ?_
  · refine ⟨rfl, fun _ => ⟨_, rfl, Nat.lt_succ_self _⟩, fun ad he k hk => ?_⟩
    obtain rfl : (⟨w.heap.size, 0, none⟩ : Addr) = ad := by injection he
    obtain rfl : k = 0 := by simpa using hk
    simp [Addr.add, Zs.at]
  · intro v' w' h1 h2 h3
    rw [hsz] at h3
    exact h v' w' h1 h2 h3

end Go.Proofs.Ytlndaflhlkbedaa

/- Contracts (InS). -/
namespace Go.Proofs.Ytlndaflhlkbedaa
open Go.RowKit
set_option linter.unusedVariables false

set_option maxHeartbeats 400000 in
theorem l1In_any (x a b : Int) (w : World) :
    Calls Try.prog 77 #[.int .i64 x, .int .i64 a, .int .i64 b] w fun e w' => e = .returned (.bool (decide (a ≤ x ∧ x ≤ b))) ∧ w = w' := by
  go_enter Try.func77, Try.ntmps77
  go_wp2
  all_goals go_ret
  all_goals exact ⟨Kit.ret_bool (by simp; try omega), rfl⟩

end Go.Proofs.Ytlndaflhlkbedaa

/- Contracts (LabOkS). -/
namespace Go.Proofs.Ytlndaflhlkbedaa
open Go.RowKit
set_option linter.unusedVariables false

set_option maxHeartbeats 400000 in
theorem specLabelOk_any (n : Int) (w : World) :
    Calls Try.prog 76 #[.int .i64 n] w fun e w' => e = .returned (.bool (Lab.ok n)) ∧ w = w' := by
  go_enter Try.func76, Try.ntmps76
  go_wp2_with fail
  refine (l1In_any _ _ _ _).mono ?_
  rintro e w' ⟨rfl, rfl⟩
  go_wp2
  go_ret
  exact ⟨Kit.ret_bool (by simp [Lab.ok]), rfl⟩

end Go.Proofs.Ytlndaflhlkbedaa

/- Contracts (TreeOkS). -/
namespace Go.Proofs.Ytlndaflhlkbedaa
open Go.RowKit
set_option linter.unusedVariables false

set_option maxHeartbeats 800000 in
set_option maxRecDepth 100000 in
theorem specTreeOk_any (A : Option Addr) (n c : Nat) (xs : Tr) (w : World) (h : NdIn w w.heap.size A n xs) (hn : n ≤ 1048576) :
    Calls Try.prog 22 #[.slice A n c] w fun e w' => e = .returned (.bool (Tr.ok xs)) ∧ Drawn w w' := by
  have H := Lib.hid h
  clear h
  go_enter Try.func22, Try.ntmps22
  go_wp2
  go_loopw [3] (fun iv wr => ∃ k : Nat, k ≤ n ∧ iv = .int .i64 k ∧ Tr.okTo xs k ∧ Drawn w wr) (fun i _ => n - (intOf i).toNat)
  case atStart => exact ⟨0, Nat.zero_le _, rfl, fun j hj => absurd hj (by omega), Drawn.refl _⟩
  case round =>
    obtain ⟨k, hk, rfl, hok, hD⟩ := hrel
    have Hok := Lib.hid hok
    clear hok
    have HL := Lib.hid H.out.1
    by_cases hlt : k < n
    · obtain ⟨ad, rfl, hb, hl, hd⟩ := (H.out.drawn hD).at_ hlt
      by_cases h1 : 0 ≤ Tr.l xs k ∧ Tr.l xs k ≤ 5
      · have h1' : Lab.ok (Tr.l xs k) = true := by simp [Lab.ok, h1]
        by_cases h2 : 0 ≤ Tr.d xs k ∧ Tr.d xs k ≤ 12
        · have h2' : decide (0 ≤ Tr.d xs k ∧ Tr.d xs k ≤ 12) = true := by simpa using h2
          by_cases hk0 : k = 0
          · have e1 : ((k : Int) == 0) = true := by simp [hk0]
            have e2 : decide (0 < k) = false := by simp; omega
            by_cases h3 : Tr.d xs k = 0
            · have e3 : (Tr.d xs k == 0) = true := by simpa using h3
              have Hk := Lib.hid (show Tr.okAt xs k = true by simp [Tr.okAt]; omega)
              clear h1 h2 h3 hk0
              go_wp2
              go_quiet (first
                | (go_at_call 76; exact quiet_same (specLabelOk_any _ _))
                | (go_at_call 77; exact quiet_same (l1In_any _ _ _ _)))
              go_wp2
              go_roundw
              case rel => exact ⟨k + 1, by omega, by go_num, Tr.okTo_succ Hok.out Hk.out, hD.drewN _⟩
              case measure => simp [intOf]; omega
            · have e3 : (Tr.d xs k == 0) = false := by simpa using h3
              have Hf := Lib.hid (Tr.not_ok (xs := xs) (k := k) (by rw [HL.out]; exact hlt) (by simp [Tr.okAt]; omega))
              clear h1 h2 h3 hk0
              go_wp2
              go_quiet (first
                | (go_at_call 76; exact quiet_same (specLabelOk_any _ _))
                | (go_at_call 77; exact quiet_same (l1In_any _ _ _ _)))
              go_wp2
              go_ret
              exact ⟨Kit.ret_bool Hf.out.symm, hD.drewN _⟩
          · have e1 : ((k : Int) == 0) = false := by simp [hk0]
            have e2 : decide (0 < k) = true := by simp; omega
            obtain ⟨hl', hd'⟩ := (H.out.drawn hD).here (show k - 1 < n by omega)
            by_cases h3 : Tr.d xs k = 0
            · have e3 : (Tr.d xs k == 0) = true := by simpa using h3
              have Hf := Lib.hid (Tr.not_ok (xs := xs) (k := k) (by rw [HL.out]; exact hlt) (by simp [Tr.okAt]; omega))
              clear h1 h2 h3 hk0
              go_wp2
              go_quiet (first
                | (go_at_call 76; exact quiet_same (specLabelOk_any _ _))
                | (go_at_call 77; exact quiet_same (l1In_any _ _ _ _)))
              go_wp2
              go_ret
              exact ⟨Kit.ret_bool Hf.out.symm, hD.drewN _⟩
            · have e3 : (Tr.d xs k == 0) = false := by simpa using h3
              have a1 : IntKind.i64.wrap ((k : Int) - 1) = (k : Int) - 1 := Kit.w64 (by omega) (by omega)
              have a2 : ((k : Int) - 1).toNat = k - 1 := by omega
              have a3 : (1 : Int) ≤ (k : Int) := by omega
              have a4 : (k : Int) - 1 < (n : Int) := by omega
              have a5 : IntKind.i64.wrap (Tr.d xs (k - 1) + 1) = Tr.d xs (k - 1) + 1 := by
                have := Tr.okTo_at (Hok.out) (show k - 1 < k by omega)
                exact Kit.w64 (by omega) (by omega)
              by_cases h4 : Tr.d xs k ≤ Tr.d xs (k - 1) + 1
              · have e4 : decide (Tr.d xs (k - 1) + 1 < Tr.d xs k) = false := by simpa using h4
                have Hk := Lib.hid (show Tr.okAt xs k = true by simp [Tr.okAt]; omega)
                clear h1 h2 h3 h4 hk0
                go_wp2
                go_quiet (first
                  | (go_at_call 76; exact quiet_same (specLabelOk_any _ _))
                  | (go_at_call 77; exact quiet_same (l1In_any _ _ _ _)))
                clear a1 a2 a3 a4 a5
                go_wp2
                go_roundw
                case rel => exact ⟨k + 1, by omega, by go_num, Tr.okTo_succ Hok.out Hk.out, hD.drewN _⟩
                case measure => simp [intOf]; omega
              · have e4 : decide (Tr.d xs (k - 1) + 1 < Tr.d xs k) = true := by simpa using h4
                have Hf := Lib.hid (Tr.not_ok (xs := xs) (k := k) (by rw [HL.out]; exact hlt) (by simp [Tr.okAt]; omega))
                clear h1 h2 h3 h4 hk0
                go_wp2
                go_quiet (first
                  | (go_at_call 76; exact quiet_same (specLabelOk_any _ _))
                  | (go_at_call 77; exact quiet_same (l1In_any _ _ _ _)))
                clear a1 a2 a3 a4 a5
                go_wp2
                go_ret
                exact ⟨Kit.ret_bool Hf.out.symm, hD.drewN _⟩
        · have h2' : decide (0 ≤ Tr.d xs k ∧ Tr.d xs k ≤ 12) = false := by simpa using h2
          have Hf := Lib.hid (Tr.not_ok (xs := xs) (k := k) (by rw [HL.out]; exact hlt) (by simp [Tr.okAt]; omega))
          clear h1 h2
          go_wp2
          go_quiet (first
            | (go_at_call 76; exact quiet_same (specLabelOk_any _ _))
            | (go_at_call 77; exact quiet_same (l1In_any _ _ _ _)))
          go_wp2
          go_ret
          exact ⟨Kit.ret_bool Hf.out.symm, hD.drewN _⟩
      · have h1' : Lab.ok (Tr.l xs k) = false := by simpa [Lab.ok] using h1
        have Hf := Lib.hid (Tr.not_ok (xs := xs) (k := k) (by rw [HL.out]; exact hlt) (by simp [Tr.okAt]; omega))
        clear h1
        go_wp2
        go_quiet (first
          | (go_at_call 76; exact quiet_same (specLabelOk_any _ _))
          | (go_at_call 77; exact quiet_same (l1In_any _ _ _ _)))
        go_wp2
        go_ret
        exact ⟨Kit.ret_bool Hf.out.symm, hD.drewN _⟩
    · obtain rfl : k = n := by omega
      have Hs := Lib.hid (Tr.ok_size (xs := xs) (by rw [HL.out]; exact Hok.out))
      go_wp2_with (go_at_call 77; refine (l1In_any _ _ _ _).mono ?_; rintro e w' ⟨rfl, rfl⟩)
      go_ret
      exact ⟨Kit.ret_bool (by rw [Hs.out, HL.out, ← Bool.decide_and, decide_eq_decide]; omega), hD⟩

end Go.Proofs.Ytlndaflhlkbedaa

/- Contracts (AtS). -/
namespace Go.Proofs.Ytlndaflhlkbedaa
open Go.RowKit
set_option linter.unusedVariables false

set_option maxHeartbeats 800000 in
set_option maxRecDepth 100000 in
theorem l3At_any (A : Option Addr) (n c : Nat) (xs : Tr) (i : Int) (w : World) (h : NdIn w w.heap.size A n xs) (hn : n ≤ 1048576) :
    Calls Try.prog 86 #[.slice A n c, .int .i64 i] w fun e w' => e = .returned (.bool (Tr.has xs i)) ∧ Drawn w w' := by
  have H := Lib.hid h
  clear h
  have HL := Lib.hid H.out.1
  rcases hok : Tr.ok xs with _ | _
  · have Hf := Lib.hid (show Tr.has xs i = false by simp [Tr.has, hok])
    have Hok := Lib.hid hok
    clear hok
    go_enter Try.func86, Try.ntmps86
    go_wp2_with fail
    refine (specTreeOk_any _ _ _ xs _ H.out hn).mono ?_
    rintro e w1 ⟨rfl, hd⟩
    rw [Hok.out]
    go_wp2
    go_ret
    exact ⟨Kit.ret_bool Hf.out.symm, hd⟩
  · have h1 := (Tr.ok_iff.1 hok).2
    have hn1 : 1 ≤ n := by rw [← HL.out]; omega
    have Hok := Lib.hid hok
    clear h1 hok
    go_enter Try.func86, Try.ntmps86
    go_wp2_with fail
    refine (specTreeOk_any _ _ _ xs _ H.out hn).mono ?_
    rintro e w1 ⟨rfl, hd⟩
    rw [Hok.out]
    go_wp2_with (go_at_call 77; refine (l1In_any _ _ _ _).mono ?_; rintro e w' ⟨rfl, rfl⟩)
    go_ret
    refine ⟨Kit.ret_bool ?_, hd⟩
    simp [Tr.has, Hok.out, HL.out]
    rw [← Bool.decide_and, ← Bool.decide_and, decide_eq_decide]
    omega

end Go.Proofs.Ytlndaflhlkbedaa

/- Contracts (EndOfS). -/
namespace Go.Proofs.Ytlndaflhlkbedaa
open Go.RowKit
set_option linter.unusedVariables false

set_option maxHeartbeats 800000 in
set_option maxRecDepth 100000 in
theorem specEndOf_any (A : Option Addr) (n c : Nat) (xs : Tr) (i : Int) (w : World) (h : NdIn w w.heap.size A n xs) (hn : n ≤ 1048576) :
    Calls Try.prog 80 #[.slice A n c, .int .i64 i] w fun e w' => e = .returned (.int .i64 (Tr.endOf xs i)) ∧ Drawn w w' := by
  have H := Lib.hid h
  clear h
  have HL := Lib.hid H.out.1
  rcases hok : Tr.has xs i with _ | _
  · have Hf := Lib.hid (show Tr.endOf xs i = -1 by simp [Tr.endOf, hok])
    have Hok := Lib.hid hok
    clear hok
    go_enter Try.func80, Try.ntmps80
    go_wp2_with fail
    refine (l3At_any _ _ _ xs _ _ H.out hn).mono ?_
    rintro e w1 ⟨rfl, hd⟩
    rw [Hok.out]
    go_wp2
    go_ret
    exact ⟨Kit.ret_int Hf.out.symm, hd⟩
  · have h1 := (Tr.has_iff.1 hok).2
    rw [HL.out] at h1
    have Hf := Lib.hid (show Tr.endOf xs i = Tr.endN xs i.toNat by simp [Tr.endOf, hok])
    have Hok := Lib.hid hok
    clear hok
    obtain ⟨j, rfl⟩ := Int.eq_ofNat_of_zero_le h1.1
    have hj : j < n := by omega
    clear h1
    go_enter Try.func80, Try.ntmps80
    go_wp2_with fail
    refine (l3At_any _ _ _ xs _ _ H.out hn).mono ?_
    rintro e w1 ⟨rfl, hd1⟩
    have Hd1 := Lib.hid hd1
    have H1 := Lib.hid (H.out.drawn Hd1.out)
    clear hd1
    rw [Hok.out]
    go_wp2
    go_loopw [5] (fun kv wr => ∃ k : Nat, j < k ∧ k ≤ n ∧ kv = .int .i64 k ∧ (∀ m, j < m → m < k → Tr.d xs j < Tr.d xs m) ∧ Drawn w1 wr) (fun k _ => n - (intOf k).toNat)
    case atStart => exact ⟨j + 1, by omega, by omega, by go_num, fun m h1 h2 => absurd h1 (by omega), Drawn.refl _⟩
    case round =>
      obtain ⟨k, hjk, hk, rfl, hall, hD⟩ := hrel
      have Hall := Lib.hid hall
      clear hall
      have hk0 : (0 : Int) ≤ (k : Int) := by omega
      have hj0 : (0 : Int) ≤ (j : Int) := by omega
      by_cases hlt : k < n
      · have hltd : decide (k < n) = true := by simpa using hlt
        obtain ⟨ad, rfl, hb, hl, hd⟩ := (H1.out.drawn hD).at_ hlt
        obtain ⟨hl', hd'⟩ := (H1.out.drawn hD).here hj
        clear hl hl'
        by_cases hgt : Tr.d xs j < Tr.d xs k
        · have hg : decide (Tr.d xs j < Tr.d xs k) = true := by simpa using hgt
          have Hg := Lib.hid hgt
          clear hgt
          go_wp2
          go_quiet (fail)
          go_wp2
          go_roundw
          case rel => exact ⟨k + 1, by omega, by omega, by go_num, fun m h1 h2 => by
            rcases Nat.lt_succ_iff_lt_or_eq.1 h2 with h' | rfl
            · exact Hall.out m h1 h'
            · exact Hg.out, hD.drewN _⟩
          case measure => simp [intOf]; omega
        · have hg : decide (Tr.d xs j < Tr.d xs k) = false := by simpa using hgt
          have He := Lib.hid (Tr.endN_is (xs := xs) hjk (by rw [HL.out]; exact hk) Hall.out (.inr (by omega)))
          clear hgt
          go_wp2
          go_quiet (fail)
          go_wp2
          go_ret
          exact ⟨Kit.ret_int (by rw [Hf.out, Int.toNat_natCast, He.out]), Hd1.out.trans (hD.drewN _)⟩
      · have hltd : decide (k < n) = false := by simpa using hlt
        obtain rfl : k = n := by omega
        have He := Lib.hid (Tr.endN_is (xs := xs) hjk (by rw [HL.out]; exact hk) Hall.out (.inl HL.out.symm))
        go_wp2
        go_quiet (fail)
        go_wp2
        go_ret
        exact ⟨Kit.ret_int (by rw [Hf.out, Int.toNat_natCast, He.out]), Hd1.out.trans (hD.drewN _)⟩

end Go.Proofs.Ytlndaflhlkbedaa

/- Contracts (KidS). -/
namespace Go.Proofs.Ytlndaflhlkbedaa
open Go.RowKit
set_option linter.unusedVariables false

theorem info_intS : (Try.prog.info? 3).map (fun i => (i.zero, i.size, i.bytes)) = some (some (.int .i64 0), 1, 8) := by kernel_rfl

set_option maxHeartbeats 800000 in
set_option maxRecDepth 100000 in
theorem specKidsOf_any (A : Option Addr) (n c : Nat) (xs : Tr) (i : Int) (w : World) (h : NdIn w w.heap.size A n xs) (hn : n ≤ 1048576) :
    Calls Try.prog 122 #[.slice A n c, .int .i64 i] w (OwnInts 3 (Tr.kidsI xs i) w) := by
  have H := Lib.hid h
  clear h
  have HL := Lib.hid H.out.1
  obtain ⟨i0, hi, hz0, hz1, hz2⟩ := info_parts info_intS
  rcases hok : Tr.has xs i with _ | _
  · have Hf := Lib.hid (Tr.kidsI_no hok)
    have Hok := Lib.hid hok
    clear hok
    go_enter Try.func122, Try.ntmps122
    go_wp2
    refine wp_loop_rounds 1 ?_
    rw [rounds_succ]
    go_wp2_with fail
    refine (l3At_any _ _ _ xs _ _ ((H.out.to_below ((Below.refl _ _).alloc (Nat.le_refl _) _))) hn).mono ?_
    rintro e w1 ⟨rfl, hd1⟩
    have HB := Lib.hid (Drawn.below ((Below.refl w.heap.size w).alloc (Nat.le_refl _) _) hd1)
    have Ho := Lib.hid (own_drawn (World.ownsRow_lit (e := 3) (size := 1) w #[] 0 (Nat.le_refl _) (Nat.zero_le _) rfl) hd1)
    clear hd1
    rw [Hok.out]
    go_wp2
    go_ret
    exact ⟨_, _, by rw [Hf.out]; rfl, by rw [Hf.out]; exact Ho.out, HB.out⟩
  · have h1 := (Tr.has_iff.1 hok).2
    have h0 := (Tr.has_iff.1 hok).1
    rw [HL.out] at h1
    have hbd := Lib.hid fun k => Tr.ok_at (xs := xs) h0 (k := k)
    obtain ⟨j, rfl⟩ := Int.eq_ofNat_of_zero_le h1.1
    have hj : j < n := by omega
    have Hf := Lib.hid (Tr.kidsI_yes hok)
    have He := Lib.hid (Tr.endOf_yes hok)
    have hE := Tr.endN_spec xs j (by rw [HL.out]; exact hj)
    have hE1 := hE.1
    have hE2 := hE.2.1
    rw [HL.out] at hE2
    have Hok := Lib.hid hok
    clear hok h1 h0 hE
    go_enter Try.func122, Try.ntmps122
    go_wp2
    go_loopw [6, 5] (fun kv ov wr => ∃ k : Nat, j < k ∧ k ≤ Tr.endN xs j ∧ kv = .int .i64 k ∧ wr.ownsRow w.heap.size 3 1 ov (Tr.kidsZ xs j k).length (ints (Tr.kidsZ xs j k)) ∧ Below w.heap.size w wr) (fun k _ _ => n - (intOf k).toNat)
    case atStart => exact ⟨j + 1, by omega, by omega, by go_num, by rw [Tr.kidsZ_start]; exact World.ownsRow_lit w #[] 0 (Nat.le_refl _) (Nat.zero_le _) rfl, (Below.refl _ _).alloc (Nat.le_refl _) _⟩
    case round =>
      obtain ⟨k, hjk, hk, rfl, hown, hB⟩ := hrel
      have hz := Lib.hid (H.out.to_below hB)
      have Ho := Lib.hid hown
      have HB := Lib.hid hB
      clear hown hB
      go_wp2_with fail
      refine (l3At_any _ _ _ xs _ _ hz.out hn).mono ?_
      rintro e w1 ⟨rfl, hd1⟩
      have hz := Lib.hid (hz.out.to_drawn hd1)
      have Ho := Lib.hid (own_drawn Ho.out hd1)
      have HB := Lib.hid (Drawn.below HB.out hd1)
      clear hd1
      rw [Hok.out]
      go_wp2_with fail
      refine (specEndOf_any _ _ _ xs _ _ hz.out hn).mono ?_
      rintro e w2 ⟨rfl, hd2⟩
      have hz := Lib.hid (hz.out.to_drawn hd2)
      have Ho := Lib.hid (own_drawn Ho.out hd2)
      have HB := Lib.hid (Drawn.below HB.out hd2)
      have hsz2 := HB.out.size
      clear hd2
      rw [He.out]
      by_cases hlt : k < Tr.endN xs j
      · obtain ⟨ad, rfl, hb, hl, hd⟩ := hz.out.at_ (k := k) (by omega)
        obtain ⟨hl', hd'⟩ := hz.out.here hj
        clear hl hl'
        have Hs := Lib.hid (Tr.kidsZ_succ xs j k hjk)
        have hlen := Tr.kidsZ_len xs j k
        have hk0 : (0 : Int) ≤ (k : Int) := by omega
        have hj0 : (0 : Int) ≤ (j : Int) := by omega
        have hbj := (hbd.out j (by rw [HL.out]; exact hj)).2.1
        have a5 : IntKind.i64.wrap (Tr.d xs j + 1) = Tr.d xs j + 1 := Kit.w64 (by omega) (by omega)
        by_cases hq : Tr.d xs k = Tr.d xs j + 1
        · have q : (Tr.d xs k == Tr.d xs j + 1) = true := by simpa using hq
          have Hq := Lib.hid hq
          clear hq
          go_wp2
          go_quiet (fail)
          clear a5
          go_wp2_with (at_builtin; go_loud (refine append_int (World.drewN w2 nq) rfl _ _ 25 rfl w.heap.size 3 i0 Try.underlying25 hi hz0 hz1 hz2 u5 (Tr.kidsZ xs j k).length (Tr.kidsZ xs j k) rfl (Ho.out : World.ownsRow (World.drewN w2 nq) _ _ _ _ _ _) rfl (k : Int) rfl (by omega) hsz2 ?_; intro v1 w3 hown3 hgrow3))
          have hb3 := Kit.below_own (below_drewN HB.out _) (Ho.out : World.ownsRow (World.drewN w2 nq) _ _ _ _ _ _) hgrow3
          go_roundw
          case rel => exact ⟨k + 1, by omega, by omega, by go_num, by rw [Hs.out, if_pos Hq.out]; exact hown3, hb3⟩
          case measure => simp [intOf]; omega
        · have q : (Tr.d xs k == Tr.d xs j + 1) = false := by simpa using hq
          have Hq := Lib.hid hq
          clear hq
          go_wp2
          go_quiet (fail)
          clear a5
          go_wp2
          go_roundw
          case rel => exact ⟨k + 1, by omega, by omega, by go_num, by rw [Hs.out, if_neg (by have := Hq.out; omega)]; exact (Ho.out : World.ownsRow (World.drewN w2 nq) _ _ _ _ _ _), below_drewN HB.out _⟩
          case measure => simp [intOf]; omega
      · obtain rfl : k = Tr.endN xs j := by omega
        obtain ⟨A', c', rfl⟩ := own_slice Ho.out
        go_wp2
        go_ret
        exact ⟨A', c', by rw [Hf.out]; rfl, by rw [Hf.out]; exact Ho.out, HB.out⟩

end Go.Proofs.Ytlndaflhlkbedaa

/- Contracts (PostS). -/
namespace Go.Proofs.Ytlndaflhlkbedaa
open Go.RowKit
set_option linter.unusedVariables false

/-- kids of i, row of numbers -/
def Tr.kidsR (xs : Tr) (i : Nat) : List Nat := Tr.kidsTo xs i (Tr.endN xs i)
theorem info_intP : (Try.prog.info? 3).map (fun i => (i.zero, i.size, i.bytes)) = some (some (.int .i64 0), 1, 8) := by kernel_rfl
def Zs.up (l : List Nat) : List Int := l.map fun (m : Nat) => (m : Int)
theorem Zs.up_length (l : List Nat) : (Zs.up l).length = l.length := by simp [Zs.up]
theorem Zs.up_append (a b : List Nat) : Zs.up (a ++ b) = Zs.up a ++ Zs.up b := by simp [Zs.up]
theorem Zs.up_at (l : List Nat) (k : Nat) (h : k < l.length) : Zs.at (Zs.up l) k = (l[k] : Int) := by simp [Zs.at, Zs.up, List.getD_eq_getElem?_getD, h]
theorem flat_take (l : List Nat) (g : Nat → List Nat) (t : Nat) (h : t < l.length) : (l.take (t + 1)).flatMap g = (l.take t).flatMap g ++ g l[t] := by
  rw [List.take_succ_eq_append_getElem h, List.flatMap_append]
  simp
theorem flat_len (l : List Nat) (g : Nat → List Nat) (t : Nat) : ((l.take t).flatMap g).length ≤ (l.flatMap g).length := by
  have : l.flatMap g = (l.take t).flatMap g ++ (l.drop t).flatMap g := by rw [← List.flatMap_append, List.take_append_drop]
  rw [this, List.length_append]
  omega

set_option maxHeartbeats 1600000 in
set_option maxRecDepth 100000 in
theorem l6Post_body (A : Option Addr) (n c : Nat) (xs : Tr) (hok : Tr.ok xs = true) (hn : n ≤ 1048576) (i : Nat) (hi' : i < n) (g : Nat → List Nat)
    (hg : ∀ (t : Nat) (ht : t < (Tr.kidsR xs i).length) (w : World), NdIn w w.heap.size A n xs → Calls Try.prog 81 #[.slice A n c, .int .i64 (Tr.kidsR xs i)[t]] w (OwnInts 3 (Zs.up (g (Tr.kidsR xs i)[t])) w))
    (hpos : ∀ (t : Nat) (ht : t < (Tr.kidsR xs i).length), 0 < (g (Tr.kidsR xs i)[t]).length) (hlen : ((Tr.kidsR xs i).flatMap g).length ≤ 24)
    (w : World) (h : NdIn w w.heap.size A n xs) :
    Calls Try.prog 81 #[.slice A n c, .int .i64 i] w (OwnInts 3 (Zs.up ((Tr.kidsR xs i).flatMap g ++ [i])) w) := by
  have H := Lib.hid h
  have HL := Lib.hid H.out.1
  have HG := Lib.hid hg
  have HP := Lib.hid hpos
  clear h hg hpos
  obtain ⟨i0, hi, hz0, hz1, hz2⟩ := info_parts info_intP
  have Hi := Lib.hid hi
  clear hi
  have hki : Tr.kidsI xs (i : Int) = Zs.up (Tr.kidsR xs i) := by
    rw [Tr.kidsI_yes (Tr.has_iff.2 ⟨hok, by omega, by rw [HL.out]; omega⟩)]
    rfl
  obtain ⟨K, hK⟩ : ∃ K, K = Tr.kidsR xs i := ⟨_, rfl⟩
  have HKI := Lib.hid (hki.trans (by rw [← hK]))
  rw [← hK] at HG HP hlen ⊢
  have hKl : K.length ≤ 1048576 := by
    have h1 := Tr.kidsTo_le xs i (Tr.endN xs i)
    have h2 := (Tr.endN_dn hok (i := i) (by rw [HL.out]; exact hi')).2.1
    rw [hK, Tr.kidsR]
    rw [HL.out] at h2
    omega
  clear hki hok hK
  have HFL := Lib.hid (flat_len K g)
  have HFT := Lib.hid (flat_take K g)
  have Ho := Lib.hid (World.ownsRow_lit (base := w.heap.size) (e := 3) (size := 1) w #[] 0 (Nat.le_refl _) (Nat.zero_le _) rfl)
  have HB := Lib.hid ((Below.refl w.heap.size w).alloc (Nat.le_refl _) (.cells #[] 3))
  have H1 := Lib.hid ((H.out.below HB.out).more HB.out.size)
  go_enter Try.func81, Try.ntmps81
  go_wp2_with fail
  refine (specKidsOf_any _ _ _ xs _ _ H1.out hn).mono ?_
  rintro e w1 ⟨Ak, ck, rfl, hk, hb⟩
  rw [HKI.out] at hk ⊢
  have Ho := Lib.hid (own_below Ho.out hb)
  have HB := Lib.hid (HB.out.trans (hb.mono HB.out.size))
  have hsz : (w.alloc (.cells #[] 3)).heap.size = w.heap.size + 1 := by simp
  have hap : Apart (.slice Ak (Zs.up K).length ck) (.slice (some ⟨w.heap.size, 0, none⟩) 0 0) := by
    rcases hq : (Value.slice Ak (Zs.up K).length ck).ownBlock with _ | gk
    · exact .inl hq
    · refine .inr ?_
      have := (hk.lt gk hq).1
      rw [hq]
      show some gk ≠ some w.heap.size
      intro e
      injection e
      omega
  have Hk := Lib.hid (own_base hk (show w.heap.size ≤ (w.alloc (.cells #[] 3)).heap.size by omega))
  have Hap := Lib.hid hap
  clear hb hk hap hsz H1
  rw [Zs.up_length] at Hk Hap ⊢
  go_wp2
  go_loopw [7, 5] (fun kv ov wr => ∃ t : Nat, t ≤ K.length ∧ kv = .int .i64 t ∧ wr.ownsRow w.heap.size 3 1 ov (Zs.up ((K.take t).flatMap g)).length (ints (Zs.up ((K.take t).flatMap g))) ∧ wr.ownsRow w.heap.size 3 1 (.slice Ak K.length ck) K.length (ints (Zs.up K)) ∧ Apart (.slice Ak K.length ck) ov ∧ Below w.heap.size w wr) (fun k _ _ => K.length - (intOf k).toNat)
  case atStart => exact ⟨0, Nat.zero_le _, rfl, Ho.out, Hk.out, Hap.out, HB.out⟩
  case round =>
    clear Ho HB Hk Hap
    obtain ⟨t, ht, rfl, hown, hkid, hap, hB⟩ := hrel
    have Ho := Lib.hid hown
    have HB := Lib.hid hB
    have Hk := Lib.hid hkid
    have Hap := Lib.hid hap
    clear hown hB hkid hap
    have hfl := HFL.out t
    by_cases hlt : t < K.length
    · obtain ⟨gk, rfl, _, _⟩ := own_form Hk.out (by omega)
      have c1 := own_int Hk.out (k := t) (by rw [Zs.up_length]; exact hlt)
      rw [Zs.up_at K t hlt] at c1
      have hf1 := HFT.out t hlt
      have hfl1 := HFL.out (t + 1)
      have H1 := Lib.hid ((H.out.below HB.out).more HB.out.size)
      have hg1 := HP.out t hlt
      have t0 : (0 : Int) ≤ (t : Int) := by omega
      have t1 : (t : Int) < (K.length : Int) := by omega
      rw [hf1, List.length_append] at hfl1
      have Hf1 := Lib.hid hf1
      clear hf1
      go_wp2_with fail
      refine (HG.out t hlt wr H1.out).mono ?_
      rintro e w2 ⟨A2, c2, rfl, ho2, hb⟩
      have Ho := Lib.hid (own_below Ho.out hb)
      have Hk := Lib.hid (own_below Hk.out hb)
      have HB := Lib.hid (HB.out.trans (hb.mono HB.out.size))
      have I2 := Lib.hid (IntIn.of_own ho2)
      have hsx := HB.out.size
      clear ho2 hb c1
      go_wp2_with (at_builtin; go_loud (refine append_ints w2 rfl _ _ 25 rfl w.heap.size 3 i0 Try.underlying25 Hi.out hz0 hz1 hz2 u5 (Zs.up ((K.take t).flatMap g)).length (Zs.up ((K.take t).flatMap g)) rfl Ho.out rfl (Zs.up (g K[t])) A2 c2 rfl I2.out (by rw [Zs.up_length]; exact hg1) (by rw [Zs.up_length, Zs.up_length]; omega) hsx ?_); intro v' w3 hown hgrow hwhere)
      have hb3 := Below.grown HB.out hgrow hsx (fun k hk => (Ho.out.lt k hk).1)
      have Hk3 := Lib.hid (World.ownsRow.kept Hk.out hgrow Hap.out)
      have Hap3 := Lib.hid (Hap.out.grew Hk.out hwhere)
      rw [← Zs.up_append, ← Hf1.out] at hown
      go_roundw
      case rel => exact ⟨t + 1, by omega, by go_num, hown, Hk3.out, Hap3.out, hb3⟩
      case measure => simp [intOf]; omega
    · obtain rfl : t = K.length := by omega
      have Ht := Lib.hid (show (K.take K.length).flatMap g = K.flatMap g by rw [List.take_length])
      rw [Ht.out] at Ho hfl
      have hsx := HB.out.size
      go_wp2_with (at_builtin; go_loud (refine append_int_at wr rfl _ _ 25 rfl w.heap.size 3 i0 Try.underlying25 Hi.out hz0 hz1 hz2 u5 (Zs.up (K.flatMap g)).length (Zs.up (K.flatMap g)) rfl Ho.out rfl (i : Int) rfl (by rw [Zs.up_length]; omega) hsx ?_); intro v' w3 hown hgrow hwhere)
      have hb3 := Kit.below_own HB.out Ho.out hgrow
      rw [show Zs.up (K.flatMap g) ++ [(i : Int)] = Zs.up (K.flatMap g ++ [i]) by rw [Zs.up_append]; rfl] at hown
      obtain ⟨A3, c3, rfl⟩ := own_slice hown
      go_ret
      exact ⟨A3, c3, rfl, hown, hb3⟩

theorem Tr.postF_ne (xs : Tr) (f i : Nat) : 0 < (Tr.postF xs f i).length := by
  cases f <;> simp [Tr.postF]
theorem Tr.kids_sub {xs : Tr} (hok : Tr.ok xs = true) {i : Nat} (hi : i < xs.length) : ∀ j ∈ Tr.kidsR xs i, i < j ∧ j < Tr.endN xs i := by
  intro j hj
  unfold Tr.kidsR Tr.kidsTo at hj
  simp only [List.mem_filter, List.mem_range, Bool.and_eq_true, decide_eq_true_eq] at hj
  omega
theorem l6Post_any (A : Option Addr) (n c : Nat) (xs : Tr) (hok : Tr.ok xs = true) (hxl : xs.length = n) : ∀ (f i : Nat), i < n → Tr.endN xs i - i ≤ f + 1 → ∀ (w : World), NdIn w w.heap.size A n xs →
    Calls Try.prog 81 #[.slice A n c, .int .i64 i] w (OwnInts 3 (Zs.up (Tr.postF xs f i)) w) := by
  have hle := (Tr.ok_iff.1 hok).2
  intro f
  induction f with
  | zero =>
    intro i hi hf w h
    have a := Tr.endN_dn hok (i := i) (by omega)
    have hk : Tr.kidsR xs i = [] := by
      unfold Tr.kidsR
      rw [show Tr.endN xs i = i + 1 by omega, Tr.kidsTo_start]
    have := l6Post_body A n c xs hok (by omega) i hi (fun _ => []) (by intro t ht; rw [hk] at ht; simp at ht) (by intro t ht; rw [hk] at ht; simp at ht) (by rw [hk]; simp) w h
    rw [hk] at this
    exact this
  | succ f ih =>
    intro i hi hf w h
    have hsp := (Tr.postF_spec hok (f + 1) i (by omega) hf).1
    have a := Tr.endN_dn hok (i := i) (by omega)
    have hp : Tr.postF xs (f + 1) i = (Tr.kidsR xs i).flatMap (Tr.postF xs f) ++ [i] := rfl
    rw [hp] at hsp ⊢
    rw [List.length_append] at hsp
    refine l6Post_body A n c xs hok (by omega) i hi (Tr.postF xs f) (fun t ht w' h' => ?_) (fun t ht => Tr.postF_ne _ _ _) (by simp only [List.length_singleton] at hsp; omega) w h
    have hm := Tr.kids_sub hok (i := i) (by omega) _ (List.getElem_mem ht)
    have hs := Tr.endN_in hok (i := i) (by omega) hm.1 hm.2
    exact ih _ (by omega) (by omega) w' h'

set_option maxHeartbeats 800000 in
theorem specPostOrder_any (A : Option Addr) (n c : Nat) (xs : Tr) (w : World) (h : NdIn w w.heap.size A n xs) (hn : n ≤ 1048576) :
    Calls Try.prog 26 #[.slice A n c] w (OwnInts 3 (Zs.up (Tr.post xs)) w) := by
  have H := Lib.hid h
  clear h
  have HL := Lib.hid H.out.1
  rcases hok : Tr.ok xs with _ | _
  · have Hf := Lib.hid (show Zs.up (Tr.post xs) = [] by unfold Tr.post; rw [hok]; rfl)
    have Hok := Lib.hid hok
    clear hok
    go_enter Try.func26, Try.ntmps26
    go_wp2_with fail
    refine (specTreeOk_any _ _ _ xs _ H.out hn).mono ?_
    rintro e w1 ⟨rfl, hd⟩
    have HB := Lib.hid (hd.toBelow (B := w.heap.size))
    clear hd
    rw [Hok.out]
    have hsx := HB.out.size
    go_wp2
    go_ret
    exact ⟨_, _, by rw [Hf.out]; rfl, by rw [Hf.out]; exact World.ownsRow_lit w1 #[] 0 hsx (Nat.zero_le _) rfl, HB.out.alloc hsx _⟩
  · have hle := (Tr.ok_iff.1 hok).2
    rw [HL.out] at hle
    have Hf := Lib.hid (show Tr.post xs = Tr.postF xs xs.length 0 by unfold Tr.post; rw [hok]; rfl)
    have Hc := Lib.hid (fun w h => l6Post_any A n c xs hok HL.out xs.length 0 (by omega) (by rw [Tr.endN_zero hok]; omega) w h)
    have Hok := Lib.hid hok
    clear hok
    go_enter Try.func26, Try.ntmps26
    go_wp2_with fail
    refine (specTreeOk_any _ _ _ xs _ H.out hn).mono ?_
    rintro e w1 ⟨rfl, hd⟩
    have HB := Lib.hid (hd.toBelow (B := w.heap.size))
    have H1 := Lib.hid (H.out.to_drawn hd)
    clear hd
    rw [Hok.out]
    go_wp2_with fail
    refine (Hc.out w1 H1.out).mono ?_
    rintro e w2 ⟨A2, c2, rfl, ho, hb⟩
    have hsx := HB.out.size
    have HB := Lib.hid (HB.out.trans (hb.mono hsx))
    have Ho := Lib.hid (own_base ho hsx)
    clear hb ho
    go_wp2
    go_ret
    exact ⟨A2, c2, by rw [Hf.out]; rfl, by rw [Hf.out]; exact Ho.out, HB.out⟩

end Go.Proofs.Ytlndaflhlkbedaa

/- Contracts (Dst). -/
namespace Go.Proofs.Ytlndaflhlkbedaa
open Go.RowKit
set_option linter.unusedVariables false

/-! The distances of two trees under costs, as numbers; what a table under way holds. -/
def Co.cs (k : Co) : Cs := ⟨Co.del k, Co.ins k, Co.rel k⟩
section
variable (xs ys : Tr) (k : Co)
/-- forests from place p to place a (of the first) and from q to b (of the second) -/
def RR (p a q b : Nat) : Int := RD (Co.cs k) (Tr.la xs) (Tr.la ys) (Tr.xa xs) (Tr.xa ys) p a q b
/-- the trees at two places -/
def TT (a b : Nat) : Int := TD (Co.cs k) (Tr.la xs) (Tr.la ys) (Tr.xa xs) (Tr.xa ys) a b
end
theorem Co.fit3 {k : Co} (h : Co.ok k = true) : Zs.fit k.d 6 = true ∧ Zs.fit k.i 6 = true ∧ Zs.fit k.r 36 = true := by
  simp only [Co.ok, Bool.and_eq_true] at h
  exact ⟨h.1.1.1, h.1.1.2, h.1.2⟩
theorem Co.nonneg' (k : Co) : (∀ a, 0 ≤ Co.del k a ∧ Co.del k a ≤ 1000) ∧ (∀ a, 0 ≤ Co.ins k a ∧ Co.ins k a ≤ 1000) ∧ ∀ a b, 0 ≤ Co.rel k a b ∧ Co.rel k a b ≤ 1000 := by
  refine ⟨fun a => ?_, fun a => ?_, fun a b => ?_⟩
  · unfold Co.del
    split
    · rename_i h
      simp only [Bool.and_eq_true] at h
      have := Zs.fit_iff.1 (Co.fit3 h.1).1
      have hl : 0 ≤ a ∧ a ≤ 5 := by simpa [Lab.ok] using h.2
      exact this.2 a.toNat (by omega)
    · omega
  · unfold Co.ins
    split
    · rename_i h
      simp only [Bool.and_eq_true] at h
      have := Zs.fit_iff.1 (Co.fit3 h.1).2.1
      have hl : 0 ≤ a ∧ a ≤ 5 := by simpa [Lab.ok] using h.2
      exact this.2 a.toNat (by omega)
    · omega
  · unfold Co.rel
    split
    · rename_i h
      simp only [Bool.and_eq_true] at h
      have := Zs.fit_iff.1 (Co.fit3 h.1.1).2.2
      have hl : 0 ≤ a ∧ a ≤ 5 := by simpa [Lab.ok] using h.1.2
      have hm : 0 ≤ b ∧ b ≤ 5 := by simpa [Lab.ok] using h.2
      exact this.2 (a * 6 + b).toNat (by omega)
    · omega
theorem Co.cs_nonneg (k : Co) : (Co.cs k).nonneg := ⟨fun a => ((Co.nonneg' k).1 a).1, fun a => ((Co.nonneg' k).2.1 a).1, fun a b => ((Co.nonneg' k).2.2 a b).1⟩
theorem Co.del_at {k : Co} (h : Co.ok k = true) {u : Nat} (hu : u < 6) : Co.del k u = Zs.at k.d u := by
  unfold Co.del
  have : Lab.ok (u : Int) = true := by simp [Lab.ok]; omega
  rw [h, this]; rfl
theorem Co.ins_at {k : Co} (h : Co.ok k = true) {u : Nat} (hu : u < 6) : Co.ins k u = Zs.at k.i u := by
  unfold Co.ins
  have : Lab.ok (u : Int) = true := by simp [Lab.ok]; omega
  rw [h, this]; rfl
theorem Co.rel_at {k : Co} (h : Co.ok k = true) {u v : Nat} (hu : u < 6) (hv : v < 6) : Co.rel k u v = Zs.at k.r (u * 6 + v) := by
  unfold Co.rel
  have h1 : Lab.ok (u : Int) = true := by simp [Lab.ok]; omega
  have h2 : Lab.ok (v : Int) = true := by simp [Lab.ok]; omega
  rw [h, h1, h2]; rfl
section
variable {xs : Tr} (hok : Tr.ok xs = true)
include hok
theorem Tr.len24 : 1 ≤ xs.length ∧ xs.length ≤ 24 := (Tr.ok_iff.1 hok).2
theorem Tr.xa_lab {p : Nat} (hp : p < xs.length) : ∃ u : Nat, u < 6 ∧ Tr.xa xs p = (u : Int) := by
  obtain ⟨i, h1, _, _, h4, _⟩ := Tr.la_at hok hp
  have := (Tr.ok_at hok h1).1
  exact ⟨(Tr.l xs i).toNat, by omega, by rw [h4]; omega⟩
theorem Tr.xa_last : Tr.xa xs (xs.length - 1) = Tr.l xs 0 := by
  have h1 := (Tr.ok_iff.1 hok).2
  obtain ⟨i, a, b, _, d, _⟩ := Tr.la_at hok (p := xs.length - 1) (by omega)
  have h0 := Tr.rk_inj hok (i := 0) (j := i) (by omega) a (by
    rw [b]
    unfold Tr.rk
    rw [Tr.endN_zero hok, Tr.dn_zero hok]
    omega)
  rw [d, ← h0]
theorem Tr.lfs_len : (Tr.lfs xs).length = xs.length := by rw [Tr.lfs_length, Tr.post_length hok]
theorem Tr.lab_len : (Tr.lab xs).length = xs.length := by rw [Tr.lab_length, Tr.post_length hok]
theorem Tr.la_up {p : Nat} (hp : p < xs.length) : Zs.at (Zs.up (Tr.lfs xs)) p = (Tr.la xs p : Int) := by
  have hl := Tr.lfs_len hok
  rw [Zs.up_at _ _ (by omega)]
  unfold Tr.la
  rw [List.getD_eq_getElem?_getD, List.getElem?_eq_getElem (by omega)]
  rfl
theorem Tr.krs_lt {q : Nat} (hq : q ∈ Tr.krs xs) : q < xs.length := by
  have hlen := Tr.lfs_len hok
  unfold Tr.krs Tr.krTo at hq
  rw [hlen] at hq
  simp only [List.mem_filter, List.mem_range] at hq
  exact hq.1
end
section
variable {xs ys : Tr} {k : Co}
theorem RR_bound (hx : Tr.ok xs = true) (hy : Tr.ok ys = true) {p a q b : Nat} (h1 : p ≤ a) (h2 : a ≤ xs.length) (h3 : q ≤ b) (h4 : b ≤ ys.length) : 0 ≤ RR xs ys k p a q b ∧ RR xs ys k p a q b ≤ 48000 := by
  have n1 := (Tr.len24 hx).2
  have n2 := (Tr.len24 hy).2
  have s1 := fr_size (la := Tr.la xs) (x := Tr.xa xs) (Tr.la_nest hx) _ p a rfl h1 h2
  have s2 := fr_size (la := Tr.la ys) (x := Tr.xa ys) (Tr.la_nest hy) _ q b rfl h3 h4
  have u := FD_le (K := Co.cs k) (M := 1000) (fun a => ((Co.nonneg' k).1 a).2) (fun a => ((Co.nonneg' k).2.1 a).2) _ (fr (Tr.la xs) (Tr.xa xs) p a) (fr (Tr.la ys) (Tr.xa ys) q b) rfl
  have l := FD_nonneg (Co.cs_nonneg k) _ (fr (Tr.la xs) (Tr.xa xs) p a) (fr (Tr.la ys) (Tr.xa ys) q b) rfl
  unfold RR RD
  rw [s1, s2] at u
  omega
theorem TT_eq (a b : Nat) : TT xs ys k a b = RR xs ys k (Tr.la xs a) (a + 1) (Tr.la ys b) (b + 1) := rfl
theorem TT_bound (hx : Tr.ok xs = true) (hy : Tr.ok ys = true) {a b : Nat} (h1 : a < xs.length) (h2 : b < ys.length) : 0 ≤ TT xs ys k a b ∧ TT xs ys k a b ≤ 48000 := by
  have := (Tr.la_nest hx a h1).1
  have := (Tr.la_nest hy b h2).1
  rw [TT_eq]
  exact RR_bound hx hy (by omega) (by omega) (by omega) (by omega)
end
theorem idx_inj {m a b x y : Nat} (hb : b < m) (hy : y < m) (h : a * m + b = x * m + y) : a = x ∧ b = y := by
  have h1 : (b + m * a) / m = (y + m * x) / m := by rw [Nat.mul_comm m a, Nat.mul_comm m x]; congr 1; omega
  rw [Nat.add_mul_div_left _ _ (by omega), Nat.add_mul_div_left _ _ (by omega), Nat.div_eq_of_lt hb, Nat.div_eq_of_lt hy] at h1
  have : a = x := by omega
  subst this
  exact ⟨rfl, by omega⟩
theorem idx_lt {n m a b : Nat} (ha : a < n) (hb : b < m) : a * m + b < n * m := by
  have : (a + 1) * m ≤ n * m := Nat.mul_le_mul_right m (by omega)
  rw [Nat.add_mul] at this
  omega
/-- a table of forests from places p and q on under way at places x and y of key roots i and j, and the trees -/
structure Fill (xs ys : Tr) (k : Co) (i j x y : Nat) (F : Nat → Nat → Int) (T0 T : List Int) : Prop where
  f : ∀ a b, Tr.la xs i ≤ a → a ≤ i + 1 → Tr.la ys j ≤ b → b ≤ j + 1 → (a ≤ x ∨ (a = x + 1 ∧ b ≤ y) ∨ b = Tr.la ys j) → F a b = RR xs ys k (Tr.la xs i) a (Tr.la ys j) b
  len : T.length = xs.length * ys.length
  t1 : ∀ a b, a ≤ i → b ≤ j → Tr.la xs a = Tr.la xs i → Tr.la ys b = Tr.la ys j → (a < x ∨ (a = x ∧ b < y)) → Zs.at T (a * ys.length + b) = TT xs ys k a b
  t2 : ∀ a b, a < xs.length → b < ys.length → ¬ (a ≤ i ∧ b ≤ j ∧ Tr.la xs a = Tr.la xs i ∧ Tr.la ys b = Tr.la ys j) → Zs.at T (a * ys.length + b) = Zs.at T0 (a * ys.length + b)
/-- what the trees hold ahead of the table of key roots i and j -/
def Ahead (xs ys : Tr) (k : Co) (i j : Nat) (T : List Int) : Prop :=
  ∀ a b, Tr.la xs i ≤ a → a ≤ i → Tr.la ys j ≤ b → b ≤ j → ¬ (Tr.la xs a = Tr.la xs i ∧ Tr.la ys b = Tr.la ys j) → Zs.at T (a * ys.length + b) = TT xs ys k a b
theorem Zs.at_set {T : List Int} {u v : Nat} {z : Int} (hv : v < T.length) : Zs.at (T.set v z) u = if u = v then z else Zs.at T u := by
  unfold Zs.at
  rw [List.getD_eq_getElem?_getD, List.getD_eq_getElem?_getD, List.getElem?_set]
  by_cases e : v = u
  · subst e; rw [if_pos rfl, if_pos hv, if_pos rfl]; rfl
  · rw [if_neg e, if_neg (fun h => e h.symm)]
section
variable {xs ys : Tr} {k : Co} {i j x y : Nat} {F F' : Nat → Nat → Int} {T0 T : List Int} (hx : Tr.ok xs = true) (hy : Tr.ok ys = true) (hi : i < xs.length) (hj : j < ys.length)
include hx hy hi hj
/-- the facts of one cell -/
theorem Fill.geo (px : Tr.la xs i ≤ x) (xi : x ≤ i) (qy : Tr.la ys j ≤ y) (yj : y ≤ j) : Tr.la xs i ≤ Tr.la xs x ∧ Tr.la xs x ≤ x ∧ Tr.la ys j ≤ Tr.la ys y ∧ Tr.la ys y ≤ y := by
  have A := Tr.la_nest hx
  have B := Tr.la_nest hy
  have a1 : Tr.la xs i ≤ Tr.la xs x := by
    rcases Nat.lt_or_ge x i with h | h
    · exact (A i hi).2 x px h
    · rw [show x = i by omega]; exact Nat.le_refl _
  have b1 : Tr.la ys j ≤ Tr.la ys y := by
    rcases Nat.lt_or_ge y j with h | h
    · exact (B j hj).2 y qy h
    · rw [show y = j by omega]; exact Nat.le_refl _
  exact ⟨a1, (A x (by omega)).1, b1, (B y (by omega)).1⟩
theorem Fill.reads (h : Fill xs ys k i j x y F T0 T) (px : Tr.la xs i ≤ x) (xi : x ≤ i) (qy : Tr.la ys j ≤ y) (yj : y ≤ j) :
    F x (y + 1) = RR xs ys k (Tr.la xs i) x (Tr.la ys j) (y + 1) ∧ F (x + 1) y = RR xs ys k (Tr.la xs i) (x + 1) (Tr.la ys j) y ∧ F x y = RR xs ys k (Tr.la xs i) x (Tr.la ys j) y ∧
    F (Tr.la xs x) (Tr.la ys y) = RR xs ys k (Tr.la xs i) (Tr.la xs x) (Tr.la ys j) (Tr.la ys y) := by
  obtain ⟨g1, g2, g3, g4⟩ := Fill.geo hx hy hi hj px xi qy yj
  exact ⟨h.f _ _ (by omega) (by omega) (by omega) (by omega) (.inl (Nat.le_refl _)), h.f _ _ (by omega) (by omega) (by omega) (by omega) (.inr (.inl ⟨rfl, Nat.le_refl _⟩)),
    h.f _ _ (by omega) (by omega) (by omega) (by omega) (.inl (Nat.le_refl _)), h.f _ _ (by omega) (by omega) (by omega) (by omega) (.inl g2)⟩
theorem Fill.first (hA : Ahead xs ys k i j T0) (h : Fill xs ys k i j x y F T0 T) (px : Tr.la xs i ≤ x) (xi : x ≤ i) (qy : Tr.la ys j ≤ y) (yj : y ≤ j)
    (e : Tr.la xs x = Tr.la xs i ∧ Tr.la ys y = Tr.la ys j) {v : Int} (hv : v = min (min (F x (y + 1) + Co.del k (Tr.xa xs x)) (F (x + 1) y + Co.ins k (Tr.xa ys y))) (F x y + Co.rel k (Tr.xa xs x) (Tr.xa ys y)))
    (hF : ∀ a b, Tr.la xs i ≤ a → a ≤ i + 1 → Tr.la ys j ≤ b → b ≤ j + 1 → F' a b = if a = x + 1 ∧ b = y + 1 then v else F a b) :
    v = TT xs ys k x y ∧ Fill xs ys k i j x (y + 1) F' T0 (T.set (x * ys.length + y) v) := by
  obtain ⟨g1, g2, g3, g4⟩ := Fill.geo hx hy hi hj px xi qy yj
  obtain ⟨r1, r2, r3, _⟩ := Fill.reads hx hy hi hj h px xi qy yj
  have hvT : v = TT xs ys k x y := by
    rw [hv, r1, r2, r3, ← e.1, ← e.2]
    unfold TT
    rw [TD_rec (Tr.la_nest hx) (Tr.la_nest hy) (by omega) (by omega)]
    rfl
  have hvR : v = RR xs ys k (Tr.la xs i) (x + 1) (Tr.la ys j) (y + 1) := by rw [hvT, TT_eq, e.1, e.2]
  have hlt : x * ys.length + y < T.length := by rw [h.len]; exact idx_lt (by omega) (by omega)
  refine ⟨hvT, ⟨fun a b a1 a2 b1 b2 hc => ?_, by rw [List.length_set, h.len], fun a b a1 b1 la lb hc => ?_, fun a b a1 b1 hn => ?_⟩⟩
  · rw [hF a b a1 a2 b1 b2]
    by_cases c : a = x + 1 ∧ b = y + 1
    · rw [if_pos c, c.1, c.2]; exact hvR
    · rw [if_neg c]; exact h.f a b a1 a2 b1 b2 (by omega)
  · rw [Zs.at_set hlt]
    by_cases c : a * ys.length + b = x * ys.length + y
    · obtain ⟨rfl, rfl⟩ := idx_inj (by omega) (by omega) c
      rw [if_pos rfl]; exact hvT
    · rw [if_neg c]
      refine h.t1 a b a1 b1 la lb ?_
      have : ¬ (a = x ∧ b = y) := fun e => c (by rw [e.1, e.2])
      omega
  · rw [Zs.at_set hlt, if_neg, h.t2 a b a1 b1 hn]
    intro c
    obtain ⟨rfl, rfl⟩ := idx_inj (by omega) (by omega) c
    exact hn ⟨xi, yj, e.1, e.2⟩
theorem Fill.other (hA : Ahead xs ys k i j T0) (h : Fill xs ys k i j x y F T0 T) (px : Tr.la xs i ≤ x) (xi : x ≤ i) (qy : Tr.la ys j ≤ y) (yj : y ≤ j)
    (e : ¬ (Tr.la xs x = Tr.la xs i ∧ Tr.la ys y = Tr.la ys j)) {v : Int} (hv : v = min (min (F x (y + 1) + Co.del k (Tr.xa xs x)) (F (x + 1) y + Co.ins k (Tr.xa ys y))) (F (Tr.la xs x) (Tr.la ys y) + Zs.at T (x * ys.length + y)))
    (hF : ∀ a b, Tr.la xs i ≤ a → a ≤ i + 1 → Tr.la ys j ≤ b → b ≤ j + 1 → F' a b = if a = x + 1 ∧ b = y + 1 then v else F a b) :
    Fill xs ys k i j x (y + 1) F' T0 T := by
  obtain ⟨g1, g2, g3, g4⟩ := Fill.geo hx hy hi hj px xi qy yj
  obtain ⟨r1, r2, _, r4⟩ := Fill.reads hx hy hi hj h px xi qy yj
  have hT : Zs.at T (x * ys.length + y) = TT xs ys k x y := by
    rw [h.t2 x y (by omega) (by omega) (fun c => e ⟨c.2.2.1, c.2.2.2⟩)]
    exact hA x y px xi qy yj e
  have hvR : v = RR xs ys k (Tr.la xs i) (x + 1) (Tr.la ys j) (y + 1) := by
    rw [hv, r1, r2, r4, hT]
    unfold RR TT
    rw [RD_trees (Tr.la_nest hx) (Tr.la_nest hy) g1 (by omega) g3 (by omega)]
    rfl
  refine ⟨fun a b a1 a2 b1 b2 hc => ?_, h.len, fun a b a1 b1 la lb hc => ?_, h.t2⟩
  · rw [hF a b a1 a2 b1 b2]
    by_cases c : a = x + 1 ∧ b = y + 1
    · rw [if_pos c, c.1, c.2]; exact hvR
    · rw [if_neg c]; exact h.f a b a1 a2 b1 b2 (by omega)
  · refine h.t1 a b a1 b1 la lb ?_
    have : ¬ (a = x ∧ b = y) := fun c => e (by rw [← c.1, ← c.2]; exact ⟨la, lb⟩)
    omega
/-- borders done, no cell yet -/
theorem Fill.start (hl : T.length = xs.length * ys.length) (h1 : ∀ a, Tr.la xs i ≤ a → a ≤ i + 1 → F a (Tr.la ys j) = RR xs ys k (Tr.la xs i) a (Tr.la ys j) (Tr.la ys j))
    (h2 : ∀ b, Tr.la ys j ≤ b → b ≤ j + 1 → F (Tr.la xs i) b = RR xs ys k (Tr.la xs i) (Tr.la xs i) (Tr.la ys j) b) : Fill xs ys k i j (Tr.la xs i) (Tr.la ys j) F T T := by
  refine ⟨fun a b a1 a2 b1 b2 hc => ?_, hl, fun a b a1 b1 la lb hc => ?_, fun _ _ _ _ _ => rfl⟩
  · rcases hc with c | c | c
    · have : a = Tr.la xs i := by omega
      subst this; exact h2 b b1 b2
    · have : b = Tr.la ys j := by omega
      subst this; exact h1 a a1 a2
    · subst c; exact h1 a a1 a2
  · have := (Tr.la_nest hx a (by omega)).1
    have := (Tr.la_nest hy b (by omega)).1
    omega
end
section
variable {xs ys : Tr} {k : Co} {i j x y : Nat} {F F' : Nat → Nat → Int} {T0 T : List Int}
/-- the value that is read of the trees -/
theorem Fill.tree (hi : i < xs.length) (hj : j < ys.length) (hA : Ahead xs ys k i j T0) (h : Fill xs ys k i j x y F T0 T) (px : Tr.la xs i ≤ x) (xi : x ≤ i) (qy : Tr.la ys j ≤ y) (yj : y ≤ j) (e : ¬ (Tr.la xs x = Tr.la xs i ∧ Tr.la ys y = Tr.la ys j)) :
    Zs.at T (x * ys.length + y) = TT xs ys k x y := by
  rw [h.t2 x y (by omega) (by omega) (fun c => e ⟨c.2.2.1, c.2.2.2⟩)]
  exact hA x y px xi qy yj e
theorem Fill.next (hy : Tr.ok ys = true) (hj : j < ys.length) (h : Fill xs ys k i j x (j + 1) F T0 T) : Fill xs ys k i j (x + 1) (Tr.la ys j) F T0 T := by
  have g := (Tr.la_nest hy j hj).1
  refine ⟨fun a b a1 a2 b1 b2 hc => h.f a b a1 a2 b1 b2 (by omega), h.len, fun a b a1 b1 la lb hc => ?_, h.t2⟩
  have := (Tr.la_nest hy b (by omega)).1
  exact h.t1 a b a1 b1 la lb (by omega)
theorem RR_zero : RR xs ys k (Tr.la xs i) (Tr.la xs i) (Tr.la ys j) (Tr.la ys j) = 0 := RD_none (Nat.le_refl _) (Nat.le_refl _)
theorem RR_left (hx : Tr.ok xs = true) (hi : i < xs.length) (px : Tr.la xs i ≤ x) (xi : x ≤ i) : RR xs ys k (Tr.la xs i) (x + 1) (Tr.la ys j) (Tr.la ys j) = RR xs ys k (Tr.la xs i) x (Tr.la ys j) (Tr.la ys j) + Co.del k (Tr.xa xs x) :=
  RD_left (Tr.la_nest hx) px (by omega) (Nat.le_refl _)
theorem RR_right (hy : Tr.ok ys = true) (hj : j < ys.length) (qy : Tr.la ys j ≤ y) (yj : y ≤ j) : RR xs ys k (Tr.la xs i) (Tr.la xs i) (Tr.la ys j) (y + 1) = RR xs ys k (Tr.la xs i) (Tr.la xs i) (Tr.la ys j) y + Co.ins k (Tr.xa ys y) :=
  RD_right (Tr.la_nest hy) (Nat.le_refl _) qy (by omega)
end
/-! over the pairs of key roots -/
def Tr.kr (xs : Tr) (a : Nat) : Nat := (Tr.krs xs).getD a 0
theorem Tr.kr_mem {xs : Tr} {a : Nat} (h : a < (Tr.krs xs).length) : Tr.kr xs a ∈ Tr.krs xs := by
  unfold Tr.kr
  rw [List.getD_eq_getElem?_getD, List.getElem?_eq_getElem h]
  exact List.getElem_mem h
theorem Tr.kr_rise {xs : Tr} {a b : Nat} (hab : a < b) (hb : b < (Tr.krs xs).length) : Tr.kr xs a < Tr.kr xs b := by
  have := Tr.krs_rise hab hb
  unfold Tr.kr
  rw [List.getD_eq_getElem?_getD, List.getD_eq_getElem?_getD, List.getElem?_eq_getElem hb, List.getElem?_eq_getElem (by omega)]
  exact this
theorem Tr.kr_up {xs : Tr} {a : Nat} (h : a < (Tr.krs xs).length) : Zs.at (Zs.up (Tr.krs xs)) a = (Tr.kr xs a : Int) := by
  rw [Zs.up_at _ _ h]
  unfold Tr.kr
  rw [List.getD_eq_getElem?_getD, List.getElem?_eq_getElem h]
  rfl
/-- the trees after the first pairs of key roots: all of the first kk, and the first ll beside the next one -/
structure Roots (xs ys : Tr) (k : Co) (kk ll : Nat) (T : List Int) : Prop where
  len : T.length = xs.length * ys.length
  t : ∀ a b a' b', a < xs.length → b < ys.length → a' < (Tr.krs xs).length → b' < (Tr.krs ys).length → (a' < kk ∨ (a' = kk ∧ b' < ll)) → a ≤ Tr.kr xs a' → b ≤ Tr.kr ys b' → Tr.la xs a = Tr.la xs (Tr.kr xs a') → Tr.la ys b = Tr.la ys (Tr.kr ys b') →
    Zs.at T (a * ys.length + b) = TT xs ys k a b
/-- the place of a key root -/
theorem Tr.kr_of {xs : Tr} (hok : Tr.ok xs = true) {p : Nat} (hp : p < xs.length) : ∃ a, a < (Tr.krs xs).length ∧ p ≤ Tr.kr xs a ∧ Tr.la xs (Tr.kr xs a) = Tr.la xs p := by
  obtain ⟨q, h1, h2, h3, h4⟩ := Tr.kr_ex hok hp
  obtain ⟨a, ha, e⟩ := List.getElem_of_mem h1
  refine ⟨a, ha, ?_⟩
  have : Tr.kr xs a = q := by
    unfold Tr.kr
    rw [List.getD_eq_getElem?_getD, List.getElem?_eq_getElem ha, e]
    rfl
  rw [this]
  exact ⟨h2, h4⟩
/-- two key roots with the same first leaf are one -/
theorem Tr.kr_same {xs : Tr} (hok : Tr.ok xs = true) {a b : Nat} (ha : a < (Tr.krs xs).length) (hb : b < (Tr.krs xs).length) (h : Tr.la xs (Tr.kr xs a) = Tr.la xs (Tr.kr xs b)) : a = b := by
  rcases Nat.lt_trichotomy a b with c | c | c
  · exact absurd h.symm (Tr.kr_last hok (Tr.kr_mem ha) (Tr.krs_lt hok (Tr.kr_mem hb)) (Tr.kr_rise c hb))
  · exact c
  · exact absurd h (Tr.kr_last hok (Tr.kr_mem hb) (Tr.krs_lt hok (Tr.kr_mem ha)) (Tr.kr_rise c ha))
section
variable {xs ys : Tr} {k : Co} {kk ll : Nat} {T T' : List Int} (hx : Tr.ok xs = true) (hy : Tr.ok ys = true)
include hx hy
theorem Roots.ahead (hk : kk < (Tr.krs xs).length) (hl : ll < (Tr.krs ys).length) (h : Roots xs ys k kk ll T) : Ahead xs ys k (Tr.kr xs kk) (Tr.kr ys ll) T := by
  intro a b a1 a2 b1 b2 hn
  have i1 := Tr.krs_lt hx (Tr.kr_mem hk)
  have j1 := Tr.krs_lt hy (Tr.kr_mem hl)
  obtain ⟨a', c1, c2, c3⟩ := Tr.kr_of hx (p := a) (by omega)
  obtain ⟨b', d1, d2, d3⟩ := Tr.kr_of hy (p := b) (by omega)
  refine h.t a b a' b' (by omega) (by omega) c1 d1 ?_ c2 d2 c3.symm d3.symm
  by_cases e : Tr.la xs a = Tr.la xs (Tr.kr xs kk)
  · have hkk := Tr.kr_same hx c1 hk (c3.trans e)
    have e2 : Tr.la ys b ≠ Tr.la ys (Tr.kr ys ll) := fun e2 => hn ⟨e, e2⟩
    have := Tr.kr_under hy j1 b1 b2 e2 (Tr.krs_lt hy (Tr.kr_mem d1)) d2 d3
    refine .inr ⟨hkk, ?_⟩
    rcases Nat.lt_trichotomy b' ll with g | g | g
    · exact g
    · subst g; omega
    · have := Tr.kr_rise g d1; omega
  · have := Tr.kr_under hx i1 a1 a2 e (Tr.krs_lt hx (Tr.kr_mem c1)) c2 c3
    refine .inl ?_
    rcases Nat.lt_trichotomy a' kk with g | g | g
    · exact g
    · subst g; omega
    · have := Tr.kr_rise g c1; omega
theorem Roots.all (h : Roots xs ys k (Tr.krs xs).length 0 T) {a b : Nat} (ha : a < xs.length) (hb : b < ys.length) : Zs.at T (a * ys.length + b) = TT xs ys k a b := by
  obtain ⟨a', c1, c2, c3⟩ := Tr.kr_of hx ha
  obtain ⟨b', d1, d2, d3⟩ := Tr.kr_of hy hb
  exact h.t a b a' b' ha hb c1 d1 (.inl c1) c2 d2 c3.symm d3.symm
end
section
variable {xs ys : Tr} {k : Co} {kk ll : Nat} {T T' : List Int}
theorem Roots.step (hk : kk < (Tr.krs xs).length) (hl : ll < (Tr.krs ys).length) (h : Roots xs ys k kk ll T) {F : Nat → Nat → Int} {y : Nat}
    (hf : Fill xs ys k (Tr.kr xs kk) (Tr.kr ys ll) (Tr.kr xs kk + 1) y F T T') : Roots xs ys k kk (ll + 1) T' := by
  refine ⟨hf.len, fun a b a' b' ha hb ha' hb' hc a1 b1 la lb => ?_⟩
  by_cases e : a ≤ Tr.kr xs kk ∧ b ≤ Tr.kr ys ll ∧ Tr.la xs a = Tr.la xs (Tr.kr xs kk) ∧ Tr.la ys b = Tr.la ys (Tr.kr ys ll)
  · exact hf.t1 a b e.1 e.2.1 e.2.2.1 e.2.2.2 (.inl (by omega))
  · rw [hf.t2 a b ha hb e]
    refine h.t a b a' b' ha hb ha' hb' ?_ a1 b1 la lb
    rcases hc with c | ⟨c1, c2⟩
    · exact .inl c
    · refine .inr ⟨c1, ?_⟩
      subst c1
      rcases Nat.lt_or_ge b' ll with g | g
      · exact g
      · have : b' = ll := by omega
        subst this
        exact absurd ⟨a1, b1, la, lb⟩ e
theorem Roots.next (h : Roots xs ys k kk (Tr.krs ys).length T) : Roots xs ys k (kk + 1) 0 T :=
  ⟨h.len, fun a b a' b' ha hb ha' hb' hc a1 b1 la lb => h.t a b a' b' ha hb ha' hb' (by omega) a1 b1 la lb⟩
theorem Roots.start (hl : T.length = xs.length * ys.length) : Roots xs ys k 0 0 T := ⟨hl, fun a b a' b' _ _ _ _ hc => by omega⟩
end
/-- all distances of subtrees -/
def Tr.tds (xs ys : Tr) (k : Co) : List Int := (List.range (xs.length * ys.length)).map fun t => TT xs ys k (t / ys.length) (t % ys.length)
def Tr.dists (xs ys : Tr) (k : Co) : List Int := if Tr.ok xs && Tr.ok ys && Co.ok k then Tr.tds xs ys k else []
def Tr.dist (xs ys : Tr) (k : Co) : Int := if Tr.ok xs && Tr.ok ys && Co.ok k then TT xs ys k (xs.length - 1) (ys.length - 1) else -1
def Tr.rootDist (xs ys : Tr) (k : Co) : Int := if Tr.ok xs && Tr.ok ys && Co.ok k then RR xs ys k 0 (xs.length - 1) 0 (ys.length - 1) + Co.rel k (Tr.l xs 0) (Tr.l ys 0) else -1
theorem Roots.tds {xs ys : Tr} {k : Co} {T : List Int} (hx : Tr.ok xs = true) (hy : Tr.ok ys = true) (h : Roots xs ys k (Tr.krs xs).length 0 T) : T = Tr.tds xs ys k := by
  have hm := (Tr.len24 hy).1
  refine Zs.ext (by rw [h.len]; simp [Tr.tds]) fun t ht => ?_
  rw [h.len] at ht
  have h1 : t / ys.length < xs.length := Nat.div_lt_of_lt_mul (by rw [Nat.mul_comm]; exact ht)
  have h2 : t % ys.length < ys.length := Nat.mod_lt _ (by omega)
  have e := Nat.div_add_mod t ys.length
  have := Roots.all hx hy h h1 h2
  rw [Nat.mul_comm, e] at this
  rw [this]
  simp [Zs.at, Tr.tds, List.getD_eq_getElem?_getD, ht]
theorem Tr.tds_length (xs ys : Tr) (k : Co) : (Tr.tds xs ys k).length = xs.length * ys.length := by simp [Tr.tds]
theorem Tr.tds_last {xs ys : Tr} {k : Co} (hx : Tr.ok xs = true) (hy : Tr.ok ys = true) : Zs.at (Tr.tds xs ys k) (xs.length * ys.length - 1) = TT xs ys k (xs.length - 1) (ys.length - 1) := by
  have hn := (Tr.len24 hx).1
  have hm := (Tr.len24 hy).1
  obtain ⟨n, hn'⟩ : ∃ n, xs.length = n + 1 := ⟨xs.length - 1, by omega⟩
  have e : xs.length * ys.length - 1 = (ys.length - 1) + ys.length * n := by
    rw [hn', Nat.add_mul, Nat.mul_comm n]; omega
  have h1 : (xs.length * ys.length - 1) / ys.length = xs.length - 1 := by
    rw [e, Nat.add_mul_div_left _ _ (by omega), Nat.div_eq_of_lt (by omega)]; omega
  have h2 : (xs.length * ys.length - 1) % ys.length = ys.length - 1 := by
    rw [e, Nat.add_mul_mod_self_left, Nat.mod_eq_of_lt (by omega)]
  have hp : 0 < xs.length * ys.length := Nat.mul_pos (by omega) (by omega)
  have hlt : xs.length * ys.length - 1 < xs.length * ys.length := by omega
  have : Zs.at (Tr.tds xs ys k) (xs.length * ys.length - 1) = TT xs ys k ((xs.length * ys.length - 1) / ys.length) ((xs.length * ys.length - 1) % ys.length) := by
    simp [Zs.at, Tr.tds, List.getD_eq_getElem?_getD, hlt]
  rw [this, h1, h2]

end Go.Proofs.Ytlndaflhlkbedaa

/- Worlds that grow. -/
namespace Go.Proofs.Ytlndaflhlkbedaa
open Go.RowKit
set_option linter.unusedVariables false

theorem Kit.grown_refl (w : World) (r : Option Nat) : w.grownBy w r := ⟨rfl, rfl, rfl, Nat.le_refl _, fun _ _ _ => rfl⟩
theorem Kit.grown_trans {a b c : World} {r : Option Nat} (h : a.grownBy b r) (g : b.grownBy c r) : a.grownBy c r :=
  ⟨g.os.trans h.os, g.tape.trans h.tape, g.output.trans h.output, Nat.le_trans h.size g.size, fun k hk hne => (g.block k (Nat.lt_of_lt_of_le hk h.size) hne).trans (h.block k hk hne)⟩
theorem Kit.grown_none {a b : World} {r : Option Nat} (h : a.grownBy b none) : a.grownBy b r := ⟨h.os, h.tape, h.output, h.size, fun k hk _ => h.block k hk (by simp)⟩
theorem Kit.grown_set (w : World) (B o : Nat) (u : Value) : w.grownBy (w.setCell ⟨B, o, none⟩ u) (some B) :=
  ⟨rfl, rfl, rfl, by simp [World.setCell], fun k hk hne => Below.heap_setCell _ _ _ _ (by intro h; subst h; exact hne rfl)⟩
theorem Kit.grown_drewN (w : World) (n : Nat) (r : Option Nat) : w.grownBy (w.drewN n) r := ⟨rfl, rfl, rfl, Nat.le_refl _, fun _ _ _ => rfl⟩
theorem Kit.grown_then_drewN {w w' : World} {r : Option Nat} (h : w.grownBy w' r) (n : Nat) : w.grownBy (w'.drewN n) r := ⟨h.os, h.tape, h.output, h.size, h.block⟩
theorem Kit.grown_then_set {w w' : World} {B : Nat} (h : w.grownBy w' (some B)) (o : Nat) (u : Value) : w.grownBy (w'.setCell ⟨B, o, none⟩ u) (some B) := Kit.grown_trans h (Kit.grown_set w' B o u)
theorem Kit.below_of_grown {B : Nat} {w w' : World} {r : Option Nat} (h : w.grownBy w' r) (hr : ∀ k, r = some k → B ≤ k) (hB : B ≤ w.heap.size) : Below B w w' :=
  (Below.refl _ w).grown h hB hr

end Go.Proofs.Ytlndaflhlkbedaa

/- Contracts (BoxC). -/
namespace Go.Proofs.Ytlndaflhlkbedaa
open Go.RowKit
set_option linter.unusedVariables false

/-- a block of three cells -/
def Box3 (w : World) (g : Nat) (v0 v1 v2 : Value) : Prop := w.cell? ⟨g, 0, none⟩ = some v0 ∧ w.cell? ⟨g, 1, none⟩ = some v1 ∧ w.cell? ⟨g, 2, none⟩ = some v2
theorem Box3.drawn {w w' : World} {g : Nat} {v0 v1 v2 : Value} (h : Box3 w g v0 v1 v2) (hd : Drawn w w') : Box3 w' g v0 v1 v2 := ⟨(hd.cell _).trans h.1, (hd.cell _).trans h.2.1, (hd.cell _).trans h.2.2⟩
theorem Box3.below {w w' : World} {g B : Nat} {v0 v1 v2 : Value} (h : Box3 w g v0 v1 v2) (hb : Below B w w') (hg : g < B) : Box3 w' g v0 v1 v2 := ⟨(hb.cell (p := ⟨g, 0, none⟩) hg).trans h.1, (hb.cell (p := ⟨g, 1, none⟩) hg).trans h.2.1, (hb.cell (p := ⟨g, 2, none⟩) hg).trans h.2.2⟩
theorem Box3.made (w : World) (v0 v1 v2 : Value) (e : TypeId) : Box3 (w.alloc (.cells #[v0, v1, v2] e)) w.heap.size v0 v1 v2 := ⟨by simp, by simp, by simp⟩
theorem Box3.free (w : World) (v0 v1 v2 : Value) (e : TypeId) (off : Nat) : (w.alloc (.cells #[v0, v1, v2] e)).frozen? ⟨w.heap.size, off, none⟩ = false := by simp
theorem free_below {w w' : World} {g B : Nat} (hb : Below B w w') (hg : g < B) (h : ∀ off, w.frozen? ⟨g, off, none⟩ = false) (off : Nat) : w'.frozen? ⟨g, off, none⟩ = false := by
  have e := hb.block g hg
  have := h off
  unfold World.frozen? at this ⊢
  simp only [e]
  exact this
theorem Box3.alloc {w : World} {g : Nat} {v0 v1 v2 : Value} (h : Box3 w g v0 v1 v2) (hg : g < w.heap.size) (o : Obj) : Box3 (w.alloc o) g v0 v1 v2 :=
  ⟨(World.cell?_alloc_lt w o ⟨g, 0, none⟩ hg).trans h.1, (World.cell?_alloc_lt w o ⟨g, 1, none⟩ hg).trans h.2.1, (World.cell?_alloc_lt w o ⟨g, 2, none⟩ hg).trans h.2.2⟩

end Go.Proofs.Ytlndaflhlkbedaa

/- Contracts (Dtb). -/
namespace Go.Proofs.Ytlndaflhlkbedaa
open Go.RowKit
set_option linter.unusedVariables false

/-! The program's table of distances: one block of 635 cells, the trees' row, the rows that it reads. -/
/-- a row of ints that no store of the table reaches -/
structure RowOff (w : World) (g gt : Nat) (ad : Addr) (n : Nat) (zs : List Int) : Prop where
  len : zs.length = n
  lt : ad.block < w.heap.size
  ng : ad.block ≠ g
  nt : ad.block ≠ gt
  at_ : ∀ k, k < n → w.cell? (ad.add k) = some (.int .i64 (Zs.at zs k))
/-- where the table's parts lie -/
structure DtD where
  g : Nat
  gt : Nat
  a0 : Addr
  a1 : Addr
  a2 : Addr
  b0 : Addr
  b1 : Addr
  b2 : Addr
  k0 : Addr
  k1 : Addr
  k2 : Addr
  ca0 : Nat
  ca1 : Nat
  ca2 : Nat
  cb0 : Nat
  cb1 : Nat
  cb2 : Nat
  ck0 : Nat
  ck1 : Nat
  ck2 : Nat
def updF (F : Nat → Nat → Int) (x y : Nat) (v : Int) : Nat → Nat → Int := fun a b => if a = x ∧ b = y then v else F a b
structure DT (B : Nat) (D : DtD) (xs ys : Tr) (k : Co) (F : Nat → Nat → Int) (T : List Int) (w : World) : Prop where
  gB : B ≤ D.g
  gl : D.g < w.heap.size
  gg : D.gt ≠ D.g
  fz : ∀ off, w.frozen? ⟨D.g, off, none⟩ = false
  h0 : w.cell? ⟨D.g, 0, none⟩ = some (.slice (some D.a0) xs.length D.ca0)
  h1 : w.cell? ⟨D.g, 1, none⟩ = some (.slice (some D.a1) xs.length D.ca1)
  h2 : w.cell? ⟨D.g, 2, none⟩ = some (.slice (some D.a2) (Tr.krs xs).length D.ca2)
  h3 : w.cell? ⟨D.g, 3, none⟩ = some (.slice (some D.b0) ys.length D.cb0)
  h4 : w.cell? ⟨D.g, 4, none⟩ = some (.slice (some D.b1) ys.length D.cb1)
  h5 : w.cell? ⟨D.g, 5, none⟩ = some (.slice (some D.b2) (Tr.krs ys).length D.cb2)
  h6 : w.cell? ⟨D.g, 6, none⟩ = some (.slice (some D.k0) 6 D.ck0)
  h7 : w.cell? ⟨D.g, 7, none⟩ = some (.slice (some D.k1) 6 D.ck1)
  h8 : w.cell? ⟨D.g, 8, none⟩ = some (.slice (some D.k2) 36 D.ck2)
  h9 : w.cell? ⟨D.g, 9, none⟩ = some (.slice (some ⟨D.gt, 0, none⟩) (xs.length * ys.length) (xs.length * ys.length))
  fr : ∀ x y, x < 25 → y < 25 → w.cell? ⟨D.g, 10 + x * 25 + y, none⟩ = some (.int .i64 (F x y))
  row : w.ownsRow B 3 1 (.slice (some ⟨D.gt, 0, none⟩) (xs.length * ys.length) (xs.length * ys.length)) (xs.length * ys.length) (ints T)
  ra0 : RowOff w D.g D.gt D.a0 xs.length (Tr.lab xs)
  ra1 : RowOff w D.g D.gt D.a1 xs.length (Zs.up (Tr.lfs xs))
  ra2 : RowOff w D.g D.gt D.a2 (Tr.krs xs).length (Zs.up (Tr.krs xs))
  rb0 : RowOff w D.g D.gt D.b0 ys.length (Tr.lab ys)
  rb1 : RowOff w D.g D.gt D.b1 ys.length (Zs.up (Tr.lfs ys))
  rb2 : RowOff w D.g D.gt D.b2 (Tr.krs ys).length (Zs.up (Tr.krs ys))
  rk0 : RowOff w D.g D.gt D.k0 6 k.d
  rk1 : RowOff w D.g D.gt D.k1 6 k.i
  rk2 : RowOff w D.g D.gt D.k2 36 k.r
theorem RowOff.keep {w w' : World} {g gt n : Nat} {ad : Addr} {zs : List Int} (h : RowOff w g gt ad n zs) (hs : w.heap.size ≤ w'.heap.size) (hk : ∀ p : Addr, p.block < w.heap.size → p.block ≠ g → p.block ≠ gt → w'.cell? p = w.cell? p) : RowOff w' g gt ad n zs :=
  ⟨h.len, Nat.lt_of_lt_of_le h.lt hs, h.ng, h.nt, fun k hk' => by rw [hk _ (by rw [block_of_add]; exact h.lt) (by rw [block_of_add]; exact h.ng) (by rw [block_of_add]; exact h.nt)]; exact h.at_ k hk'⟩
section
variable {B : Nat} {D : DtD} {xs ys : Tr} {k : Co} {F : Nat → Nat → Int} {T : List Int} {w w' : World}
theorem DT.drawn (h : DT B D xs ys k F T w) (hd : Drawn w w') : DT B D xs ys k F T w' := by obtain ⟨m, rfl⟩ := hd; exact ⟨h.gB, h.gl, h.gg, h.fz, h.h0, h.h1, h.h2, h.h3, h.h4, h.h5, h.h6, h.h7, h.h8, h.h9, h.fr, h.row, ⟨h.ra0.1, h.ra0.2, h.ra0.3, h.ra0.4, h.ra0.5⟩, ⟨h.ra1.1, h.ra1.2, h.ra1.3, h.ra1.4, h.ra1.5⟩, ⟨h.ra2.1, h.ra2.2, h.ra2.3, h.ra2.4, h.ra2.5⟩, ⟨h.rb0.1, h.rb0.2, h.rb0.3, h.rb0.4, h.rb0.5⟩, ⟨h.rb1.1, h.rb1.2, h.rb1.3, h.rb1.4, h.rb1.5⟩, ⟨h.rb2.1, h.rb2.2, h.rb2.3, h.rb2.4, h.rb2.5⟩, ⟨h.rk0.1, h.rk0.2, h.rk0.3, h.rk0.4, h.rk0.5⟩, ⟨h.rk1.1, h.rk1.2, h.rk1.3, h.rk1.4, h.rk1.5⟩, ⟨h.rk2.1, h.rk2.2, h.rk2.3, h.rk2.4, h.rk2.5⟩⟩
theorem DT.tlen (h : DT B D xs ys k F T w) : T.length = xs.length * ys.length := by have := h.row.1; rw [ints_length] at this; omega
theorem DT.tB (h : DT B D xs ys k F T w) : B ≤ D.gt ∧ D.gt < w.heap.size := h.row.lt D.gt rfl
theorem DT.setF (h : DT B D xs ys k F T w) {x y : Nat} (hx : x < 25) (hy : y < 25) (v : Int) : DT B D xs ys k (updF F x y v) T (w.setCell ⟨D.g, 10 + x * 25 + y, none⟩ (.int .i64 v)) := by
  have hsz : (w.setCell ⟨D.g, 10 + x * 25 + y, none⟩ (.int .i64 v)).heap.size = w.heap.size := by simp
  have ho : ∀ p : Addr, p.block < w.heap.size → p.block ≠ D.g → p.block ≠ D.gt → (w.setCell ⟨D.g, 10 + x * 25 + y, none⟩ (.int .i64 v)).cell? p = w.cell? p := fun p _ hp _ => World.cell?_setCell_other _ _ _ _ (fun e => hp (by rw [← e]))
  have hl : ∀ o, o < 10 → (w.setCell ⟨D.g, 10 + x * 25 + y, none⟩ (.int .i64 v)).cell? ⟨D.g, o, none⟩ = w.cell? ⟨D.g, o, none⟩ := fun o ho => World.cell?_setCell_other _ _ _ _ (fun e => by injection e with e1 e2; omega)
  have hle : w.heap.size ≤ (w.setCell ⟨D.g, 10 + x * 25 + y, none⟩ (.int .i64 v)).heap.size := by omega
  have r {ad : Addr} {n : Nat} {zs : List Int} (q : RowOff w D.g D.gt ad n zs) := q.keep hle ho
  exact {
    gB := h.gB, gl := by rw [hsz]; exact h.gl, gg := h.gg
    fz := fun off => by rw [World.frozen?_setCell]; exact h.fz off
    h0 := (hl _ (by omega)).trans h.h0, h1 := (hl _ (by omega)).trans h.h1, h2 := (hl _ (by omega)).trans h.h2
    h3 := (hl _ (by omega)).trans h.h3, h4 := (hl _ (by omega)).trans h.h4, h5 := (hl _ (by omega)).trans h.h5
    h6 := (hl _ (by omega)).trans h.h6, h7 := (hl _ (by omega)).trans h.h7, h8 := (hl _ (by omega)).trans h.h8
    h9 := (hl _ (by omega)).trans h.h9
    fr := fun a b ha hb => by
      unfold updF
      by_cases e : a = x ∧ b = y
      · rw [if_pos e, e.1, e.2]
        exact World.cell?_setCell_same' _ _ _ (by rw [h.fr x y hx hy]; rfl)
      · rw [if_neg e, World.cell?_setCell_other _ _ _ _ (fun e' => by injection e' with e1 e2; omega)]
        exact h.fr a b ha hb
    row := h.row.kept (Kit.grown_set w D.g _ _) (.inr fun e => h.gg (by injection e))
    ra0 := r h.ra0, ra1 := r h.ra1, ra2 := r h.ra2, rb0 := r h.rb0, rb1 := r h.rb1, rb2 := r h.rb2, rk0 := r h.rk0, rk1 := r h.rk1, rk2 := r h.rk2 }
theorem DT.setT (h : DT B D xs ys k F T w) (u : Nat) (v : Int) : DT B D xs ys k F (T.set u v) (w.setCell ⟨D.gt, u, none⟩ (.int .i64 v)) := by
  have hsz : (w.setCell ⟨D.gt, u, none⟩ (.int .i64 v)).heap.size = w.heap.size := by simp
  have ho : ∀ p : Addr, p.block < w.heap.size → p.block ≠ D.g → p.block ≠ D.gt → (w.setCell ⟨D.gt, u, none⟩ (.int .i64 v)).cell? p = w.cell? p := fun p _ _ hp => World.cell?_setCell_other _ _ _ _ (fun e => hp (by rw [← e]))
  have hl : ∀ o, (w.setCell ⟨D.gt, u, none⟩ (.int .i64 v)).cell? ⟨D.g, o, none⟩ = w.cell? ⟨D.g, o, none⟩ := fun o => World.cell?_setCell_other _ _ _ _ (fun e => by injection e with e1 e2; exact h.gg e1)
  have hle : w.heap.size ≤ (w.setCell ⟨D.gt, u, none⟩ (.int .i64 v)).heap.size := by omega
  have r {ad : Addr} {n : Nat} {zs : List Int} (q : RowOff w D.g D.gt ad n zs) := q.keep hle ho
  exact {
    gB := h.gB, gl := by rw [hsz]; exact h.gl, gg := h.gg
    fz := fun off => by rw [World.frozen?_setCell]; exact h.fz off
    h0 := (hl _).trans h.h0, h1 := (hl _).trans h.h1, h2 := (hl _).trans h.h2, h3 := (hl _).trans h.h3, h4 := (hl _).trans h.h4, h5 := (hl _).trans h.h5
    h6 := (hl _).trans h.h6, h7 := (hl _).trans h.h7, h8 := (hl _).trans h.h8, h9 := (hl _).trans h.h9
    fr := fun a b ha hb => (hl _).trans (h.fr a b ha hb)
    row := by have := (h.row.stored u (.int .i64 v)).1; rw [ints_set] at this; exact this
    ra0 := r h.ra0, ra1 := r h.ra1, ra2 := r h.ra2, rb0 := r h.rb0, rb1 := r h.rb1, rb2 := r h.rb2, rk0 := r h.rk0, rk1 := r h.rk1, rk2 := r h.rk2 }
end

end Go.Proofs.Ytlndaflhlkbedaa
