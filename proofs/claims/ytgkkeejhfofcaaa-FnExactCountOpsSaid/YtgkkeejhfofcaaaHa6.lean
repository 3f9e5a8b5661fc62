/- Texts of one claim laid into one file, in build order: Dtb, F8, Fce, Num, C1P, Cod, TreeOkI, KeyI, Three, SideI, FullM, Krl. -/
import Derived.Test.YtgkkeejhfofcaaaHa1
import Derived.Test.YtgkkeejhfofcaaaHa2
import Derived.Test.YtgkkeejhfofcaaaHa3
import Derived.Test.YtgkkeejhfofcaaaHa4
import Derived.Test.YtgkkeejhfofcaaaHa5
import Derived.BigQuiet
import Derived.Deep.RegionHeld3
import Derived.Deep.RegionLaw
import Derived.Laws.OwnMore
import Derived.Laws.Tables
import Derived.Lib.Bytealg
import Derived.Lib.Strings
import Derived.Outline
import Derived.Test.YtgkkeejhfofcaaaRows
import Derived.WalkKit
/- Contracts (Dtb). -/
namespace Go.Proofs.Ytgkkeejhfofcaaa
open Go.RowKit
set_option linter.unusedVariables false

/-! The program's table of distances: one block of 635 cells, the trees' row, the rows that it reads. -/
/-- a row of ints that no store of the table reaches -/
structure RowOff (w : World) (g gt : Nat) (ad : Addr) (n : Nat) (zs : List Int) : Prop where
  len : zs.length = n
  lt : ad.block < w.heap.size
  ng : ad.block ≠ g
  nt : ad.block ≠ gt
  at_ : ∀ k, k < n → w.cell? (ad.add k) = some (.int .i64 (Zs.at zs k))
/-- where the table's parts lie -/
structure DtD where
  g : Nat
  gt : Nat
  a0 : Addr
  a1 : Addr
  a2 : Addr
  b0 : Addr
  b1 : Addr
  b2 : Addr
  k0 : Addr
  k1 : Addr
  k2 : Addr
  ca0 : Nat
  ca1 : Nat
  ca2 : Nat
  cb0 : Nat
  cb1 : Nat
  cb2 : Nat
  ck0 : Nat
  ck1 : Nat
  ck2 : Nat
structure DT (B : Nat) (D : DtD) (xs ys : Tr) (k : Co) (F : Nat → Nat → Int) (T : List Int) (w : World) : Prop where
  gB : B ≤ D.g
  gl : D.g < w.heap.size
  gg : D.gt ≠ D.g
  fz : ∀ off, w.frozen? ⟨D.g, off, none⟩ = false
  h0 : w.cell? ⟨D.g, 0, none⟩ = some (.slice (some D.a0) xs.length D.ca0)
  h1 : w.cell? ⟨D.g, 1, none⟩ = some (.slice (some D.a1) xs.length D.ca1)
  h2 : w.cell? ⟨D.g, 2, none⟩ = some (.slice (some D.a2) (Tr.krs xs).length D.ca2)
  h3 : w.cell? ⟨D.g, 3, none⟩ = some (.slice (some D.b0) ys.length D.cb0)
  h4 : w.cell? ⟨D.g, 4, none⟩ = some (.slice (some D.b1) ys.length D.cb1)
  h5 : w.cell? ⟨D.g, 5, none⟩ = some (.slice (some D.b2) (Tr.krs ys).length D.cb2)
  h6 : w.cell? ⟨D.g, 6, none⟩ = some (.slice (some D.k0) 6 D.ck0)
  h7 : w.cell? ⟨D.g, 7, none⟩ = some (.slice (some D.k1) 6 D.ck1)
  h8 : w.cell? ⟨D.g, 8, none⟩ = some (.slice (some D.k2) 36 D.ck2)
  h9 : w.cell? ⟨D.g, 9, none⟩ = some (.slice (some ⟨D.gt, 0, none⟩) (xs.length * ys.length) (xs.length * ys.length))
  fr : ∀ x y, x < 25 → y < 25 → w.cell? ⟨D.g, 10 + x * 25 + y, none⟩ = some (.int .i64 (F x y))
  row : w.ownsRow B 3 1 (.slice (some ⟨D.gt, 0, none⟩) (xs.length * ys.length) (xs.length * ys.length)) (xs.length * ys.length) (ints T)
  ra0 : RowOff w D.g D.gt D.a0 xs.length (Tr.lab xs)
  ra1 : RowOff w D.g D.gt D.a1 xs.length (Zs.up (Tr.lfs xs))
  ra2 : RowOff w D.g D.gt D.a2 (Tr.krs xs).length (Zs.up (Tr.krs xs))
  rb0 : RowOff w D.g D.gt D.b0 ys.length (Tr.lab ys)
  rb1 : RowOff w D.g D.gt D.b1 ys.length (Zs.up (Tr.lfs ys))
  rb2 : RowOff w D.g D.gt D.b2 (Tr.krs ys).length (Zs.up (Tr.krs ys))
  rk0 : RowOff w D.g D.gt D.k0 6 k.d
  rk1 : RowOff w D.g D.gt D.k1 6 k.i
  rk2 : RowOff w D.g D.gt D.k2 36 k.r
theorem RowOff.keep {w w' : World} {g gt n : Nat} {ad : Addr} {zs : List Int} (h : RowOff w g gt ad n zs) (hs : w.heap.size ≤ w'.heap.size) (hk : ∀ p : Addr, p.block < w.heap.size → p.block ≠ g → p.block ≠ gt → w'.cell? p = w.cell? p) : RowOff w' g gt ad n zs :=
  ⟨h.len, Nat.lt_of_lt_of_le h.lt hs, h.ng, h.nt, fun k hk' => by rw [hk _ (by rw [block_of_add]; exact h.lt) (by rw [block_of_add]; exact h.ng) (by rw [block_of_add]; exact h.nt)]; exact h.at_ k hk'⟩
section
variable {B : Nat} {D : DtD} {xs ys : Tr} {k : Co} {F : Nat → Nat → Int} {T : List Int} {w w' : World}
theorem DT.drawn (h : DT B D xs ys k F T w) (hd : Drawn w w') : DT B D xs ys k F T w' := by obtain ⟨m, rfl⟩ := hd; exact ⟨h.gB, h.gl, h.gg, h.fz, h.h0, h.h1, h.h2, h.h3, h.h4, h.h5, h.h6, h.h7, h.h8, h.h9, h.fr, h.row, ⟨h.ra0.1, h.ra0.2, h.ra0.3, h.ra0.4, h.ra0.5⟩, ⟨h.ra1.1, h.ra1.2, h.ra1.3, h.ra1.4, h.ra1.5⟩, ⟨h.ra2.1, h.ra2.2, h.ra2.3, h.ra2.4, h.ra2.5⟩, ⟨h.rb0.1, h.rb0.2, h.rb0.3, h.rb0.4, h.rb0.5⟩, ⟨h.rb1.1, h.rb1.2, h.rb1.3, h.rb1.4, h.rb1.5⟩, ⟨h.rb2.1, h.rb2.2, h.rb2.3, h.rb2.4, h.rb2.5⟩, ⟨h.rk0.1, h.rk0.2, h.rk0.3, h.rk0.4, h.rk0.5⟩, ⟨h.rk1.1, h.rk1.2, h.rk1.3, h.rk1.4, h.rk1.5⟩, ⟨h.rk2.1, h.rk2.2, h.rk2.3, h.rk2.4, h.rk2.5⟩⟩
end

end Go.Proofs.Ytgkkeejhfofcaaa

/- Contracts (F8). -/
namespace Go.Proofs.Ytgkkeejhfofcaaa
open Go.RowKit
set_option linter.unusedVariables false

/-! The model's table of forests: one row from the key roots' first leaves on. -/
def ix (p q W a b : Nat) : Nat := (a - p) * W + (b - q)
/-- the row f and the trees, beside what stood ahead of f -/
structure F8 (B gt hf nf nm : Nat) (w0 w1 : World) (f T : List Int) (wr : World) : Prop where
  kb : ∀ p : Addr, p.block < hf → p.block ≠ gt → wr.cell? p = w1.cell? p
  rf : wr.ownsRow hf 3 1 (.slice (some ⟨hf, 0, none⟩) nf nf) nf (ints f)
  rt : wr.ownsRow B 3 1 (.slice (some ⟨gt, 0, none⟩) nm nm) nm (ints T)
  bl : Below B w0 wr
section
variable {B gt hf nf nm : Nat} {w0 w1 wr w' : World} {f T : List Int}
theorem F8.drawn (h : F8 B gt hf nf nm w0 w1 f T wr) (hd : Drawn wr w') : F8 B gt hf nf nm w0 w1 f T w' :=
  ⟨fun p h1 h2 => (hd.cell p).trans (h.kb p h1 h2), own_drawn h.rf hd, own_drawn h.rt hd, Drawn.below h.bl hd⟩
theorem F8.row {ad : Addr} {n : Nat} {zs : List Int} (h : F8 B gt hf nf nm w0 w1 f T wr) (hr : RowOff w1 gt gt ad n zs) (hl : ad.block < hf) {k : Nat} (hk : k < n) : wr.cell? (ad.add k) = some (.int .i64 (Zs.at zs k)) := by
  rw [h.kb _ (by rw [block_of_add]; exact hl) (by rw [block_of_add]; exact hr.ng)]
  exact hr.at_ k hk
end

end Go.Proofs.Ytgkkeejhfofcaaa

/- The facts of one cell of the model's table of forests. -/
namespace Go.Proofs.Ytgkkeejhfofcaaa
open Go.RowKit
set_option linter.unusedVariables false

theorem RowOff.made {w : World} {gt n : Nat} {ad : Addr} {zs : List Int} {o : Obj} (h : RowOff w gt gt ad n zs) : RowOff (w.alloc o) gt gt ad n zs :=
  ⟨h.len, by have := h.lt; simp; omega, h.ng, h.nt, fun k hk => by rw [World.cell?_alloc_lt w o _ (by rw [block_of_add]; exact h.lt)]; exact h.at_ k hk⟩
section
variable {B gt hf nf nm : Nat} {ax ay ala alb k0 k1 k2 : Addr} {cx cy e0 e1 e2 : Nat} {xs ys : Tr} {k : Co} {T T1 f : List Int} {i j x y p q W V : Nat} {w wb wr : World}
end

end Go.Proofs.Ytgkkeejhfofcaaa

/- Plain mathematics of chapter 1 (bytes of a number), without the program. -/
namespace Go.Proofs.Ytgkkeejhfofcaaa.Num

/-- n divided k times by 256 -/
def dn (n : Nat) : Nat → Nat
  | 0 => n
  | k + 1 => dn n k / 256

theorem dn_pow (n k : Nat) : dn n k = n / 2 ^ (8 * k) := by
  induction k with
  | zero => simp [dn]
  | succ k ih =>
    rw [dn, ih, Nat.div_div_eq_div_mul]
    congr 1
    rw [Nat.mul_add, Nat.pow_add]

theorem dn_le (n k : Nat) : dn n k ≤ n := by
  rw [dn_pow]; exact Nat.div_le_self _ _

end Go.Proofs.Ytgkkeejhfofcaaa.Num

/- Plain mathematics of chapter 1. -/
namespace Go.Proofs.Ytgkkeejhfofcaaa
open Go.RowKit
set_option linter.unusedVariables false

/-- the varint of a number below 128^(f+1) -/
def Num.varF : Nat → Nat → List UInt8
  | 0, q => [UInt8.ofNat q]
  | f + 1, q => if q < 128 then [UInt8.ofNat q] else UInt8.ofNat (128 + q % 128) :: Num.varF f (q / 128)

/-- what Var gives -/
def Num.varR (n : Int) : List UInt8 := if 0 ≤ n ∧ n ≤ 562949953421311 then Num.varF 6 n.toNat else []

theorem Num.varF_big (f q : Nat) (h : 128 ≤ q) : Num.varF (f + 1) q = UInt8.ofNat (128 + q % 128) :: Num.varF f (q / 128) := by
  rw [Num.varF, if_neg (by omega)]

/-- what holds at each round's head: f bytes at most come behind those that are gathered -/
def Num.VarAt (m f q : Nat) (acc : List UInt8) : Prop := acc.length + f = 6 ∧ q < 128 ^ (f + 1) ∧ acc ++ Num.varF f q = Num.varF 6 m

theorem Num.VarAt.start {m : Nat} (h : m ≤ 562949953421311) : Num.VarAt m 6 m [] := ⟨rfl, by omega, by simp⟩

theorem Num.VarAt.len {m f q : Nat} {acc : List UInt8} (h : Num.VarAt m f q acc) : acc.length ≤ 6 := by have := h.1; omega

theorem Num.VarAt.step {m f q : Nat} {acc : List UInt8} (h : Num.VarAt m f q acc) (hq : 128 ≤ q) :
    ∃ f', f = f' + 1 ∧ Num.VarAt m f' (q / 128) (acc ++ [UInt8.ofNat (128 + q % 128)]) := by
  obtain ⟨h1, h2, h3⟩ := h
  cases f with
  | zero => omega
  | succ f =>
    refine ⟨f, rfl, by simp; omega, ?_, ?_⟩
    · rw [Nat.pow_succ] at h2
      exact Nat.div_lt_of_lt_mul (by omega)
    · rw [Num.varF_big f q hq] at h3
      simpa using h3

/-- the number of seven bits a byte, the least significant first -/
def Num.val7 : List UInt8 → Nat
  | [] => 0
  | b :: l => b.toNat % 128 + 128 * Num.val7 l

/-- the length up to the first byte below 128, among the first seven -/
def Num.vsz : Nat → List UInt8 → Nat → Nat
  | 0, _, _ => 0
  | _ + 1, [], _ => 0
  | f + 1, b :: l, i => if b.toNat < 128 then i + 1 else Num.vsz f l (i + 1)

def Num.vsize (l : List UInt8) : Nat := Num.vsz 7 l 0

/-- is the beginning of k bytes the varint of what it says? -/
def Num.good (l : List UInt8) (k : Nat) : Prop := Num.varF 6 (Num.val7 (l.take k)) = l.take k

instance (l : List UInt8) (k : Nat) : Decidable (Num.good l k) := by unfold Num.good; infer_instance

/-- what ReadVar gives -/
def Num.rvK (s : ByteArray) : Nat := if Num.good s.data.toList (Num.vsize s.data.toList) then Num.vsize s.data.toList else 0

def Num.rvN (s : ByteArray) : Nat := Num.val7 (s.data.toList.take (Num.rvK s))

end Go.Proofs.Ytgkkeejhfofcaaa

/- Contracts (Cod). -/
namespace Go.Proofs.Ytgkkeejhfofcaaa
open Go.RowKit
set_option linter.unusedVariables false


/-- the bytes of a number -/
def Num.varB (n : Int) : ByteArray := ⟨(Num.varR n).toArray⟩
/-- the bytes of a tree's count and of its first k nodes -/
def Tr.putTo (xs : Tr) : Nat → ByteArray
  | 0 => Num.varB xs.length
  | k + 1 => Tr.putTo xs k ++ Num.varB (Tr.l xs k) ++ Num.varB (Tr.d xs k)
def Tr.put (xs : Tr) : ByteArray := if Tr.ok xs then Tr.putTo xs xs.length else ⟨#[]⟩
/-- may a node of depth d come behind the first n nodes -/
def Tr.fits (xs : Tr) (n : Nat) (d : Int) : Bool := if n = 0 then decide (d = 0) else decide (1 ≤ d ∧ d ≤ Tr.d xs (n - 1) + 1)
/-- what stands behind the first u bytes -/
def Num.rest (t : ByteArray) (u : Nat) : ByteArray := t.extract u t.size
/-- the node at the start of t, behind the nodes xs: the node, its length, its code -/
def Tr.node (t : ByteArray) (xs : Tr) : (Int × Int) × Nat × Int :=
  if Num.rvK t = 0 then ((0, 0), 0, 1)
  else if Lab.ok (Num.rvN t) = false then ((0, 0), 0, 3)
  else if Num.rvK (Num.rest t (Num.rvK t)) = 0 then ((0, 0), 0, 1)
  else if 12 < Num.rvN (Num.rest t (Num.rvK t)) then ((0, 0), 0, 4)
  else if Tr.fits xs xs.length (Num.rvN (Num.rest t (Num.rvK t))) = false then ((0, 0), 0, 5)
  else (((Num.rvN t : Int), (Num.rvN (Num.rest t (Num.rvK t)) : Int)), Num.rvK t + Num.rvK (Num.rest t (Num.rvK t)), 0)
section
variable {t : ByteArray} {xs : Tr}
end
end Go.Proofs.Ytgkkeejhfofcaaa

/- Contracts (TreeOkI). -/
namespace Go.Proofs.Ytgkkeejhfofcaaa
open Go.RowKit
set_option linter.unusedVariables false

theorem Tr.d_take {xs : Tr} {k j : Nat} (h : j < k) : Tr.d (xs.take k) j = Tr.d xs j := by simp [Tr.d, List.getD_eq_getElem?_getD, h]
theorem NdIn.head {w : World} {B n : Nat} {A : Option Addr} {xs : Tr} (h : NdIn w B A n xs) {k : Nat} (hk : k ≤ n) : NdIn w B A k (xs.take k) := by
  refine ⟨by have := h.1; simp; omega, fun h0 => h.2.1 (by omega), fun ad e j hj => ?_⟩
  have := h.2.2 ad e j (by omega)
  have hg : (xs.take k).getD j (0, 0) = xs.getD j (0, 0) := by simp [List.getD_eq_getElem?_getD, hj]
  simp only [Tr.l, Tr.d] at this ⊢
  rw [hg]
  exact this
end Go.Proofs.Ytgkkeejhfofcaaa

/- Contracts (KeyI). -/
namespace Go.Proofs.Ytgkkeejhfofcaaa
open Go.RowKit
set_option linter.unusedVariables false

theorem IntIn.cut {w : World} {B n : Nat} {ad : Addr} {zs : List Int} (h : IntIn w B (some ad) n zs) {j m : Nat} (hjm : j + m = n) : IntIn w B (some (ad.add j)) m (zs.drop j) := by
  refine ⟨by have := h.1; simp; omega, fun hm => ⟨_, rfl, ?_⟩, fun ad' e k hk => ?_⟩
  · rw [block_of_add]
    obtain ⟨ad', e, hb⟩ := h.2.1 (by omega)
    obtain rfl : ad = ad' := by injection e
    exact hb
  · obtain rfl : ad.add j = ad' := by injection e
    have hc := h.2.2 ad rfl (j + k) (by omega)
    rw [add_of_add]
    simpa [Zs.at, List.getD_eq_getElem?_getD] using hc
theorem IntIn.none {w : World} {B : Nat} {A : Option Addr} : IntIn w B A 0 [] := ⟨rfl, fun h => absurd h (Nat.lt_irrefl 0), fun ad _ k hk => absurd hk (Nat.not_lt_zero k)⟩
end Go.Proofs.Ytgkkeejhfofcaaa

/- Contracts (Three). -/
namespace Go.Proofs.Ytgkkeejhfofcaaa
open Go.RowKit
set_option linter.unusedVariables false

theorem Apart.symm {a b : Value} (h : Apart a b) : Apart b a := by
  rcases hb : b.ownBlock with _ | g
  · exact .inl hb
  · refine .inr fun e => ?_
    rcases h with h | h
    · rw [hb, h] at e; cases e
    · exact h e.symm
/-- a struct of three rows of ints that a call builds: in block g; the rows behind it, apart from one another -/
def ThreeAt (w0 : World) (g n0 n1 n2 : Nat) (L0 L1 L2 : List Int) (v0 v1 v2 : Value) (w : World) : Prop :=
  Box3 w g v0 v1 v2 ∧ (∀ off, w.frozen? ⟨g, off, none⟩ = false) ∧ w.ownsRow (g + 1) 3 1 v0 n0 (ints L0) ∧ w.ownsRow (g + 1) 3 1 v1 n1 (ints L1) ∧ w.ownsRow (g + 1) 3 1 v2 n2 (ints L2) ∧
  Apart v0 v1 ∧ Apart v0 v2 ∧ Apart v1 v2 ∧ Below w0.heap.size w0 w ∧ g < w.heap.size
/-- the struct as it is made: three empty rows -/
theorem Three.new (w0 : World) (e : TypeId) : ThreeAt w0 w0.heap.size 0 0 0 [] [] [] (.slice none 0 0) (.slice none 0 0) (.slice none 0 0) (w0.alloc (.cells #[.slice none 0 0, .slice none 0 0, .slice none 0 0] e)) :=
  ⟨Box3.made _ _ _ _ _, Box3.free _ _ _ _ _, own_nil, own_nil, own_nil, .inl rfl, .inl rfl, .inl rfl, (Below.refl _ _).alloc (Nat.le_refl _) _, by simp⟩
/-- its three rows, as they lie behind a store of it into another struct -/
theorem Three.out {w0 w : World} {g n0 n1 n2 s : Nat} {L0 L1 L2 : List Int} {v0 v1 v2 u0 u1 u2 : Value} (h : ThreeAt w0 g n0 n1 n2 L0 L1 L2 v0 v1 v2 w) (hs : s ≤ g) {base : Nat} (hb : base ≤ g) :
    let W := ((w.setCell ⟨s, 0, none⟩ u0).setCell ⟨s, 1, none⟩ u1).setCell ⟨s, 2, none⟩ u2
    W.ownsRow base 3 1 v0 n0 (ints L0) ∧ W.ownsRow base 3 1 v1 n1 (ints L1) ∧ W.ownsRow base 3 1 v2 n2 (ints L2) ∧ Apart v0 v1 ∧ Apart v0 v2 ∧ Apart v1 v2 := by
  obtain ⟨hx, hf, o0, o1, o2, a01, a02, a12, hB, hgl⟩ := h
  have keep : ∀ (v : Value) (n : Nat) (ys : List Value), w.ownsRow (g + 1) 3 1 v n ys → (((w.setCell ⟨s, 0, none⟩ u0).setCell ⟨s, 1, none⟩ u1).setCell ⟨s, 2, none⟩ u2).ownsRow base 3 1 v n ys := fun _ _ _ k =>
    own_base (own_grown (own_grown (own_grown k (Kit.grown_set _ _ _ _) (fun b hb => by injection hb with hb; omega)) (Kit.grown_set _ _ _ _) (fun b hb => by injection hb with hb; omega)) (Kit.grown_set _ _ _ _) (fun b hb => by injection hb with hb; omega)) (by omega)
  exact ⟨keep _ _ _ o0, keep _ _ _ o1, keep _ _ _ o2, a01, a02, a12⟩

end Go.Proofs.Ytgkkeejhfofcaaa

/- Contracts (SideI). -/
namespace Go.Proofs.Ytgkkeejhfofcaaa
open Go.RowKit
set_option linter.unusedVariables false

/-- a struct of three rows in block g, the first of which grows in blocks from b0 on -/
structure SdA (g b0 : Nat) (v1 v2 : Value) (L : List Int) (v0 : Value) (w2 w3 wr : World) : Prop where
  c0 : wr.cell? ⟨g, 0, none⟩ = some v0
  c1 : wr.cell? ⟨g, 1, none⟩ = some v1
  c2 : wr.cell? ⟨g, 2, none⟩ = some v2
  fz : ∀ off, wr.frozen? ⟨g, off, none⟩ = false
  row : wr.ownsRow b0 3 1 v0 L.length (ints L)
  kb : ∀ p : Addr, p.block < b0 → p.block ≠ g → wr.cell? p = w3.cell? p
  bl : Below g w2 wr
  sz : b0 ≤ wr.heap.size
theorem SdA.drew {g b0 : Nat} {v1 v2 v0 : Value} {L : List Int} {w2 w3 wr : World} (h : SdA g b0 v1 v2 L v0 w2 w3 wr) : SdA g b0 v1 v2 L v0 w2 w3 wr.drew :=
  ⟨h.c0, h.c1, h.c2, h.fz, own_drawn h.row (Drawn.refl _).drew, h.kb, Drawn.below h.bl (Drawn.refl _).drew, h.sz⟩
end Go.Proofs.Ytgkkeejhfofcaaa

/- Contracts (FullM). -/
namespace Go.Proofs.Ytgkkeejhfofcaaa
open Go.RowKit
set_option linter.unusedVariables false

/-! How the table is made. -/
/-- the cells of a new table -/
def dtCells (z : Array Value) (a0 a1 a2 b0 b1 b2 k0 k1 k2 t : Value) : Array Value := (((((((((z.setIfInBounds 0 a0).setIfInBounds 1 a1).setIfInBounds 2 a2).setIfInBounds 3 b0).setIfInBounds 4 b1).setIfInBounds 5 b2).setIfInBounds 6 k0).setIfInBounds 7 k1).setIfInBounds 8 k2).setIfInBounds 9 t
theorem dt_cells (a0 a1 a2 b0 b1 b2 k0 k1 k2 t : Value) : dtCells Try.zeroCells92 a0 a1 a2 b0 b1 b2 k0 k1 k2 t = ⟨[a0, a1, a2, b0, b1, b2, k0, k1, k2, t] ++ List.replicate 625 (.int .i64 0)⟩ := by kernel_rfl
theorem dtCells_zero (a0 a1 a2 b0 b1 b2 k0 k1 k2 t : Value) (x y : Nat) (hx : x < 25) (hy : y < 25) : (dtCells Try.zeroCells92 a0 a1 a2 b0 b1 b2 k0 k1 k2 t)[10 + x * 25 + y]? = some (.int .i64 0) := by
  rw [dt_cells, List.getElem?_toArray, List.getElem?_append_right (by simp; omega), List.getElem?_replicate, if_pos (by simp; omega)]
/-- a row of the call's own, seen from a block that is made behind it -/
theorem RowOff.of_own {w : World} {base ga gt n c : Nat} {zs : List Int} {o : Obj} (h : w.ownsRow base 3 1 (.slice (some ⟨ga, 0, none⟩) n c) n (ints zs)) (hg : ga < w.heap.size) (hne : ga ≠ gt) : RowOff (w.alloc o) w.heap.size gt ⟨ga, 0, none⟩ n zs := by
  have hlen : zs.length = n := by have := h.1; rw [ints_length] at this; omega
  refine ⟨hlen, by simp; omega, by show ga ≠ w.heap.size; omega, hne, fun k hk => ?_⟩
  have := (h.alloc o).cells rfl k _ (ints_at zs k (by omega))
  exact this
theorem RowOff.of_in {w : World} {B gt n : Nat} {ad : Addr} {zs : List Int} {o : Obj} (h : IntIn w B (some ad) n zs) (hb : ad.block < B) (hB : B ≤ gt) (hg : gt < w.heap.size) : RowOff (w.alloc o) w.heap.size gt ad n zs := by
  refine ⟨h.1, by simp; omega, by omega, by omega, fun k hk => ?_⟩
  rw [World.cell?_alloc_lt w o _ (by rw [block_of_add]; omega)]
  exact h.here hk
theorem cell_made (w : World) (cs : Array Value) (e : TypeId) (off : Nat) (u : Value) (hu : cs[off]? = some u) : (w.alloc (.cells cs e)).cell? ⟨w.heap.size, off, none⟩ = some u := by simp [hu]
theorem free_made (w : World) (cs : Array Value) (e : TypeId) (off : Nat) : (w.alloc (.cells cs e)).frozen? ⟨w.heap.size, off, none⟩ = false := by simp
theorem size_made (w : World) (cs : Array Value) (e : TypeId) : (w.alloc (.cells cs e)).heap.size = w.heap.size + 1 := by simp
set_option maxRecDepth 100000 in
/-- the table, new -/
theorem DT.made {B nm : Nat} {xs ys : Tr} {k : Co} {w : World} {ga0 ga1 ga2 gb0 gb1 gb2 gt ca0 ca1 ca2 cb0 cb1 cb2 ck0 ck1 ck2 : Nat} {k0 k1 k2 : Addr}
    (a0 : w.ownsRow B 3 1 (.slice (some ⟨ga0, 0, none⟩) xs.length ca0) xs.length (ints (Tr.lab xs))) (a1 : w.ownsRow B 3 1 (.slice (some ⟨ga1, 0, none⟩) xs.length ca1) xs.length (ints (Zs.up (Tr.lfs xs)))) (a2 : w.ownsRow B 3 1 (.slice (some ⟨ga2, 0, none⟩) (Tr.krs xs).length ca2) (Tr.krs xs).length (ints (Zs.up (Tr.krs xs))))
    (b0 : w.ownsRow B 3 1 (.slice (some ⟨gb0, 0, none⟩) ys.length cb0) ys.length (ints (Tr.lab ys))) (b1 : w.ownsRow B 3 1 (.slice (some ⟨gb1, 0, none⟩) ys.length cb1) ys.length (ints (Zs.up (Tr.lfs ys)))) (b2 : w.ownsRow B 3 1 (.slice (some ⟨gb2, 0, none⟩) (Tr.krs ys).length cb2) (Tr.krs ys).length (ints (Zs.up (Tr.krs ys))))
    (hnm : nm = xs.length * ys.length) (t : w.ownsRow B 3 1 (.slice (some ⟨gt, 0, none⟩) nm nm) nm (ints (List.replicate nm 0)))
    (hk : CoIn w B (some k0) (some k1) (some k2) 6 6 36 k)
    (na : ga0 ≠ gt ∧ ga1 ≠ gt ∧ ga2 ≠ gt ∧ gb0 ≠ gt ∧ gb1 ≠ gt ∧ gb2 ≠ gt) (nl : ga0 < w.heap.size ∧ ga1 < w.heap.size ∧ ga2 < w.heap.size ∧ gb0 < w.heap.size ∧ gb1 < w.heap.size ∧ gb2 < w.heap.size) (ht : B ≤ gt ∧ gt < w.heap.size) :
    DT B ⟨w.heap.size, gt, ⟨ga0, 0, none⟩, ⟨ga1, 0, none⟩, ⟨ga2, 0, none⟩, ⟨gb0, 0, none⟩, ⟨gb1, 0, none⟩, ⟨gb2, 0, none⟩, k0, k1, k2, ca0, ca1, ca2, cb0, cb1, cb2, ck0, ck1, ck2⟩ xs ys k (fun _ _ => 0) (List.replicate nm 0)
      (w.alloc (.cells (dtCells Try.zeroCells92 (.slice (some ⟨ga0, 0, none⟩) xs.length ca0) (.slice (some ⟨ga1, 0, none⟩) xs.length ca1) (.slice (some ⟨ga2, 0, none⟩) (Tr.krs xs).length ca2) (.slice (some ⟨gb0, 0, none⟩) ys.length cb0) (.slice (some ⟨gb1, 0, none⟩) ys.length cb1) (.slice (some ⟨gb2, 0, none⟩) (Tr.krs ys).length cb2)
        (.slice (some k0) 6 ck0) (.slice (some k1) 6 ck1) (.slice (some k2) 36 ck2) (.slice (some ⟨gt, 0, none⟩) nm nm)) 92)) := by
  subst hnm
  obtain ⟨_, e0, q0⟩ := hk.1.2.1 (by omega)
  injection e0 with e0; subst e0
  obtain ⟨_, e1, q1⟩ := hk.2.1.2.1 (by omega)
  injection e1 with e1; subst e1
  obtain ⟨_, e2, q2⟩ := hk.2.2.2.1 (by omega)
  injection e2 with e2; subst e2
  exact {
    gB := by show B ≤ w.heap.size; omega
    gl := by show w.heap.size < _; rw [size_made]; omega
    gg := by show gt ≠ w.heap.size; omega
    fz := free_made _ _ _
    h0 := cell_made _ _ _ 0 _ (by rw [dt_cells]; rfl), h1 := cell_made _ _ _ 1 _ (by rw [dt_cells]; rfl), h2 := cell_made _ _ _ 2 _ (by rw [dt_cells]; rfl), h3 := cell_made _ _ _ 3 _ (by rw [dt_cells]; rfl), h4 := cell_made _ _ _ 4 _ (by rw [dt_cells]; rfl), h5 := cell_made _ _ _ 5 _ (by rw [dt_cells]; rfl), h6 := cell_made _ _ _ 6 _ (by rw [dt_cells]; rfl), h7 := cell_made _ _ _ 7 _ (by rw [dt_cells]; rfl), h8 := cell_made _ _ _ 8 _ (by rw [dt_cells]; rfl), h9 := cell_made _ _ _ 9 _ (by rw [dt_cells]; rfl)
    fr := fun x y hx hy => cell_made _ _ _ _ _ (dtCells_zero _ _ _ _ _ _ _ _ _ _ x y hx hy)
    row := t.alloc _
    ra0 := RowOff.of_own a0 nl.1 na.1, ra1 := RowOff.of_own a1 nl.2.1 na.2.1, ra2 := RowOff.of_own a2 nl.2.2.1 na.2.2.1
    rb0 := RowOff.of_own b0 nl.2.2.2.1 na.2.2.2.1, rb1 := RowOff.of_own b1 nl.2.2.2.2.1 na.2.2.2.2.1, rb2 := RowOff.of_own b2 nl.2.2.2.2.2 na.2.2.2.2.2
    rk0 := RowOff.of_in hk.1 q0 ht.1 ht.2, rk1 := RowOff.of_in hk.2.1 q1 ht.1 ht.2, rk2 := RowOff.of_in hk.2.2 q2 ht.1 ht.2 }

end Go.Proofs.Ytgkkeejhfofcaaa

/- The last pair of key roots. -/
namespace Go.Proofs.Ytgkkeejhfofcaaa
open Go.RowKit
set_option linter.unusedVariables false

theorem Tr.kr_end {xs : Tr} (h : Tr.ok xs = true) {a : Nat} (ha : a + 1 = (Tr.krs xs).length) : Tr.kr xs a = xs.length - 1 := by
  obtain ⟨r, hr⟩ := Tr.krs_last h
  unfold Tr.kr
  rw [hr] at ha ⊢
  rw [List.length_append, List.length_singleton] at ha
  rw [List.getD_eq_getElem?_getD, List.getElem?_append_right (by omega), show a - r.length = 0 by omega]
  rfl
/-- the forests behind the last pair of key roots -/
theorem fill_last {xs ys : Tr} {k : Co} {kk ll y : Nat} {F : Nat → Nat → Int} {T0 T : List Int} (hx : Tr.ok xs = true) (hy : Tr.ok ys = true) (hk : kk + 1 = (Tr.krs xs).length) (hl : ll + 1 = (Tr.krs ys).length)
    (h : Fill xs ys k (Tr.kr xs kk) (Tr.kr ys ll) (Tr.kr xs kk + 1) y F T0 T) : ∀ a b, a ≤ xs.length → b ≤ ys.length → F a b = RR xs ys k 0 a 0 b := by
  intro a b ha hb
  have n1 := (Tr.len24 hx).1
  have n2 := (Tr.len24 hy).1
  have e1 := Tr.kr_end hx hk
  have e2 := Tr.kr_end hy hl
  have f := h.f a b
  rw [e1, e2, Tr.la_last hx, Tr.la_last hy] at f
  exact f (Nat.zero_le _) (by omega) (Nat.zero_le _) (by omega) (.inl (by omega))

end Go.Proofs.Ytgkkeejhfofcaaa
