/- Texts of one claim laid into one file, in build order: Rtb. -/
import Derived.Test.YtgkkeejhfofcaaaHd29
/- Contracts (Rtb). -/
namespace Go.Proofs.Ytgkkeejhfofcaaa
open Go.RowKit
set_option linter.unusedVariables false

/-- where a table of ranges stands, and what it reads -/
structure D10 where
  g : Nat
  gm : Nat
  a0 : Addr
  a1 : Addr
  b0 : Addr
  b1 : Addr
  k0 : Addr
  k1 : Addr
  k2 : Addr
  ca0 : Nat
  ca1 : Nat
  cb0 : Nat
  cb1 : Nat
  ck0 : Nat
  ck1 : Nat
  ck2 : Nat
structure PT (D : D10) (xs ys : Tr) (k : Co) (w : World) : Prop where
  sd : SD D.g D.a0 D.a1 D.b0 D.b1 D.k0 D.k1 D.k2 D.ca0 D.ca1 D.cb0 D.cb1 D.ck0 D.ck1 D.ck2 xs ys k w
  h9 : w.cell? ⟨D.g, 9, none⟩ = some (.map (some D.gm))
  mm : Memo xs ys k D.gm w
section
variable {D : D10} {xs ys : Tr} {k : Co} {w w' w0 : World}
theorem grownB_below (hb : Below w.heap.size w w') (row : Option Nat) : w.grownBy w' row := ⟨hb.os, hb.tape, hb.output, hb.size, fun i hi _ => hb.block i hi⟩
theorem PT.step (h : PT D xs ys k w) (hg : w.grownBy w' (some D.gm)) (hm : Memo xs ys k D.gm w') : PT D xs ys k w' := by
  have n : ∀ {p : Addr} {v : Value}, w.cell? p = some v → some p.block ≠ some D.gm := fun hc e => h.mm.apart hc (Option.some.inj e)
  exact ⟨⟨hg.cell h.sd.h0 (n h.sd.h0), hg.cell h.sd.h1 (n h.sd.h1), hg.cell h.sd.h3 (n h.sd.h3), hg.cell h.sd.h4 (n h.sd.h4), hg.cell h.sd.h6 (n h.sd.h6), hg.cell h.sd.h7 (n h.sd.h7), hg.cell h.sd.h8 (n h.sd.h8), fun x hx => hg.cell (h.sd.ra0 x hx) (n (h.sd.ra0 x hx)), fun x hx => hg.cell (h.sd.ra1 x hx) (n (h.sd.ra1 x hx)), fun x hx => hg.cell (h.sd.rb0 x hx) (n (h.sd.rb0 x hx)), fun x hx => hg.cell (h.sd.rb1 x hx) (n (h.sd.rb1 x hx)), fun x hx => hg.cell (h.sd.rk0 x hx) (n (h.sd.rk0 x hx)), fun x hx => hg.cell (h.sd.rk1 x hx) (n (h.sd.rk1 x hx)), fun x hx => hg.cell (h.sd.rk2 x hx) (n (h.sd.rk2 x hx))⟩, hg.cell h.h9 (n h.h9), hm⟩
theorem PT.below (h : PT D xs ys k w) (hb : Below w.heap.size w w') : PT D xs ys k w' := h.step (grownB_below hb _) (h.mm.below hb)
theorem PT.drawn (h : PT D xs ys k w) (hd : Drawn w w') : PT D xs ys k w' := h.below hd.toBelow
/-- the table in some world that the call has turned -/
def PG (D : D10) (xs ys : Tr) (k : Co) (w0 w : World) : Prop := PT D xs ys k w ∧ w0.grownBy w (some D.gm)
theorem PG.next (h : PG D xs ys k w0 w) (h' : PG D xs ys k w w') : PG D xs ys k w0 w' := ⟨h'.1, h.2.trans h'.2⟩
theorem PG.below (h : PG D xs ys k w0 w) (hb : Below w.heap.size w w') : PG D xs ys k w0 w' := ⟨h.1.below hb, h.2.trans (grownB_below hb _)⟩
theorem PG.drawn (h : PG D xs ys k w0 w) (hd : Drawn w w') : PG D xs ys k w0 w' := h.below hd.toBelow
theorem PG.refl (h : PT D xs ys k w) : PG D xs ys k w w := ⟨h, World.grownBy.refl _ _⟩
/-- four ints, kept while the table's map turns -/
theorem Bx4.pg {b : Nat} {i j p q : Int} (h : Bx4 w b i j p q) (hp : PT D xs ys k w) (h' : PG D xs ys k w w') : Bx4 w' b i j p q := by
  have n : ∀ {p : Addr} {v : Value}, w.cell? p = some v → some p.block ≠ some D.gm := fun hc e => hp.mm.apart hc (Option.some.inj e)
  exact ⟨h'.2.cell h.1 (n h.1), h'.2.cell h.2.1 (n h.2.1), h'.2.cell h.2.2.1 (n h.2.2.1), h'.2.cell h.2.2.2 (n h.2.2.2)⟩
end

end Go.Proofs.Ytgkkeejhfofcaaa
