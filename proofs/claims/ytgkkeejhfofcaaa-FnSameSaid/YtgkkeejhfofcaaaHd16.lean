/- Texts of one claim laid into one file, in build order: Dtb, F8, Fce, CostOkS, LeafI, KeyI. -/
import Derived.Test.YtgkkeejhfofcaaaHd1
import Derived.Test.YtgkkeejhfofcaaaHd13
import Derived.Test.YtgkkeejhfofcaaaHd14
import Derived.Test.YtgkkeejhfofcaaaHd4
import Derived.Test.YtgkkeejhfofcaaaHd7
import Derived.Test.YtgkkeejhfofcaaaHd9
import Derived.Outline
/- Contracts (Dtb). -/
namespace Go.Proofs.Ytgkkeejhfofcaaa
open Go.RowKit
set_option linter.unusedVariables false

/-! The program's table of distances: one block of 635 cells, the trees' row, the rows that it reads. -/
/-- a row of ints that no store of the table reaches -/
structure RowOff (w : World) (g gt : Nat) (ad : Addr) (n : Nat) (zs : List Int) : Prop where
  len : zs.length = n
  lt : ad.block < w.heap.size
  ng : ad.block ≠ g
  nt : ad.block ≠ gt
  at_ : ∀ k, k < n → w.cell? (ad.add k) = some (.int .i64 (Zs.at zs k))
/-- where the table's parts lie -/
structure DtD where
  g : Nat
  gt : Nat
  a0 : Addr
  a1 : Addr
  a2 : Addr
  b0 : Addr
  b1 : Addr
  b2 : Addr
  k0 : Addr
  k1 : Addr
  k2 : Addr
  ca0 : Nat
  ca1 : Nat
  ca2 : Nat
  cb0 : Nat
  cb1 : Nat
  cb2 : Nat
  ck0 : Nat
  ck1 : Nat
  ck2 : Nat
def updF (F : Nat → Nat → Int) (x y : Nat) (v : Int) : Nat → Nat → Int := fun a b => if a = x ∧ b = y then v else F a b
structure DT (B : Nat) (D : DtD) (xs ys : Tr) (k : Co) (F : Nat → Nat → Int) (T : List Int) (w : World) : Prop where
  gB : B ≤ D.g
  gl : D.g < w.heap.size
  gg : D.gt ≠ D.g
  fz : ∀ off, w.frozen? ⟨D.g, off, none⟩ = false
  h0 : w.cell? ⟨D.g, 0, none⟩ = some (.slice (some D.a0) xs.length D.ca0)
  h1 : w.cell? ⟨D.g, 1, none⟩ = some (.slice (some D.a1) xs.length D.ca1)
  h2 : w.cell? ⟨D.g, 2, none⟩ = some (.slice (some D.a2) (Tr.krs xs).length D.ca2)
  h3 : w.cell? ⟨D.g, 3, none⟩ = some (.slice (some D.b0) ys.length D.cb0)
  h4 : w.cell? ⟨D.g, 4, none⟩ = some (.slice (some D.b1) ys.length D.cb1)
  h5 : w.cell? ⟨D.g, 5, none⟩ = some (.slice (some D.b2) (Tr.krs ys).length D.cb2)
  h6 : w.cell? ⟨D.g, 6, none⟩ = some (.slice (some D.k0) 6 D.ck0)
  h7 : w.cell? ⟨D.g, 7, none⟩ = some (.slice (some D.k1) 6 D.ck1)
  h8 : w.cell? ⟨D.g, 8, none⟩ = some (.slice (some D.k2) 36 D.ck2)
  h9 : w.cell? ⟨D.g, 9, none⟩ = some (.slice (some ⟨D.gt, 0, none⟩) (xs.length * ys.length) (xs.length * ys.length))
  fr : ∀ x y, x < 25 → y < 25 → w.cell? ⟨D.g, 10 + x * 25 + y, none⟩ = some (.int .i64 (F x y))
  row : w.ownsRow B 3 1 (.slice (some ⟨D.gt, 0, none⟩) (xs.length * ys.length) (xs.length * ys.length)) (xs.length * ys.length) (ints T)
  ra0 : RowOff w D.g D.gt D.a0 xs.length (Tr.lab xs)
  ra1 : RowOff w D.g D.gt D.a1 xs.length (Zs.up (Tr.lfs xs))
  ra2 : RowOff w D.g D.gt D.a2 (Tr.krs xs).length (Zs.up (Tr.krs xs))
  rb0 : RowOff w D.g D.gt D.b0 ys.length (Tr.lab ys)
  rb1 : RowOff w D.g D.gt D.b1 ys.length (Zs.up (Tr.lfs ys))
  rb2 : RowOff w D.g D.gt D.b2 (Tr.krs ys).length (Zs.up (Tr.krs ys))
  rk0 : RowOff w D.g D.gt D.k0 6 k.d
  rk1 : RowOff w D.g D.gt D.k1 6 k.i
  rk2 : RowOff w D.g D.gt D.k2 36 k.r
theorem RowOff.keep {w w' : World} {g gt n : Nat} {ad : Addr} {zs : List Int} (h : RowOff w g gt ad n zs) (hs : w.heap.size ≤ w'.heap.size) (hk : ∀ p : Addr, p.block < w.heap.size → p.block ≠ g → p.block ≠ gt → w'.cell? p = w.cell? p) : RowOff w' g gt ad n zs :=
  ⟨h.len, Nat.lt_of_lt_of_le h.lt hs, h.ng, h.nt, fun k hk' => by rw [hk _ (by rw [block_of_add]; exact h.lt) (by rw [block_of_add]; exact h.ng) (by rw [block_of_add]; exact h.nt)]; exact h.at_ k hk'⟩
section
variable {B : Nat} {D : DtD} {xs ys : Tr} {k : Co} {F : Nat → Nat → Int} {T : List Int} {w w' : World}
theorem DT.drawn (h : DT B D xs ys k F T w) (hd : Drawn w w') : DT B D xs ys k F T w' := by obtain ⟨m, rfl⟩ := hd; exact ⟨h.gB, h.gl, h.gg, h.fz, h.h0, h.h1, h.h2, h.h3, h.h4, h.h5, h.h6, h.h7, h.h8, h.h9, h.fr, h.row, ⟨h.ra0.1, h.ra0.2, h.ra0.3, h.ra0.4, h.ra0.5⟩, ⟨h.ra1.1, h.ra1.2, h.ra1.3, h.ra1.4, h.ra1.5⟩, ⟨h.ra2.1, h.ra2.2, h.ra2.3, h.ra2.4, h.ra2.5⟩, ⟨h.rb0.1, h.rb0.2, h.rb0.3, h.rb0.4, h.rb0.5⟩, ⟨h.rb1.1, h.rb1.2, h.rb1.3, h.rb1.4, h.rb1.5⟩, ⟨h.rb2.1, h.rb2.2, h.rb2.3, h.rb2.4, h.rb2.5⟩, ⟨h.rk0.1, h.rk0.2, h.rk0.3, h.rk0.4, h.rk0.5⟩, ⟨h.rk1.1, h.rk1.2, h.rk1.3, h.rk1.4, h.rk1.5⟩, ⟨h.rk2.1, h.rk2.2, h.rk2.3, h.rk2.4, h.rk2.5⟩⟩
theorem DT.tlen (h : DT B D xs ys k F T w) : T.length = xs.length * ys.length := by have := h.row.1; rw [ints_length] at this; omega
theorem DT.tB (h : DT B D xs ys k F T w) : B ≤ D.gt ∧ D.gt < w.heap.size := h.row.lt D.gt rfl
theorem DT.setF (h : DT B D xs ys k F T w) {x y : Nat} (hx : x < 25) (hy : y < 25) (v : Int) : DT B D xs ys k (updF F x y v) T (w.setCell ⟨D.g, 10 + x * 25 + y, none⟩ (.int .i64 v)) := by
  have hsz : (w.setCell ⟨D.g, 10 + x * 25 + y, none⟩ (.int .i64 v)).heap.size = w.heap.size := by simp
  have ho : ∀ p : Addr, p.block < w.heap.size → p.block ≠ D.g → p.block ≠ D.gt → (w.setCell ⟨D.g, 10 + x * 25 + y, none⟩ (.int .i64 v)).cell? p = w.cell? p := fun p _ hp _ => World.cell?_setCell_other _ _ _ _ (fun e => hp (by rw [← e]))
  have hl : ∀ o, o < 10 → (w.setCell ⟨D.g, 10 + x * 25 + y, none⟩ (.int .i64 v)).cell? ⟨D.g, o, none⟩ = w.cell? ⟨D.g, o, none⟩ := fun o ho => World.cell?_setCell_other _ _ _ _ (fun e => by injection e with e1 e2; omega)
  have hle : w.heap.size ≤ (w.setCell ⟨D.g, 10 + x * 25 + y, none⟩ (.int .i64 v)).heap.size := by omega
  have r {ad : Addr} {n : Nat} {zs : List Int} (q : RowOff w D.g D.gt ad n zs) := q.keep hle ho
  exact {
    gB := h.gB, gl := by rw [hsz]; exact h.gl, gg := h.gg
    fz := fun off => by rw [World.frozen?_setCell]; exact h.fz off
    h0 := (hl _ (by omega)).trans h.h0, h1 := (hl _ (by omega)).trans h.h1, h2 := (hl _ (by omega)).trans h.h2
    h3 := (hl _ (by omega)).trans h.h3, h4 := (hl _ (by omega)).trans h.h4, h5 := (hl _ (by omega)).trans h.h5
    h6 := (hl _ (by omega)).trans h.h6, h7 := (hl _ (by omega)).trans h.h7, h8 := (hl _ (by omega)).trans h.h8
    h9 := (hl _ (by omega)).trans h.h9
    fr := fun a b ha hb => by
      unfold updF
      by_cases e : a = x ∧ b = y
      · rw [if_pos e, e.1, e.2]
        exact World.cell?_setCell_same' _ _ _ (by rw [h.fr x y hx hy]; rfl)
      · rw [if_neg e, World.cell?_setCell_other _ _ _ _ (fun e' => by injection e' with e1 e2; omega)]
        exact h.fr a b ha hb
    row := h.row.kept (Kit.grown_set w D.g _ _) (.inr fun e => h.gg (by injection e))
    ra0 := r h.ra0, ra1 := r h.ra1, ra2 := r h.ra2, rb0 := r h.rb0, rb1 := r h.rb1, rb2 := r h.rb2, rk0 := r h.rk0, rk1 := r h.rk1, rk2 := r h.rk2 }
theorem DT.setT (h : DT B D xs ys k F T w) (u : Nat) (v : Int) : DT B D xs ys k F (T.set u v) (w.setCell ⟨D.gt, u, none⟩ (.int .i64 v)) := by
  have hsz : (w.setCell ⟨D.gt, u, none⟩ (.int .i64 v)).heap.size = w.heap.size := by simp
  have ho : ∀ p : Addr, p.block < w.heap.size → p.block ≠ D.g → p.block ≠ D.gt → (w.setCell ⟨D.gt, u, none⟩ (.int .i64 v)).cell? p = w.cell? p := fun p _ _ hp => World.cell?_setCell_other _ _ _ _ (fun e => hp (by rw [← e]))
  have hl : ∀ o, (w.setCell ⟨D.gt, u, none⟩ (.int .i64 v)).cell? ⟨D.g, o, none⟩ = w.cell? ⟨D.g, o, none⟩ := fun o => World.cell?_setCell_other _ _ _ _ (fun e => by injection e with e1 e2; exact h.gg e1)
  have hle : w.heap.size ≤ (w.setCell ⟨D.gt, u, none⟩ (.int .i64 v)).heap.size := by omega
  have r {ad : Addr} {n : Nat} {zs : List Int} (q : RowOff w D.g D.gt ad n zs) := q.keep hle ho
  exact {
    gB := h.gB, gl := by rw [hsz]; exact h.gl, gg := h.gg
    fz := fun off => by rw [World.frozen?_setCell]; exact h.fz off
    h0 := (hl _).trans h.h0, h1 := (hl _).trans h.h1, h2 := (hl _).trans h.h2, h3 := (hl _).trans h.h3, h4 := (hl _).trans h.h4, h5 := (hl _).trans h.h5
    h6 := (hl _).trans h.h6, h7 := (hl _).trans h.h7, h8 := (hl _).trans h.h8, h9 := (hl _).trans h.h9
    fr := fun a b ha hb => (hl _).trans (h.fr a b ha hb)
    row := by have := (h.row.stored u (.int .i64 v)).1; rw [ints_set] at this; exact this
    ra0 := r h.ra0, ra1 := r h.ra1, ra2 := r h.ra2, rb0 := r h.rb0, rb1 := r h.rb1, rb2 := r h.rb2, rk0 := r h.rk0, rk1 := r h.rk1, rk2 := r h.rk2 }
end

end Go.Proofs.Ytgkkeejhfofcaaa

/- Contracts (F8). -/
namespace Go.Proofs.Ytgkkeejhfofcaaa
open Go.RowKit
set_option linter.unusedVariables false

/-! The model's table of forests: one row from the key roots' first leaves on. -/
def ix (p q W a b : Nat) : Nat := (a - p) * W + (b - q)
/-- the row f and the trees, beside what stood ahead of f -/
structure F8 (B gt hf nf nm : Nat) (w0 w1 : World) (f T : List Int) (wr : World) : Prop where
  kb : ∀ p : Addr, p.block < hf → p.block ≠ gt → wr.cell? p = w1.cell? p
  rf : wr.ownsRow hf 3 1 (.slice (some ⟨hf, 0, none⟩) nf nf) nf (ints f)
  rt : wr.ownsRow B 3 1 (.slice (some ⟨gt, 0, none⟩) nm nm) nm (ints T)
  bl : Below B w0 wr
section
variable {B gt hf nf nm : Nat} {w0 w1 wr w' : World} {f T : List Int}
theorem F8.drawn (h : F8 B gt hf nf nm w0 w1 f T wr) (hd : Drawn wr w') : F8 B gt hf nf nm w0 w1 f T w' :=
  ⟨fun p h1 h2 => (hd.cell p).trans (h.kb p h1 h2), own_drawn h.rf hd, own_drawn h.rt hd, Drawn.below h.bl hd⟩
theorem F8.tlen (h : F8 B gt hf nf nm w0 w1 f T wr) : T.length = nm := by have := h.rt.1; rw [ints_length] at this; omega
theorem F8.row {ad : Addr} {n : Nat} {zs : List Int} (h : F8 B gt hf nf nm w0 w1 f T wr) (hr : RowOff w1 gt gt ad n zs) (hl : ad.block < hf) {k : Nat} (hk : k < n) : wr.cell? (ad.add k) = some (.int .i64 (Zs.at zs k)) := by
  rw [h.kb _ (by rw [block_of_add]; exact hl) (by rw [block_of_add]; exact hr.ng)]
  exact hr.at_ k hk
end

end Go.Proofs.Ytgkkeejhfofcaaa

/- The facts of one cell of the model's table of forests. -/
namespace Go.Proofs.Ytgkkeejhfofcaaa
open Go.RowKit
set_option linter.unusedVariables false

theorem RowOff.made {w : World} {gt n : Nat} {ad : Addr} {zs : List Int} {o : Obj} (h : RowOff w gt gt ad n zs) : RowOff (w.alloc o) gt gt ad n zs :=
  ⟨h.len, by have := h.lt; simp; omega, h.ng, h.nt, fun k hk => by rw [World.cell?_alloc_lt w o _ (by rw [block_of_add]; exact h.lt)]; exact h.at_ k hk⟩
section
variable {B gt hf nf nm : Nat} {ax ay ala alb k0 k1 k2 : Addr} {cx cy e0 e1 e2 : Nat} {xs ys : Tr} {k : Co} {T T1 f : List Int} {i j x y p q W V : Nat} {w wb wr : World}
end

end Go.Proofs.Ytgkkeejhfofcaaa

/- Contracts (CostOkS). -/
namespace Go.Proofs.Ytgkkeejhfofcaaa
open Go.RowKit
set_option linter.unusedVariables false

theorem Co.diag_not {k : Co} {a : Nat} (ha : a < 6) (h : Zs.at k.r (a * 6 + a) ≠ 0) : Co.diag k = false := by
  rw [Bool.eq_false_iff]
  intro e
  simp only [Co.diag, List.all_eq_true, List.mem_range, decide_eq_true_eq] at e
  exact h (e a ha)
def Co.diagTo (k : Co) (a : Nat) : Prop := ∀ b, b < a → Zs.at k.r (b * 6 + b) = 0
theorem Co.diag_all {k : Co} (h : Co.diagTo k 6) : Co.diag k = true := by
  simp only [Co.diag, List.all_eq_true, List.mem_range, decide_eq_true_eq]
  exact h
end Go.Proofs.Ytgkkeejhfofcaaa

/- Contracts (LeafI). -/
namespace Go.Proofs.Ytgkkeejhfofcaaa
open Go.RowKit
set_option linter.unusedVariables false

theorem Tr.lfs_get {xs : Tr} {k : Nat} (hk : k < (Tr.post xs).length) : ∃ i, i < xs.length ∧ Zs.at (Zs.up (Tr.post xs)) k = (i : Int) ∧ Zs.at (Zs.up (Tr.lfs xs)) k = (i : Int) - Tr.d xs i ∧ 0 ≤ Tr.d xs i ∧ Tr.d xs i ≤ 12 := by
  obtain ⟨i, h1, h2, h3, hok, hl⟩ := Tr.post_at hk
  have hi : i < xs.length := by omega
  rw [List.getElem?_eq_getElem hk] at h2
  injection h2 with h2
  have hd := Tr.dn_eq hok hi
  have hd2 := Tr.dn_le hok hi
  refine ⟨i, hi, by rw [Zs.up_at _ _ hk, h2], ?_, (Tr.ok_at hok hi).2.1⟩
  rw [Zs.up_at _ _ (by rw [Tr.lfs_length]; exact hk)]
  simp only [Tr.lfs, List.getElem_map, h2]
  omega
set_option maxHeartbeats 1600000 in
set_option maxRecDepth 100000 in
theorem implLeftLeaf_any (A : Option Addr) (n c : Nat) (xs : Tr) (w : World) (h : NdIn w w.heap.size A n xs) (hn : n ≤ 1048576) (hnc : n ≤ c) :
    Calls Try.prog 168 #[.slice A n c] w (OwnInts 3 (Zs.up (Tr.lfs xs)) w) := by
  have H := Lib.hid h
  clear h
  have HL := Lib.hid H.out.1
  have hml := Tr.post_len_le xs
  rw [H.out.1] at hml
  obtain ⟨m, hm⟩ : ∃ m, m = (Tr.post xs).length := ⟨_, rfl⟩
  have HM := Lib.hid hm
  have HRL := Lib.hid (show (Zs.up (Tr.post xs)).length = m by rw [Zs.up_length, hm])
  have HR := Lib.hid (fun k (hk : k < m) => Tr.lfs_get (xs := xs) (k := k) (by rw [← hm]; exact hk))
  obtain ⟨F, hF⟩ : ∃ F, F = Zs.up (Tr.lfs xs) := ⟨_, rfl⟩
  have HFl := Lib.hid (show F.length = m by rw [hF, Zs.up_length, Tr.lfs_length, hm])
  have HF := Lib.hid hF
  rw [← hm] at hml
  clear hm hF
  obtain ⟨i0, hi, hz0, hz1, hz2⟩ := info_parts info_intZ
  have Hi := Lib.hid hi
  clear hi
  go_enter Try.func168, Try.ntmps168
  go_wp2_with fail
  refine (implPostOrder_any _ _ _ xs _ H.out hn hnc).mono ?_
  rintro e w1 ⟨A1, c1, rfl, ho, hb⟩
  have HB := Lib.hid hb
  have I1 := Lib.hid (IntIn.of_own ho)
  have H1 := Lib.hid (H.out.to_below hb)
  clear ho hb
  rw [HRL.out] at I1 ⊢
  have HZ0 := Lib.hid (show List.replicate m (0 : Int) = Zs.part F 0 by rw [Zs.part_zero, HFl.out])
  go_wp2_with (at_make; go_loud (refine wpList_make_full _ rfl _ _ 29 rfl w1.heap.size 3 i0 (.int .i64 0) 1 Try.underlying29 Hi.out hz0 hz1 _ _ _ _ m rfl rfl rfl rfl (by rw [hz2]; omega) (by unfold maxLen; omega) (Nat.le_refl _) ?_); intro w2 hown2 hgrow2)
  have hb2 : Below w1.heap.size w1 w2 := (Below.refl _ w1).grown hgrow2 (Nat.le_refl _) (fun _ h => by cases h)
  rw [made_zeros 0 m, HZ0.out] at hown2
  have HO2 := Lib.hid hown2
  have HB2 := Lib.hid hb2
  clear hown2 hgrow2 hb2
  go_wp2
  go_loopw [14] (fun kv wr => ∃ k : Nat, k ≤ m ∧ kv = .int .i64 k ∧ wr.ownsRow w1.heap.size 3 1 (.slice (some ⟨w1.heap.size, 0, none⟩) m m) m (ints (Zs.part F k)) ∧ Below w1.heap.size w1 wr) (fun k _ => m - (intOf k).toNat)
  case atStart => exact ⟨0, Nat.zero_le _, rfl, HO2.out, HB2.out⟩
  case round =>
    clear HO2 HB2
    obtain ⟨k, hk, rfl, hown, hB⟩ := hrel
    have Ho := Lib.hid hown
    have HB2 := Lib.hid hB
    clear hown hB
    by_cases hlt : k < m
    · obtain ⟨i, r1, r2, r3, r4, r5⟩ := HR.out k hlt
      rw [← HF.out] at r3
      rw [HL.out] at r1
      obtain ⟨ad, rfl, _, c1⟩ := (I1.out.below HB2.out).at_ hlt
      rw [r2] at c1
      obtain ⟨ad2, rfl, _, l1, d1⟩ := (H1.out.below HB2.out).at_ r1
      have c0 := own_int Ho.out (k := k) (by rw [Zs.part_length F k (by rw [HFl.out]; exact hk), HFl.out]; exact hlt)
      have f0 := Ho.out.frozenAt k
      have b0 : (0 : Int) ≤ (i : Int) := by omega
      have b1 : (i : Int) < (n : Int) := by omega
      have b2 : (0 : Int) ≤ (k : Int) := by omega
      have b3 : (k : Int) < (m : Int) := by omega
      have a1 : IntKind.i64.wrap ((i : Int) - Tr.d xs i) = (i : Int) - Tr.d xs i := Kit.w64 (by omega) (by omega)
      have R3 := Lib.hid r3
      clear r2 r3 r4 r5 l1
      go_wp2
      go_roundw
      case rel =>
        refine ⟨k + 1, by omega, by go_num, ?_, HB2.out.setCell (Nat.le_refl _) _⟩
        have := (Ho.out.stored k (.int .i64 ((i : Int) - Tr.d xs i))).1
        rw [ints_set, ← R3.out, Zs.part_set F k (by rw [HFl.out]; exact hlt), R3.out] at this
        exact this
      case measure => simp [intOf]; omega
    · obtain rfl : k = m := by omega
      have Hf := Lib.hid (show Zs.part F k = F by rw [← HFl.out]; exact Zs.part_all F)
      rw [Hf.out] at Ho
      go_wp2
      go_ret
      exact ⟨_, _, by rw [← HF.out, HFl.out]; rfl, by rw [← HF.out, HFl.out]; exact own_base Ho.out HB.out.size, HB.out.trans (HB2.out.mono HB.out.size)⟩

end Go.Proofs.Ytgkkeejhfofcaaa

/- Contracts (KeyI). -/
namespace Go.Proofs.Ytgkkeejhfofcaaa
open Go.RowKit
set_option linter.unusedVariables false

theorem IntIn.cut {w : World} {B n : Nat} {ad : Addr} {zs : List Int} (h : IntIn w B (some ad) n zs) {j m : Nat} (hjm : j + m = n) : IntIn w B (some (ad.add j)) m (zs.drop j) := by
  refine ⟨by have := h.1; simp; omega, fun hm => ⟨_, rfl, ?_⟩, fun ad' e k hk => ?_⟩
  · rw [block_of_add]
    obtain ⟨ad', e, hb⟩ := h.2.1 (by omega)
    obtain rfl : ad = ad' := by injection e
    exact hb
  · obtain rfl : ad.add j = ad' := by injection e
    have hc := h.2.2 ad rfl (j + k) (by omega)
    rw [add_of_add]
    simpa [Zs.at, List.getD_eq_getElem?_getD] using hc
theorem IntIn.none {w : World} {B : Nat} {A : Option Addr} : IntIn w B A 0 [] := ⟨rfl, fun h => absurd h (Nat.lt_irrefl 0), fun ad _ k hk => absurd hk (Nat.not_lt_zero k)⟩
theorem Zs.last_in (F : List Nat) (k : Nat) (hk : k < F.length) : Zs.lastTo F k F.length = !decide (Zs.at (Zs.up F) k ∈ (Zs.up F).drop (k + 1)) := by
  rw [Bool.eq_iff_iff]
  simp only [Zs.lastTo, List.all_eq_true, List.mem_range, Bool.or_eq_true, decide_eq_true_eq, Bool.not_eq_true', decide_eq_false_iff_not]
  rw [Zs.up_at F k hk]
  have hgk : F.getD k 0 = F[k] := by simp [List.getD_eq_getElem?_getD, hk]
  constructor
  · intro h hm
    obtain ⟨j, hj, e⟩ := List.getElem_of_mem hm
    simp [Zs.up] at hj e
    have := h (k + 1 + j) (by omega)
    rw [hgk] at this
    simp [List.getD_eq_getElem?_getD, show k + 1 + j < F.length by omega] at this
    omega
  · intro h j hj
    by_cases q : j ≤ k
    · exact .inl q
    · refine .inr fun e => h ?_
      rw [hgk] at e
      have e2 : F.getD j 0 = F[j] := by simp [List.getD_eq_getElem?_getD, hj]
      rw [List.mem_iff_getElem]
      exact ⟨j - (k + 1), by simp [Zs.up]; omega, by simp [Zs.up, show k + 1 + (j - (k + 1)) = j by omega]; omega⟩
set_option maxHeartbeats 1600000 in
set_option maxRecDepth 100000 in
theorem implKeyRoots_any (A : Option Addr) (n c : Nat) (xs : Tr) (w : World) (h : NdIn w w.heap.size A n xs) (hn : n ≤ 1048576) (hnc : n ≤ c) :
    Calls Try.prog 169 #[.slice A n c] w (OwnInts 3 (Zs.up (Tr.krs xs)) w) := by
  have H := Lib.hid h
  clear h
  have hml := Tr.post_len_le xs
  rw [H.out.1, ← Tr.lfs_length] at hml
  obtain ⟨G, hG⟩ : ∃ G, G = Tr.lfs xs := ⟨_, rfl⟩
  have HS := Lib.hid (fun k => Tr.krTo_succ xs k)
  have HLe := Lib.hid (fun k => Tr.krTo_le xs k)
  have HK := Lib.hid (show Tr.krs xs = Tr.krTo xs G.length by rw [hG]; rfl)
  rw [← hG] at hml HS
  have HIN := Lib.hid (fun k hk => Zs.last_in G k hk)
  obtain ⟨m, hm⟩ : ∃ m, m = G.length := ⟨_, rfl⟩
  obtain ⟨F, hF⟩ : ∃ F, F = Zs.up G := ⟨_, rfl⟩
  have HFl := Lib.hid (show F.length = m by rw [hF, Zs.up_length, hm])
  have HF := Lib.hid (show Zs.up (Tr.lfs xs) = F by rw [hF, hG])
  rw [← hm] at hml HS HK HIN
  rw [← hF] at HIN
  clear hm hF hG
  obtain ⟨i0, hi, hz0, hz1, hz2⟩ := info_parts info_intZ
  have Hi := Lib.hid hi
  clear hi
  go_enter Try.func169, Try.ntmps169
  go_wp2_with fail
  refine (implLeftLeaf_any _ _ _ xs _ H.out hn hnc).mono ?_
  rintro e w1 ⟨A1, c1, rfl, ho, hb⟩
  have HB := Lib.hid hb
  rw [HF.out, HFl.out] at ho ⊢
  have I1 := Lib.hid (IntIn.of_own ho)
  have hmc := own_cap ho
  clear ho hb
  go_wp2
  go_loopw [11, 4] (fun kv ov wr => ∃ k : Nat, k ≤ m ∧ kv = .int .i64 k ∧ wr.ownsRow w1.heap.size 3 1 ov (Zs.up (Tr.krTo xs k)).length (ints (Zs.up (Tr.krTo xs k))) ∧ Below w1.heap.size w1 wr) (fun k _ _ => m - (intOf k).toNat)
  case atStart => exact ⟨0, Nat.zero_le _, rfl, own_nil, Below.refl _ _⟩
  case round =>
    obtain ⟨k, hk, rfl, hown, hB⟩ := hrel
    have Ho := Lib.hid hown
    have HB2 := Lib.hid hB
    clear hown hB
    have hsx := HB2.out.size
    by_cases hlt : k < m
    · have hin := HIN.out k hlt
      have hs := HS.out k
      rw [hin] at hs
      have hle := HLe.out k
      obtain ⟨ad, rfl, _, c0⟩ := (I1.out.below HB2.out).at_ hlt
      obtain ⟨x, hx⟩ : ∃ x, x = Zs.at F k := ⟨_, rfl⟩
      rw [← hx] at hs c0
      have b2 : (0 : Int) ≤ (k : Int) := by omega
      have b3 : (k : Int) < (m : Int) := by omega
      have b4 : (k : Int) + 1 ≤ (m : Int) := by omega
      have b5 : (m : Int) ≤ (c1 : Int) := by omega
      have b6 : (0 : Int) ≤ (k : Int) + 1 := by omega
      have b7 : ((k : Int) + 1).toNat = k + 1 := by omega
      have a1 : IntKind.i64.wrap ((k : Int) + 1) = (k : Int) + 1 := Kit.w64 (by omega) (by omega)
      have IC := Lib.hid (((I1.out.to_below HB2.out)).cut (j := k + 1) (m := m - (k + 1)) (by omega))
      have hmk : m - (k + 1) ≤ 1048576 := by omega
      clear hin hx
      cases hd : decide (x ∈ F.drop (k + 1)) with
      | true =>
        rw [hd] at hs
        have Hs := Lib.hid (hs.trans (if_neg (by decide)))
        have Hd := Lib.hid hd
        clear hs hd
        by_cases hc : c1 = k + 1
        · have I0 := Lib.hid (show IntIn wr wr.heap.size (some ad) 0 (F.drop (k + 1)) by
            rw [List.drop_eq_nil_of_le (by rw [HFl.out]; omega)]; exact IntIn.none)
          have hc2 : k + 1 = c1 := hc.symm
          clear hc hmk
          go_wp2_with fail
          refine (slContains_any _ _ _ (F.drop (k + 1)) x _ I0.out (Nat.zero_le _)).mono ?_
          rintro e w3 ⟨rfl, rfl⟩
          rw [Hd.out]
          go_wp2
          go_roundw
          case rel => exact ⟨k + 1, by omega, by go_num, by rw [Hs.out]; exact Ho.out, HB2.out⟩
          case measure => simp [intOf]; omega
        · go_wp2_with fail
          refine (slContains_any _ _ _ (F.drop (k + 1)) x _ IC.out hmk).mono ?_
          rintro e w3 ⟨rfl, rfl⟩
          rw [Hd.out]
          go_wp2
          go_roundw
          case rel => exact ⟨k + 1, by omega, by go_num, by rw [Hs.out]; exact Ho.out, HB2.out⟩
          case measure => simp [intOf]; omega
      | false =>
        rw [hd] at hs
        have Hs := Lib.hid (hs.trans (if_pos rfl))
        have Hd := Lib.hid hd
        clear hs hd
        by_cases hc : c1 = k + 1
        · have I0 := Lib.hid (show IntIn wr wr.heap.size (some ad) 0 (F.drop (k + 1)) by
            rw [List.drop_eq_nil_of_le (by rw [HFl.out]; omega)]; exact IntIn.none)
          have hc2 : k + 1 = c1 := hc.symm
          clear hc hmk
          go_wp2_with fail
          refine (slContains_any _ _ _ (F.drop (k + 1)) x _ I0.out (Nat.zero_le _)).mono ?_
          rintro e w3 ⟨rfl, rfl⟩
          rw [Hd.out]
          go_wp2_with (at_builtin; go_loud (refine append_int wr rfl _ _ 29 rfl w1.heap.size 3 i0 Try.underlying29 Hi.out hz0 hz1 hz2 u4 (Zs.up (Tr.krTo xs k)).length (Zs.up (Tr.krTo xs k)) rfl Ho.out rfl (k : Int) rfl (by rw [Zs.up_length]; omega) hsx ?_); intro v' w3 hown hgrow)
          have hb3 := Kit.below_own HB2.out Ho.out hgrow
          rw [show Zs.up (Tr.krTo xs k) ++ [(k : Int)] = Zs.up (Tr.krTo xs (k + 1)) by rw [Hs.out, Zs.up_append]; rfl] at hown
          go_roundw
          case rel => exact ⟨k + 1, by omega, by go_num, hown, hb3⟩
          case measure => simp [intOf]; omega
        · go_wp2_with fail
          refine (slContains_any _ _ _ (F.drop (k + 1)) x _ IC.out hmk).mono ?_
          rintro e w3 ⟨rfl, rfl⟩
          rw [Hd.out]
          go_wp2_with (at_builtin; go_loud (refine append_int wr rfl _ _ 29 rfl w1.heap.size 3 i0 Try.underlying29 Hi.out hz0 hz1 hz2 u4 (Zs.up (Tr.krTo xs k)).length (Zs.up (Tr.krTo xs k)) rfl Ho.out rfl (k : Int) rfl (by rw [Zs.up_length]; omega) hsx ?_); intro v' w3 hown hgrow)
          have hb3 := Kit.below_own HB2.out Ho.out hgrow
          rw [show Zs.up (Tr.krTo xs k) ++ [(k : Int)] = Zs.up (Tr.krTo xs (k + 1)) by rw [Hs.out, Zs.up_append]; rfl] at hown
          go_roundw
          case rel => exact ⟨k + 1, by omega, by go_num, hown, hb3⟩
          case measure => simp [intOf]; omega
    · obtain rfl : k = m := by omega
      go_wp2
      obtain ⟨A2, c2, rfl⟩ := own_slice Ho.out
      go_ret
      exact ⟨A2, c2, by rw [HK.out]; rfl, by rw [HK.out]; exact own_base Ho.out HB.out.size, HB.out.trans (HB2.out.mono HB.out.size)⟩

end Go.Proofs.Ytgkkeejhfofcaaa
