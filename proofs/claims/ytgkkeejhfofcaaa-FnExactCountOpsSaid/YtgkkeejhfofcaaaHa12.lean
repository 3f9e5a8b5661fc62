/- Texts of one claim laid into one file, in build order: OsM, OsK, ExCountOps, CoOpen, OpOpen, OsOpen. -/
import Derived.Test.YtgkkeejhfofcaaaHa1
import Derived.Test.YtgkkeejhfofcaaaHa10
import Derived.Test.YtgkkeejhfofcaaaHa11
import Derived.Test.YtgkkeejhfofcaaaHa2
import Derived.Test.YtgkkeejhfofcaaaHa4
import Derived.ChangeArms
import Derived.ChangeSlices
import Derived.Deep.SlicePairs
import Derived.Lib.SmallJoins
import Derived.Outline
import Derived.Test.YtgkkeejhfofcaaaRows
import Derived.WideShapes
/- Contracts (OsM). -/
namespace Go.Proofs.Ytgkkeejhfofcaaa
open Go.RowKit
set_option linter.unusedVariables false

/-- how many marks the first i operations take -/
def Om.at (F : Nat → Opr) : Nat → Nat
  | 0 => 0
  | i + 1 => Om.at F i + ((F i).p.length + 4)
theorem Om.mono (F : Nat → Opr) {i j : Nat} (h : i ≤ j) : Om.at F i ≤ Om.at F j := by
  induction j with
  | zero => obtain rfl : i = 0 := by omega
            exact Nat.le_refl _
  | succ j ih =>
    rcases Nat.lt_or_ge i (j + 1) with h' | h'
    · have := ih (by omega)
      have e : Om.at F (j + 1) = Om.at F j + ((F j).p.length + 4) := rfl
      omega
    · obtain rfl : i = j + 1 := by omega
      exact Nat.le_refl _
/-- an operation overwritten by marks -/
def Om.one (k : Int) (o : Opr) : Opr := ⟨k, Zs.marks (k + 1) o.p.length, k + 1 + o.p.length, k + 1 + o.p.length + 1, k + 1 + o.p.length + 1 + 1⟩
/-- an own row of operations, by functions -/
def OsFn (w : World) (base b n : Nat) (G L : Nat → Nat) (F : Nat → Opr) : Prop :=
  w.ownsRow base 39 5 (.slice (some ⟨b, 0, none⟩) n n) n (C5 (fun i => (F i).cell (.slice (some ⟨G i, 0, none⟩) (L i) (L i))) n) ∧
  (∀ i, i < n → w.ownsRow base 3 1 (.slice (some ⟨G i, 0, none⟩) (L i) (L i)) (L i) (ints (F i).p)) ∧ (∀ i j, i < j → j < n → G i < G j) ∧ (∀ i, i < n → G i ≠ b)
theorem op_ne : 39 ≠ 3 := by decide
theorem own_row_ne {w : World} {b1 b2 n1 n2 s1 s2 : Nat} {e1 e2 : TypeId} {v1 v2 : Value} {x1 x2 : List Value} (h1 : w.ownsRow b1 e1 s1 v1 n1 x1) (h2 : w.ownsRow b2 e2 s2 v2 n2 x2) (he : e1 ≠ e2) : v1.ownBlock = none ∨ v1.ownBlock ≠ v2.ownBlock := by
  rcases h1.2 with ⟨rfl, _⟩ | ⟨g, cap, cur, rfl, _, hg, _⟩
  · exact .inl rfl
  · refine .inr fun e => ?_
    rcases h2.2 with ⟨rfl, _⟩ | ⟨g', cap', cur', rfl, _, hg', _⟩
    · cases e
    · simp only [Value.ownBlock, Option.some.injEq] at e
      subst e
      rw [hg] at hg'
      simp only [Option.some.injEq, Obj.cells.injEq] at hg'
      exact he hg'.2.1
theorem OsOwn.fn {w : World} {base b n : Nat} {os : List Opr} {G : Nat → Nat} (h : OsOwn w base (.slice (some ⟨b, 0, none⟩) n n) n os G) : OsFn w base b n G (fun i => (os.getD i Opr.z).p.length) (fun i => os.getD i Opr.z) :=
  ⟨h.1, h.2.2.1, h.2.2.2, fun i hi e => by
    rcases own_row_ne h.1 (h.2.2.1 i hi) op_ne with q | q
    · cases q
    · exact q (by simp [Value.ownBlock, e])⟩
end Go.Proofs.Ytgkkeejhfofcaaa

/- Contracts (OsK). -/
namespace Go.Proofs.Ytgkkeejhfofcaaa
open Go.RowKit
set_option linter.unusedVariables false

section
variable {w w' : World} {base b n : Nat} {os : List Opr} {G : Nat → Nat}
theorem OpsIn.of_own (h : OsOwn w base (.slice (some ⟨b, 0, none⟩) n n) n os G) : OpsIn w w.heap.size (some ⟨b, 0, none⟩) n os := by
  refine ⟨h.2.1, fun _ => ⟨_, rfl, (h.1.lt b rfl).2⟩, fun ad e i hi => ?_⟩
  obtain rfl : (⟨b, 0, none⟩ : Addr) = ad := by injection e
  have ha (k : Nat) : (⟨b, 0, none⟩ : Addr).add k = ⟨b, k, none⟩ := by simp only [Addr.add]; split <;> simp_all
  refine ⟨some ⟨G i, 0, none⟩, (os.getD i Opr.z).p.length, ⟨?_, ?_, ?_, ?_, ?_⟩, IntIn.of_own (h.2.2.1 i hi)⟩
  · rw [ha]; exact own_c5 h.1 hi (show 0 < 5 by decide)
  · rw [ha]; exact own_c5 h.1 hi (show 1 < 5 by decide)
  · rw [ha]; exact own_c5 h.1 hi (show 2 < 5 by decide)
  · rw [ha]; exact own_c5 h.1 hi (show 3 < 5 by decide)
  · rw [ha]; exact own_c5 h.1 hi (show 4 < 5 by decide)
theorem OsOwn.below {v : Value} (h : OsOwn w base v n os G) (hb : Below w.heap.size w w') : OsOwn w' base v n os G :=
  ⟨own_below h.1 hb, h.2.1, fun i hi => own_below (h.2.2.1 i hi) hb, h.2.2.2⟩
theorem OsOwn.grown {v : Value} {row : Option Nat} (h : OsOwn w base v n os G) (hg : w.grownBy w' row) (hr : ∀ k, row = some k → k < base) : OsOwn w' base v n os G :=
  ⟨own_grown h.1 hg hr, h.2.1, fun i hi => own_grown (h.2.2.1 i hi) hg hr, h.2.2.2⟩
theorem OsOwn.lt (h : OsOwn w base (.slice (some ⟨b, 0, none⟩) n n) n os G) : b < w.heap.size ∧ ∀ i, i < n → G i < w.heap.size :=
  ⟨(h.1.lt b rfl).2, fun i hi => ((h.2.2.1 i hi).lt (G i) rfl).2⟩
theorem Os.path_le {N : Nat} (hl : os.length = n) (h : Os.tot os n ≤ N) (i : Nat) : (os.getD i Opr.z).p.length ≤ N := by
  by_cases hi : i < n
  · exact Nat.le_trans (Os.tot_one os hi) h
  · rw [List.getD_eq_getElem?_getD, List.getElem?_eq_none (by omega)]
    exact Nat.zero_le _
end

end Go.Proofs.Ytgkkeejhfofcaaa

/- Contracts (ExCountOps). -/
namespace Go.Proofs.Ytgkkeejhfofcaaa
open Go.RowKit
set_option linter.unusedVariables false

set_option maxHeartbeats 3200000 in
set_option maxRecDepth 100000 in
theorem exactCountOps_walk (A0 : Option Addr) (n0 c0 : Nat) (os0 : List Opr) (a1 : Int) (le0 : n0 ≤ maxLen) (lp0 : ∀ i, (os0.getD i Opr.z).p.length ≤ maxLen) (_w1 : (Lit.int .i64 a1).wf = true) (w : World) (h0 : OpsIn w w.heap.size A0 n0 os0) :
    Calls Try.prog 7 #[.slice A0 n0 c0, .int .i64 a1] w fun e w' => e = .returned (.bool true) ∧ Below w.heap.size w w' := by
  have Ia0 := Lib.hid h0
  clear h0
  unfold maxLen at le0 lp0
  by_cases hs0 : (n0 + Os.tot os0 n0) ≤ 1048576
  rotate_left
  · go_enter Try.func7, Try.ntmps7
    go_wp2_with fail
    refine (szOpS_any _ _ _ os0 _ _ Ia0.out le0 lp0 (by omega) (by omega)).mono ?_
    rintro e wy ⟨rfl, hb⟩
    have HB := Lib.hid hb
    clear hb
    rw [if_neg (by omega)]
    go_wp2
    go_ret
    exact ⟨rfl, HB.out⟩
  have hm0 : n0 ≤ 1048576 := by omega
  have hp0 := Os.path_le (N := 1048576) Ia0.out.1 (by omega)
  go_enter Try.func7, Try.ntmps7
  go_wp2_with fail
  refine (szOpS_any _ _ _ os0 _ _ Ia0.out le0 lp0 (by omega) (by omega)).mono ?_
  rintro e wy ⟨rfl, hb⟩
  have HB := Lib.hid hb
  clear hb
  rw [if_pos (by omega)]
  have La0 := Lib.hid HB.out
  have LW := Lib.hid HB.out
  clear HB
  go_wp2_with fail
  refine (toOpS_any _ _ _ os0 wy (OpsIn.to_below Ia0.out La0.out) hm0 hp0).mono ?_
  rintro e w1 ⟨Gs0, rfl, ho, hb⟩
  have La0 := Lib.hid (La0.out.trans (hb.mono La0.out.size))
  have LW := Lib.hid (LW.out.trans (hb.mono LW.out.size))
  clear hb
  have Is0 := Lib.hid (OpsIn.of_own ho)
  have Ls0 := Lib.hid (Below.refl (World.heap w1).size w1)
  clear ho
  go_wp2_with fail
  refine (specCountOps_any _ _ _ os0 a1 _ (OpsIn.to_below Is0.out Ls0.out) hm0).mono ?_
  rintro e w2 ⟨rfl, hb⟩
  have La0 := Lib.hid (La0.out.trans (hb.mono La0.out.size))
  have Ls0 := Lib.hid (Ls0.out.trans (hb.mono Ls0.out.size))
  have LW := Lib.hid (LW.out.trans (hb.mono LW.out.size))
  clear hb
  go_wp2_with fail
  refine (toOpS_any _ _ _ os0 w2 (OpsIn.to_below Ia0.out La0.out) hm0 hp0).mono ?_
  rintro e w3 ⟨Gx0, rfl, ho, hb⟩
  have La0 := Lib.hid (La0.out.trans (hb.mono La0.out.size))
  have Ls0 := Lib.hid (Ls0.out.trans (hb.mono Ls0.out.size))
  have LW := Lib.hid (LW.out.trans (hb.mono LW.out.size))
  clear hb
  have Ix0 := Lib.hid (OpsIn.of_own ho)
  have Lx0 := Lib.hid (Below.refl (World.heap w3).size w3)
  clear ho
  go_wp2_with fail
  refine (implCountOps_any _ _ _ os0 a1 _ (OpsIn.to_below Ix0.out Lx0.out) hm0).mono ?_
  rintro e w4 ⟨rfl, hb⟩
  have La0 := Lib.hid (La0.out.trans (hb.mono La0.out.size))
  have Ls0 := Lib.hid (Ls0.out.trans (hb.mono Ls0.out.size))
  have Lx0 := Lib.hid (Lx0.out.trans (hb.mono Lx0.out.size))
  have LW := Lib.hid (LW.out.trans (hb.mono LW.out.size))
  clear hb
  go_wp2_with fail
  refine (toOpS_any _ _ _ os0 w4 (OpsIn.to_below Ia0.out La0.out) hm0 hp0).mono ?_
  rintro e w5 ⟨Gy0, rfl, ho, hb⟩
  have La0 := Lib.hid (La0.out.trans (hb.mono La0.out.size))
  have Ls0 := Lib.hid (Ls0.out.trans (hb.mono Ls0.out.size))
  have Lx0 := Lib.hid (Lx0.out.trans (hb.mono Lx0.out.size))
  have LW := Lib.hid (LW.out.trans (hb.mono LW.out.size))
  clear hb
  have Iy0 := Lib.hid (OpsIn.of_own ho)
  have Ly0 := Lib.hid (Below.refl (World.heap w5).size w5)
  clear ho
  go_wp2_with fail
  refine (eqOpS_any _ _ _ _ _ os0 _ (OpsIn.to_below Ix0.out Lx0.out) (OpsIn.to_below Iy0.out Ly0.out) hm0 hp0).mono ?_
  rintro e w6 ⟨rfl, hb⟩
  have La0 := Lib.hid (La0.out.trans (hb.mono La0.out.size))
  have Ls0 := Lib.hid (Ls0.out.trans (hb.mono Ls0.out.size))
  have Lx0 := Lib.hid (Lx0.out.trans (hb.mono Lx0.out.size))
  have Ly0 := Lib.hid (Ly0.out.trans (hb.mono Ly0.out.size))
  have LW := Lib.hid (LW.out.trans (hb.mono LW.out.size))
  clear hb
  go_wp2
  go_ret
  exact ⟨rfl, LW.out⟩

end Go.Proofs.Ytgkkeejhfofcaaa

/- Contracts (CoOpen). -/
namespace Go.Proofs.Ytgkkeejhfofcaaa
open Go.RowKit
set_option linter.unusedVariables false

open Go.ChangeShapes Go.WideShapes Go.Deep Go.Joins
theorem open_introw {H : Type} {enc : TypeId × Value → H} {P : Program} {w : World} {base : Nat} {spare : Nat → Bool} {held : Bool} {t e : TypeId} {fuel : Nat} {v : Value} {x : DataW H × List MemPlace}
    (ht : P.underlying t = some (.slice e)) (he : P.underlying e = some (.int .i64)) (hc : P.cellsOf e = 1)
    (h : DataW.trod enc P w base spare held fuel t [v] = some x) : ∃ (A : Option Addr) (n c : Nat) (zs : List Int), v = .slice A n c ∧ IntIn w w.heap.size A n zs ∧ n ≤ maxLen := by
  rcases open_ints ht he hc h with ⟨hcs, _⟩ | ⟨a, l, c, zs, hcs, _, hl, hm, hz, _, hcell, hwz⟩
  · simp at hcs
    subst hcs
    exact ⟨none, 0, 0, [], rfl, ⟨rfl, fun h => absurd h (by omega), fun ad e => by cases e⟩, by simp [maxLen]⟩
  · simp at hcs
    subst hcs
    have hlz : l ≤ zs.length := by rw [hz]; split <;> omega
    refine ⟨some a, l, c, zs.take l, rfl, ⟨by simp; omega, fun hn => ⟨a, rfl, ?_⟩, fun ad e k hk => ?_⟩, by omega⟩
    · have := World.block_lt_of_cell? w _ (hcell 0 (by omega))
      rwa [block_of_add] at this
    · obtain rfl : a = ad := by injection e
      rw [hcell k (by omega)]
      simp [Zs.at, List.getD_eq_getElem?_getD, hk]
end Go.Proofs.Ytgkkeejhfofcaaa

/- Contracts (OpOpen). -/
namespace Go.Proofs.Ytgkkeejhfofcaaa
open Go.RowKit
set_option linter.unusedVariables false

open Go.ChangeShapes Go.WideShapes Go.Deep Go.Joins
section
variable {H : Type} {enc : TypeId × Value → H} {P : Program} {w : World} {base : Nat} {spare : Nat → Bool} {held : Bool}
theorem trod_struct5 {t : TypeId} {f0 f1 f2 f3 f4 : Field} {fuel : Nat} {cs : List Value} {x : DataW H × List MemPlace} (ht : P.underlying t = some (.struct #[f0, f1, f2, f3, f4])) (h : DataW.trod enc P w base spare held fuel t cs = some x) :
    ∃ y0 y1 y2 y3 y4 n, x = (.agg [y0.1, y1.1, y2.1, y3.1, y4.1], y0.2 ++ (y1.2 ++ (y2.2 ++ (y3.2 ++ y4.2)))) ∧ cs.length = P.cellsOf t ∧ DataW.trod enc P w base spare held n f0.type ((cs.drop f0.offset).take (P.cellsOf f0.type)) = some y0 ∧
      DataW.trod enc P w base spare held n f1.type ((cs.drop f1.offset).take (P.cellsOf f1.type)) = some y1 ∧ DataW.trod enc P w base spare held n f2.type ((cs.drop f2.offset).take (P.cellsOf f2.type)) = some y2 ∧
      DataW.trod enc P w base spare held n f3.type ((cs.drop f3.offset).take (P.cellsOf f3.type)) = some y3 ∧ DataW.trod enc P w base spare held n f4.type ((cs.drop f4.offset).take (P.cellsOf f4.type)) = some y4 := by
  obtain ⟨xs, n, _, rfl, hl, hlen, hf⟩ := DataW.trod_struct ht h
  match xs, hlen with
  | [y0, y1, y2, y3, y4], _ => exact ⟨y0, y1, y2, y3, y4, n, by simp, hl, by simpa using hf 0 f0 rfl, by simpa using hf 1 f1 rfl, by simpa using hf 2 f2 rfl, by simpa using hf 3 f3 rfl, by simpa using hf 4 f4 rfl⟩
end

end Go.Proofs.Ytgkkeejhfofcaaa

/- Contracts (OsOpen). -/
namespace Go.Proofs.Ytgkkeejhfofcaaa
open Go.RowKit
set_option linter.unusedVariables false

open Go.ChangeShapes Go.WideShapes Go.Deep Go.Joins
theorem add_add (a : Addr) (m k : Nat) : (a.add m).add k = a.add (m + k) := by
  unfold Addr.add
  by_cases h : m = 0 <;> by_cases h' : k = 0 <;> simp [h, h', Nat.add_assoc]
instance : Inhabited Opr := ⟨Opr.z⟩
/-- operations that came in, opened -/
theorem open_ops {H : Type} {enc : TypeId × Value → H} {P : Program} {w : World} {base : Nat} {spare : Nat → Bool} {held : Bool} {t e g : TypeId} {f0 f1 f2 f3 f4 : Field} {fuel : Nat} {a : Option Addr} {len cap : Nat} {x : DataW H × List MemPlace}
    (ht : P.underlying t = some (.slice e)) (hs : P.underlying e = some (.struct #[f0, f1, f2, f3, f4])) (ce : P.cellsOf e = 5)
    (o0 : f0.offset = 0 ∧ P.cellsOf f0.type = 1) (o1 : f1.offset = 1 ∧ P.cellsOf f1.type = 1) (o2 : f2.offset = 2 ∧ P.cellsOf f2.type = 1) (o3 : f3.offset = 3 ∧ P.cellsOf f3.type = 1) (o4 : f4.offset = 4 ∧ P.cellsOf f4.type = 1)
    (t0 : P.underlying f0.type = some (.int .i64)) (t1 : P.underlying f1.type = some (.slice g)) (t2 : P.underlying f2.type = some (.int .i64)) (t3 : P.underlying f3.type = some (.int .i64)) (t4 : P.underlying f4.type = some (.int .i64)) (he : P.underlying g = some (.int .i64)) (hc : P.cellsOf g = 1)
    (h : DataW.trod enc P w base spare held fuel t [.slice a len cap] = some x) : ∃ os : List Opr, OpsIn w w.heap.size a len os ∧ len ≤ maxLen ∧ ∀ i, (os.getD i Opr.z).p.length ≤ maxLen := by
  rcases open_slice ht h with ⟨hcs, _⟩ | ⟨ad, l, c, m, n, D, Pl, hcs, _, hl, hm, hmm, _, hi⟩
  · simp at hcs
    obtain ⟨rfl, rfl, rfl⟩ := hcs
    exact ⟨[], ⟨rfl, fun h => absurd h (by omega), fun ad e => by cases e⟩, by simp [maxLen], fun i => by simp [Opr.z]⟩
  · simp at hcs
    obtain ⟨rfl, rfl, rfl⟩ := hcs
    have hlm : len ≤ m := by rw [hmm]; split <;> omega
    have each : ∀ i, i < len → ∃ o : Opr, (∃ Q q, (w.cell? (ad.add (i * 5)) = some (.int .i64 o.k) ∧ w.cell? (ad.add (i * 5 + 1)) = some (.slice Q o.p.length q) ∧ w.cell? (ad.add (i * 5 + 2)) = some (.int .i64 o.a) ∧ w.cell? (ad.add (i * 5 + 3)) = some (.int .i64 o.f) ∧ w.cell? (ad.add (i * 5 + 4)) = some (.int .i64 o.c)) ∧ IntIn w w.heap.size Q o.p.length o.p) ∧ o.p.length ≤ maxLen := by
      intro i hil
      obtain ⟨cs, h1, h2⟩ := hi i (by omega)
      rw [ce] at h1
      obtain ⟨_, hlen, hcell⟩ := World.cells?_some h1
      match cs, hlen with
      | [c0, c1, c2, c3, c4], _ =>
        obtain ⟨y0, y1, y2, y3, y4, n', hx, _, k0, k1, k2, k3, k4⟩ := trod_struct5 hs h2
        rw [o0.1, o0.2] at k0
        rw [o1.1, o1.2] at k1
        rw [o2.1, o2.2] at k2
        rw [o3.1, o3.2] at k3
        rw [o4.1, o4.2] at k4
        obtain ⟨z0, e0, _, _⟩ := DataW.trod_int t0 (k0 : DataW.trod enc P w base spare held n' f0.type [c0] = some y0)
        obtain ⟨z2, e2, _, _⟩ := DataW.trod_int t2 (k2 : DataW.trod enc P w base spare held n' f2.type [c2] = some y2)
        obtain ⟨z3, e3, _, _⟩ := DataW.trod_int t3 (k3 : DataW.trod enc P w base spare held n' f3.type [c3] = some y3)
        obtain ⟨z4, e4, _, _⟩ := DataW.trod_int t4 (k4 : DataW.trod enc P w base spare held n' f4.type [c4] = some y4)
        obtain ⟨A, m', c', zs, rfl, i0, l0⟩ := open_introw t1 he hc (k1 : DataW.trod enc P w base spare held n' f1.type [c1] = some y1)
        injection e0 with e0 _
        injection e2 with e2 _
        injection e3 with e3 _
        injection e4 with e4 _
        subst e0 e2 e3 e4
        have hz : zs.length = m' := i0.1
        have q0 := hcell 0 (by omega)
        have q1 := hcell 1 (by omega)
        have q2 := hcell 2 (by omega)
        have q3 := hcell 3 (by omega)
        have q4 := hcell 4 (by omega)
        rw [add_add] at q0 q1 q2 q3 q4
        exact ⟨⟨z0, zs, z2, z3, z4⟩, ⟨A, c', ⟨by simpa using q0, by rw [q1]; simp [hz], by rw [q2]; rfl, by rw [q3]; rfl, by rw [q4]; rfl⟩, by simpa [hz] using i0⟩, by simpa [hz] using l0⟩
    obtain ⟨q, hq⟩ := choose_lt each
    have hget (k : Nat) (hk : k < len) : ((List.range len).map q).getD k Opr.z = q k := by simp [List.getD_eq_getElem?_getD, hk]
    refine ⟨(List.range len).map q, ⟨by simp, fun hn => ⟨ad, rfl, ?_⟩, fun ad' e k hk => ?_⟩, by omega, fun k => ?_⟩
    · obtain ⟨⟨Q, p, hq0, _⟩, _⟩ := hq 0 hn
      have := World.block_lt_of_cell? w _ hq0.1
      rwa [block_of_add] at this
    · obtain rfl : ad = ad' := by injection e
      simp only [hget k hk]
      exact (hq k hk).1
    · by_cases hk : k < len
      · rw [hget k hk]
        exact (hq k hk).2
      · simp [List.getD_eq_getElem?_getD, hk, Opr.z]

end Go.Proofs.Ytgkkeejhfofcaaa
