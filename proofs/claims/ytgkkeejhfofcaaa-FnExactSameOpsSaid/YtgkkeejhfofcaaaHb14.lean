/- Texts of one claim laid into one file, in build order: OpOpen, OsOpen. -/
import Derived.Test.YtgkkeejhfofcaaaHb1
import Derived.Test.YtgkkeejhfofcaaaHb10
import Derived.Test.YtgkkeejhfofcaaaHb13
import Derived.ChangeArms
import Derived.Deep.SlicePairs
import Derived.WideShapes
/- Contracts (OpOpen). -/
namespace Go.Proofs.Ytgkkeejhfofcaaa
open Go.RowKit
set_option linter.unusedVariables false

open Go.ChangeShapes Go.WideShapes Go.Deep Go.Joins
section
variable {H : Type} {enc : TypeId × Value → H} {P : Program} {w : World} {base : Nat} {spare : Nat → Bool} {held : Bool}
theorem trod_struct5 {t : TypeId} {f0 f1 f2 f3 f4 : Field} {fuel : Nat} {cs : List Value} {x : DataW H × List MemPlace} (ht : P.underlying t = some (.struct #[f0, f1, f2, f3, f4])) (h : DataW.trod enc P w base spare held fuel t cs = some x) :
    ∃ y0 y1 y2 y3 y4 n, x = (.agg [y0.1, y1.1, y2.1, y3.1, y4.1], y0.2 ++ (y1.2 ++ (y2.2 ++ (y3.2 ++ y4.2)))) ∧ cs.length = P.cellsOf t ∧ DataW.trod enc P w base spare held n f0.type ((cs.drop f0.offset).take (P.cellsOf f0.type)) = some y0 ∧
      DataW.trod enc P w base spare held n f1.type ((cs.drop f1.offset).take (P.cellsOf f1.type)) = some y1 ∧ DataW.trod enc P w base spare held n f2.type ((cs.drop f2.offset).take (P.cellsOf f2.type)) = some y2 ∧
      DataW.trod enc P w base spare held n f3.type ((cs.drop f3.offset).take (P.cellsOf f3.type)) = some y3 ∧ DataW.trod enc P w base spare held n f4.type ((cs.drop f4.offset).take (P.cellsOf f4.type)) = some y4 := by
  obtain ⟨xs, n, _, rfl, hl, hlen, hf⟩ := DataW.trod_struct ht h
  match xs, hlen with
  | [y0, y1, y2, y3, y4], _ => exact ⟨y0, y1, y2, y3, y4, n, by simp, hl, by simpa using hf 0 f0 rfl, by simpa using hf 1 f1 rfl, by simpa using hf 2 f2 rfl, by simpa using hf 3 f3 rfl, by simpa using hf 4 f4 rfl⟩
end

end Go.Proofs.Ytgkkeejhfofcaaa

/- Contracts (OsOpen). -/
namespace Go.Proofs.Ytgkkeejhfofcaaa
open Go.RowKit
set_option linter.unusedVariables false

open Go.ChangeShapes Go.WideShapes Go.Deep Go.Joins
theorem add_add (a : Addr) (m k : Nat) : (a.add m).add k = a.add (m + k) := by
  unfold Addr.add
  by_cases h : m = 0 <;> by_cases h' : k = 0 <;> simp [h, h', Nat.add_assoc]
instance : Inhabited Opr := ⟨Opr.z⟩
/-- operations that came in, opened -/
theorem open_ops {H : Type} {enc : TypeId × Value → H} {P : Program} {w : World} {base : Nat} {spare : Nat → Bool} {held : Bool} {t e g : TypeId} {f0 f1 f2 f3 f4 : Field} {fuel : Nat} {a : Option Addr} {len cap : Nat} {x : DataW H × List MemPlace}
    (ht : P.underlying t = some (.slice e)) (hs : P.underlying e = some (.struct #[f0, f1, f2, f3, f4])) (ce : P.cellsOf e = 5)
    (o0 : f0.offset = 0 ∧ P.cellsOf f0.type = 1) (o1 : f1.offset = 1 ∧ P.cellsOf f1.type = 1) (o2 : f2.offset = 2 ∧ P.cellsOf f2.type = 1) (o3 : f3.offset = 3 ∧ P.cellsOf f3.type = 1) (o4 : f4.offset = 4 ∧ P.cellsOf f4.type = 1)
    (t0 : P.underlying f0.type = some (.int .i64)) (t1 : P.underlying f1.type = some (.slice g)) (t2 : P.underlying f2.type = some (.int .i64)) (t3 : P.underlying f3.type = some (.int .i64)) (t4 : P.underlying f4.type = some (.int .i64)) (he : P.underlying g = some (.int .i64)) (hc : P.cellsOf g = 1)
    (h : DataW.trod enc P w base spare held fuel t [.slice a len cap] = some x) : ∃ os : List Opr, OpsIn w w.heap.size a len os ∧ len ≤ maxLen ∧ ∀ i, (os.getD i Opr.z).p.length ≤ maxLen := by
  rcases open_slice ht h with ⟨hcs, _⟩ | ⟨ad, l, c, m, n, D, Pl, hcs, _, hl, hm, hmm, _, hi⟩
  · simp at hcs
    obtain ⟨rfl, rfl, rfl⟩ := hcs
    exact ⟨[], ⟨rfl, fun h => absurd h (by omega), fun ad e => by cases e⟩, by simp [maxLen], fun i => by simp [Opr.z]⟩
  · simp at hcs
    obtain ⟨rfl, rfl, rfl⟩ := hcs
    have hlm : len ≤ m := by rw [hmm]; split <;> omega
    have each : ∀ i, i < len → ∃ o : Opr, (∃ Q q, (w.cell? (ad.add (i * 5)) = some (.int .i64 o.k) ∧ w.cell? (ad.add (i * 5 + 1)) = some (.slice Q o.p.length q) ∧ w.cell? (ad.add (i * 5 + 2)) = some (.int .i64 o.a) ∧ w.cell? (ad.add (i * 5 + 3)) = some (.int .i64 o.f) ∧ w.cell? (ad.add (i * 5 + 4)) = some (.int .i64 o.c)) ∧ IntIn w w.heap.size Q o.p.length o.p) ∧ o.p.length ≤ maxLen := by
      intro i hil
      obtain ⟨cs, h1, h2⟩ := hi i (by omega)
      rw [ce] at h1
      obtain ⟨_, hlen, hcell⟩ := World.cells?_some h1
      match cs, hlen with
      | [c0, c1, c2, c3, c4], _ =>
        obtain ⟨y0, y1, y2, y3, y4, n', hx, _, k0, k1, k2, k3, k4⟩ := trod_struct5 hs h2
        rw [o0.1, o0.2] at k0
        rw [o1.1, o1.2] at k1
        rw [o2.1, o2.2] at k2
        rw [o3.1, o3.2] at k3
        rw [o4.1, o4.2] at k4
        obtain ⟨z0, e0, _, _⟩ := DataW.trod_int t0 (k0 : DataW.trod enc P w base spare held n' f0.type [c0] = some y0)
        obtain ⟨z2, e2, _, _⟩ := DataW.trod_int t2 (k2 : DataW.trod enc P w base spare held n' f2.type [c2] = some y2)
        obtain ⟨z3, e3, _, _⟩ := DataW.trod_int t3 (k3 : DataW.trod enc P w base spare held n' f3.type [c3] = some y3)
        obtain ⟨z4, e4, _, _⟩ := DataW.trod_int t4 (k4 : DataW.trod enc P w base spare held n' f4.type [c4] = some y4)
        obtain ⟨A, m', c', zs, rfl, i0, l0⟩ := open_introw t1 he hc (k1 : DataW.trod enc P w base spare held n' f1.type [c1] = some y1)
        injection e0 with e0 _
        injection e2 with e2 _
        injection e3 with e3 _
        injection e4 with e4 _
        subst e0 e2 e3 e4
        have hz : zs.length = m' := i0.1
        have q0 := hcell 0 (by omega)
        have q1 := hcell 1 (by omega)
        have q2 := hcell 2 (by omega)
        have q3 := hcell 3 (by omega)
        have q4 := hcell 4 (by omega)
        rw [add_add] at q0 q1 q2 q3 q4
        exact ⟨⟨z0, zs, z2, z3, z4⟩, ⟨A, c', ⟨by simpa using q0, by rw [q1]; simp [hz], by rw [q2]; rfl, by rw [q3]; rfl, by rw [q4]; rfl⟩, by simpa [hz] using i0⟩, by simpa [hz] using l0⟩
    obtain ⟨q, hq⟩ := choose_lt each
    have hget (k : Nat) (hk : k < len) : ((List.range len).map q).getD k Opr.z = q k := by simp [List.getD_eq_getElem?_getD, hk]
    refine ⟨(List.range len).map q, ⟨by simp, fun hn => ⟨ad, rfl, ?_⟩, fun ad' e k hk => ?_⟩, by omega, fun k => ?_⟩
    · obtain ⟨⟨Q, p, hq0, _⟩, _⟩ := hq 0 hn
      have := World.block_lt_of_cell? w _ hq0.1
      rwa [block_of_add] at this
    · obtain rfl : ad = ad' := by injection e
      simp only [hget k hk]
      exact (hq k hk).1
    · by_cases hk : k < len
      · rw [hget k hk]
        exact (hq k hk).2
      · simp [List.getD_eq_getElem?_getD, hk, Opr.z]

end Go.Proofs.Ytgkkeejhfofcaaa
