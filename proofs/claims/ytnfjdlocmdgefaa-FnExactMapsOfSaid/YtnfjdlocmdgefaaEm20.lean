/- Texts of one claim laid into one file, in build order: NdOpen. -/
import Derived.Test.YtnfjdlocmdgefaaEm1
import Derived.ChangeArms
import Derived.Deep.SlicePairs
import Derived.WideShapes
/- An argument []Node, opened: it reads as a list of nodes. -/
namespace Go.Proofs.Ytnfjdlocmdgefaa
open Go.RowKit Go.ChangeShapes Go.WideShapes Go.Deep
set_option linter.unusedVariables false

theorem open_nodes {H : Type} {enc : TypeId × Value → H} {P : Program} {w : World} {base : Nat} {spare : Nat → Bool} {held : Bool} {t e : TypeId} {f0 f1 : Field} {fuel : Nat} {a : Option Addr} {len cap : Nat} {x : DataW H × List MemPlace}
    (ht : P.underlying t = some (.slice e)) (he : P.underlying e = some (.struct #[f0, f1]))
    (ce : P.cellsOf e = 2) (o0 : f0.offset = 0) (o1 : f1.offset = 1) (c0 : P.cellsOf f0.type = 1) (c1 : P.cellsOf f1.type = 1)
    (k0 : P.underlying f0.type = some (.int .i64)) (k1 : P.underlying f1.type = some (.int .i64))
    (h : DataW.trod enc P w base spare held fuel t [.slice a len cap] = some x) : ∃ xs : Tr, NdIn w w.heap.size a len xs ∧ Tr.wf xs ∧ len ≤ maxLen := by
  have hnil : Tr.wf [] := fun k => by simp [Tr.l, Tr.d]
  rcases open_slice_pairs ht he ce o0 o1 c0 c1 h with ⟨hcs, _⟩ | ⟨ad, l, c, m, n, V0, V1, D0, D1, P0, P1, hcs, _, hl, hm, hmm, _, hi⟩
  · simp at hcs
    obtain ⟨rfl, rfl, rfl⟩ := hcs
    exact ⟨[], ⟨rfl, fun h => absurd h (by omega), fun ad e => by cases e⟩, hnil, by simp [maxLen]⟩
  · simp at hcs
    obtain ⟨rfl, rfl, rfl⟩ := hcs
    have hlm : len ≤ m := by rw [hmm]; split <;> omega
    have each : ∀ i, i < len → ∃ q : Int × Int, w.cell? (ad.add (i * 2)) = some (.int .i64 q.1) ∧ w.cell? (ad.add (i * 2 + 1)) = some (.int .i64 q.2) ∧ (Lit.int .i64 q.1).wf = true ∧ (Lit.int .i64 q.2).wf = true := by
      intro i hil
      obtain ⟨h1, h2, h3, h4⟩ := hi i (by omega)
      obtain ⟨z0, e0, _, w0⟩ := DataW.trod_int k0 h3
      obtain ⟨z1, e1, _, w1⟩ := DataW.trod_int k1 h4
      simp at e0 e1
      exact ⟨(z0, z1), by rw [h1, e0], by rw [h2, e1], w0, w1⟩
    obtain ⟨q, hq⟩ := choose_lt each
    have hget (k : Nat) (hk : k < len) : ((List.range len).map q).getD k (0, 0) = q k := by simp [List.getD_eq_getElem?_getD, hk]
    refine ⟨(List.range len).map q, ⟨by simp, fun hn => ⟨ad, rfl, ?_⟩, fun ad' e k hk => ?_⟩, fun k => ?_, by omega⟩
    · have := World.block_lt_of_cell? w _ (hq 0 hn).1
      rwa [block_of_add] at this
    · obtain rfl : ad = ad' := by injection e
      simp only [Tr.l, Tr.d, hget k hk]
      exact ⟨(hq k hk).1, (hq k hk).2.1⟩
    · by_cases hk : k < len
      · simp only [Tr.l, Tr.d, hget k hk]
        exact ⟨Kit.wf_le (hq k hk).2.2.1, Kit.wf_le (hq k hk).2.2.2⟩
      · simp [Tr.l, Tr.d, List.getD_eq_getElem?_getD, hk]

end Go.Proofs.Ytnfjdlocmdgefaa
