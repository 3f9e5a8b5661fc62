/- Contracts (StepP). -/
import Derived.Test.YtlndaflhlkbedaaCom
import Derived.Test.YtlndaflhlkbedaaNdPt
import Derived.Maps.AppendAt
namespace Go.Proofs.Ytlndaflhlkbedaa
open Go.RowKit
set_option linter.unusedVariables false

theorem append_pair_at {P : Program} (w : World) {ops : Array Oper} {rest : List Oper} {o : Oper} {a : Act} {Q : Exit → Act → World → Prop} (hgd : o.guard = none) (s x : Operand) (t : TypeId)
    (ho : o.op = .call { callee := .builtin .append, args := #[s, x], argTypes := #[t, t] })
    (base : Nat) (e : TypeId) (i : TypeInfo) (ht : P.underlying t = some (.slice e)) (hi : P.info? e = some i) (hz : i.zero = some (.agg #[.int .i64 0, .int .i64 0]))
    (hsize : i.size = 2) (hby : i.bytes = 16) (v : Value) (n : Nat) (l : Tr) (hs : a.eval s = v) (hown : w.ownsRow base e 2 v n (Tr.cells l)) (hn : n = l.length)
    (b1 b2 : Int) (hx : a.eval x = .slice (some ⟨w.heap.size, 0, none⟩) 1 1)
    (h63 : l.length + 1 ≤ 4398046511104) (hbase : base ≤ w.heap.size)
    (h : ∀ v' w', w'.ownsRow base e 2 v' (l ++ [(b1, b2)]).length (Tr.cells (l ++ [(b1, b2)])) → (w.alloc (.cells #[.int .i64 b1, .int .i64 b2] e)).grownBy w' v.ownBlock → (v'.ownBlock = v.ownBlock ∨ v'.ownBlock = some (w.heap.size + 1)) → wpList P ops Q rest (a.put o.dst v') w') :
    wpList P ops Q (o :: rest) a (w.alloc (.cells #[.int .i64 b1, .int .i64 b2] e)) := by
  subst hn
  refine wpList_append_own_at _ hgd s x t ho base e i (.agg #[.int .i64 0, .int .i64 0]) 2 16 ht hi hz hsize hby rfl (by decide) v l.length (Tr.cells l) hs (hown.alloc _) ⟨w.heap.size, 0, none⟩ 1 1 (Tr.cells [(b1, b2)]) hx (by simp [Tr.cells]) ?_ (Tr.cells_cell _) (by unfold maxLen; omega) (by omega) (by simp; omega) ?_
  · intro j u hj
    have hj2 : j < 2 := by
      have := (List.getElem?_eq_some_iff.1 hj).1
      simpa [Tr.cells] using this
    have : j = 0 ∨ j = 1 := by omega
    rcases this with rfl | rfl <;> (simp [Tr.cells] at hj; subst hj; simp [Addr.add])
  · intro v' w' h2 h3 _ h5
    refine h v' w' ?_ h3 (by simpa using h5)
    rw [Tr.cells_append, List.length_append]
    exact h2
/-- rows of different elements don't lie in one block -/
theorem comNe {w : World} {b1 b2 n1 n2 s1 s2 : Nat} {e1 e2 : TypeId} {v1 v2 : Value} {x1 x2 : List Value} (h1 : w.ownsRow b1 e1 s1 v1 n1 x1) (h2 : w.ownsRow b2 e2 s2 v2 n2 x2) (he : e1 ≠ e2) : v1.ownBlock = none ∨ v1.ownBlock ≠ v2.ownBlock := by
  rcases h1.2 with ⟨rfl, _⟩ | ⟨g, cap, cur, rfl, _, hg, _⟩
  · exact .inl rfl
  · refine .inr fun e => ?_
    rcases h2.2 with ⟨rfl, _⟩ | ⟨g', cap', cur', rfl, _, hg', _⟩
    · cases e
    · simp only [Value.ownBlock, Option.some.injEq] at e
      subst e
      rw [hg] at hg'
      simp only [Option.some.injEq, Obj.cells.injEq] at hg'
      exact he hg'.2.1
theorem Cp.row_take (a : Int) (zs : List Int) {q : Nat} (h : q < zs.length) : Cp.row a (zs.take (q + 1)) = Cp.row a (zs.take q) ++ [(a, zs.getD q 0)] := by
  rw [List.take_add_one, List.getElem?_eq_getElem h, Cp.row, Cp.row, List.map_append, List.getD_eq_getElem?_getD, List.getElem?_eq_getElem h]
  rfl

end Go.Proofs.Ytlndaflhlkbedaa
