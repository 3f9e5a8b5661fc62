/- Contracts (Com). -/
import Derived.Test.YtlndaflhlkbedaaTr
import Derived.Test.YtlndaflhlkbedaaMem
namespace Go.Proofs.Ytlndaflhlkbedaa
open Go.RowKit
set_option linter.unusedVariables false

/-- where b leads, by the first k pairs -/
def Cp.out (ns : Tr) (b : Int) : Nat → List Int
  | 0 => []
  | k + 1 => if b = Tr.l ns k then Cp.out ns b k ++ [Tr.d ns k] else Cp.out ns b k
/-- the pairs of a by way of b -/
def Cp.row (a : Int) (zs : List Int) : Tr := zs.map fun z => (a, z)
def Cp.to (ms ns : Tr) : Nat → Tr
  | 0 => []
  | i + 1 => Cp.to ms ns i ++ Cp.row (Tr.l ms i) (Cp.out ns (Tr.d ms i) ns.length)
def Cp.all (ms ns : Tr) : Tr := Cp.to ms ns ms.length
theorem Cp.out_len (ns : Tr) (b : Int) : ∀ k, (Cp.out ns b k).length ≤ k
  | 0 => Nat.le_refl _
  | k + 1 => by
    have h := Cp.out_len ns b k
    unfold Cp.out
    split
    · rw [List.length_append, List.length_singleton]; omega
    · omega
theorem Cp.row_len (a : Int) (zs : List Int) : (Cp.row a zs).length = zs.length := by simp [Cp.row]
theorem Cp.out_yes {ns : Tr} {b : Int} {k : Nat} (h : b = Tr.l ns k) : Cp.out ns b (k + 1) = Cp.out ns b k ++ [Tr.d ns k] := by rw [Cp.out, if_pos h]
theorem Cp.out_no {ns : Tr} {b : Int} {k : Nat} (h : ¬ b = Tr.l ns k) : Cp.out ns b (k + 1) = Cp.out ns b k := by rw [Cp.out, if_neg h]
theorem Cp.row_add (a : Int) (zs : List Int) (z : Int) : Cp.row a (zs ++ [z]) = Cp.row a zs ++ [(a, z)] := by simp [Cp.row]
theorem Cp.to_len (ms ns : Tr) : ∀ i, (Cp.to ms ns i).length ≤ i * ns.length
  | 0 => by simp [Cp.to]
  | i + 1 => by
    have h := Cp.to_len ms ns i
    have h2 := Cp.out_len ns (Tr.d ms i) ns.length
    rw [Cp.to, List.length_append, Cp.row_len, Nat.succ_mul]
    omega
theorem Cp.to_bound (ms ns : Tr) {i : Nat} (hi : i ≤ 1048576) (hn : ns.length ≤ 1048576) : (Cp.to ms ns i).length ≤ 1099511627776 := Nat.le_trans (Cp.to_len ms ns i) (Nat.mul_le_mul hi hn)
theorem Cp.all_bound (ms ns : Tr) (hi : ms.length ≤ 1048576) (hn : ns.length ≤ 1048576) : (Cp.all ms ns).length ≤ 1099511627776 := Cp.to_bound ms ns hi hn
open Go.RowKit in
/-- one pair appended to a row of one's own, however long -/
theorem step_append_pair {P : Program} {ops : Array Oper} {o : Oper} {a : Act} (w : World) {K : Act → World → Prop} {Q : Exit → Act → World → Prop} {E : Prop} (hgd : o.guard = none) (s x : Operand) (t : TypeId)
    (ho : o.op = .call { callee := .builtin .append, args := #[s, x], argTypes := #[t, t] })
    (base : Nat) (e : TypeId) (i : TypeInfo) (ht : P.underlying t = some (.slice e)) (hi : P.info? e = some i) (hz : i.zero = some (.agg #[.int .i64 0, .int .i64 0]))
    (hsize : i.size = 2) (hby : i.bytes = 16) (v : Value) (n : Nat) (l : Tr) (hs : a.eval s = v) (hown : w.ownsRow base e 2 v n (Tr.cells l)) (hn : n = l.length)
    (b1 b2 : Int) (hx : a.eval x = .slice (some ⟨w.heap.size, 0, none⟩) 1 1)
    (h63 : l.length + 1 ≤ 4398046511104) (hbase : base ≤ w.heap.size)
    (h : ∀ v' w', w'.ownsRow base e 2 v' (l ++ [(b1, b2)]).length (Tr.cells (l ++ [(b1, b2)])) → (w.alloc (.cells #[.int .i64 b1, .int .i64 b2] e)).grownBy w' v.ownBlock → K (a.put o.dst v') w') :
    if Region.wanted o (yielded ops a.tmps) = true then Oper.wp P o a (w.alloc (.cells #[.int .i64 b1, .int .i64 b2] e)) K Q else E := by
  have hw : Region.wanted o (yielded ops a.tmps) = true := by simp [Region.wanted, hgd]
  rw [if_pos hw]
  subst hn
  refine wp_append_own _ s x t ho base e i (.agg #[.int .i64 0, .int .i64 0]) 2 16 ht hi hz hsize hby rfl (by decide) v l.length (Tr.cells l) hs (hown.alloc _) ⟨w.heap.size, 0, none⟩ 1 1 (Tr.cells [(b1, b2)]) hx (by simp [Tr.cells]) ?_ (Tr.cells_cell _) (by unfold maxLen; omega) (by omega) (by simp; omega) ?_
  · intro j u hj
    have hj2 : j < 2 := by
      have := (List.getElem?_eq_some_iff.1 hj).1
      simpa [Tr.cells] using this
    have : j = 0 ∨ j = 1 := by omega
    rcases this with rfl | rfl <;> (simp [Tr.cells] at hj; subst hj; simp [Addr.add])
  · intro v' w' h2 h3 _
    refine h v' w' ?_ h3
    rw [Tr.cells_append, List.length_append]
    exact h2

end Go.Proofs.Ytlndaflhlkbedaa
