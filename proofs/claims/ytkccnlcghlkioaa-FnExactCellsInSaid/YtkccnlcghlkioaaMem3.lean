/- Contracts (Mem3). -/
import Derived.Test.YtkccnlcghlkioaaMem
import Derived.Test.YtkccnlcghlkioaaRes
import Derived.Maps.AppendAt
namespace Go.Proofs.Ytkccnlcghlkioaa
open Go.RowKit
set_option linter.unusedVariables false

/-- the rows a and b lie in blocks apart (a's may be none) -/
def Apart (a b : Value) : Prop := a.ownBlock = none ∨ a.ownBlock ≠ b.ownBlock
theorem Apart.grew {kv ov v' : Value} {w : World} {base size n : Nat} {e : TypeId} {ys : List Value} (h : Apart kv ov) (hk : w.ownsRow base e size kv n ys) (hv : v'.ownBlock = ov.ownBlock ∨ v'.ownBlock = some w.heap.size) : Apart kv v' := by
  rcases hv with hv | hv
  · rcases h with h | h
    · exact .inl h
    · exact .inr (by rw [hv]; exact h)
  · rcases hb : kv.ownBlock with _ | g
    · exact .inl hb
    · refine .inr ?_
      have := (hk.lt g hb).2
      rw [hb, hv]
      intro e
      injection e with e
      omega
/-- out = append(out, x...), both rows of ints -/
theorem append_ints {P : Program} (w : World) {ops : Array Oper} {rest : List Oper} {o : Oper} {a : Act} {Q : Exit → Act → World → Prop} (hgd : o.guard = none) (s x : Operand) (t : TypeId)
    (ho : o.op = .call { callee := .builtin .append, args := #[s, x], argTypes := #[t, t] })
    (base : Nat) (e : TypeId) (i : TypeInfo) (ht : P.underlying t = some (.slice e)) (hi : P.info? e = some i) (hz : i.zero = some (.int .i64 0))
    (hsize : i.size = 1) (hby : i.bytes = 8) (v : Value) (n : Nat) (l : List Int) (hs : a.eval s = v) (hown : w.ownsRow base e 1 v n (ints l)) (hn : n = l.length)
    {B : Nat} (zs : List Int) (A : Option Addr) (c : Nat) (hx : a.eval x = .slice A zs.length c) (hin : IntIn w B A zs.length zs) (hpos : 0 < zs.length)
    (h63 : l.length + zs.length ≤ 1073741824) (hbase : base ≤ w.heap.size)
    (h : ∀ v' w', w'.ownsRow base e 1 v' (l ++ zs).length (ints (l ++ zs)) → w.grownBy w' v.ownBlock → (v'.ownBlock = v.ownBlock ∨ v'.ownBlock = some w.heap.size) → wpList P ops Q rest (a.put o.dst v') w') :
    wpList P ops Q (o :: rest) a w := by
  subst hn
  obtain ⟨ad, rfl, _⟩ := hin.2.1 hpos
  refine wpList_append_own_at _ hgd s x t ho base e i (.int .i64 0) 1 8 ht hi hz hsize hby rfl (by decide) v l.length (ints l) hs hown ad zs.length c (ints zs) hx (by rw [ints_length, Nat.mul_one]) hin.cells_at (ints_cell _) (by unfold maxLen; omega) (by omega) hbase ?_
  intro v' w' h2 h3 _ h5
  refine h v' w' ?_ h3 h5
  rw [ints_append, List.length_append]
  exact h2
/-- .. of one element -/
theorem append_int_at {P : Program} (w : World) {ops : Array Oper} {rest : List Oper} {o : Oper} {a : Act} {Q : Exit → Act → World → Prop} (hgd : o.guard = none) (s x : Operand) (t : TypeId)
    (ho : o.op = .call { callee := .builtin .append, args := #[s, x], argTypes := #[t, t] })
    (base : Nat) (e : TypeId) (i : TypeInfo) (ht : P.underlying t = some (.slice e)) (hi : P.info? e = some i) (hz : i.zero = some (.int .i64 0))
    (hsize : i.size = 1) (hby : i.bytes = 8) (v : Value) (n : Nat) (l : List Int) (hs : a.eval s = v) (hown : w.ownsRow base e 1 v n (ints l)) (hn : n = l.length)
    (b : Int) (hx : a.eval x = .slice (some ⟨w.heap.size, 0, none⟩) 1 1)
    (h63 : l.length + 1 ≤ 1073741824) (hbase : base ≤ w.heap.size)
    (h : ∀ v' w', w'.ownsRow base e 1 v' (l ++ [b]).length (ints (l ++ [b])) → (w.alloc (.cells #[.int .i64 b] e)).grownBy w' v.ownBlock → (v'.ownBlock = v.ownBlock ∨ v'.ownBlock = some (w.heap.size + 1)) → wpList P ops Q rest (a.put o.dst v') w') :
    wpList P ops Q (o :: rest) a (w.alloc (.cells #[.int .i64 b] e)) := by
  have hsz : (w.alloc (.cells #[.int .i64 b] e)).heap.size = w.heap.size + 1 := by simp
  refine append_ints (w.alloc (.cells #[.int .i64 b] e)) hgd s x t ho base e i ht hi hz hsize hby v n l hs (hown.alloc _) hn (B := w.heap.size + 1) [b] (some ⟨w.heap.size, 0, none⟩) 1 hx ?_ (by simp) (by simpa using h63) (by omega) ?_
  · refine ⟨rfl, fun _ => ⟨_, rfl, Nat.lt_succ_self _⟩, fun ad he k hk => ?_⟩
    obtain rfl : (⟨w.heap.size, 0, none⟩ : Addr) = ad := by injection he
    obtain rfl : k = 0 := by simpa using hk
    simp [Addr.add, Zs.at]
  · intro v' w' h1 h2 h3
    rw [hsz] at h3
    exact h v' w' h1 h2 h3

end Go.Proofs.Ytkccnlcghlkioaa
