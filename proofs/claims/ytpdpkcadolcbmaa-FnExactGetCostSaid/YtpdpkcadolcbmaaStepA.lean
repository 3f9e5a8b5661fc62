/- Contracts (StepA). -/
import Derived.Test.YtpdpkcadolcbmaaMem
import Derived.Test.YtpdpkcadolcbmaaDr
import Derived.Deep.RegionLaw
namespace Go.Proofs.Ytpdpkcadolcbmaa
open Go.RowKit
set_option linter.unusedVariables false

/-- out = append(out, x...) as one step of a region that draws: a row of ints of the call's own, another that reads as ints -/
theorem step_append_ints {P : Program} {ops : Array Oper} {o : Oper} {a : Act} (w : World) {K : Act → World → Prop} {Q : Exit → Act → World → Prop} {E : Prop} (hgd : o.guard = none) (s x : Operand) (t : TypeId)
    (ho : o.op = .call { callee := .builtin .append, args := #[s, x], argTypes := #[t, t] })
    (base : Nat) (e : TypeId) (i : TypeInfo) (ht : P.underlying t = some (.slice e)) (hi : P.info? e = some i) (hz : i.zero = some (.int .i64 0))
    (hsize : i.size = 1) (hby : i.bytes = 8) (v : Value) (n m N : Nat) (l zs : List Int) (hs : a.eval s = v) (hown : w.ownsRow base e 1 v n (ints l))
    {B : Nat} (A : Option Addr) (c : Nat) (hx : a.eval x = .slice A m c) (hin : IntIn w B A m zs) (hpos : 0 < m) (hN : n + m = N)
    (h63 : N ≤ 1073741824) (hbase : base ≤ w.heap.size)
    (h : ∀ v' w', w'.ownsRow base e 1 v' N (ints (l ++ zs)) → w.grownBy w' v.ownBlock → K (a.put o.dst v') w') :
    if Region.wanted o (yielded ops a.tmps) = true then Oper.wp P o a w K Q else E := by
  have hw : Region.wanted o (yielded ops a.tmps) = true := by simp [Region.wanted, hgd]
  rw [if_pos hw]
  subst hN
  obtain ⟨ad, rfl, _⟩ := hin.2.1 hpos
  refine wp_append_own _ s x t ho base e i (.int .i64 0) 1 8 ht hi hz hsize hby rfl (by decide) v n (ints l) hs hown ad m c (ints zs) hx (by rw [ints_length, hin.1, Nat.mul_one]) hin.cells_at (ints_cell _) (by unfold maxLen; omega) (by omega) hbase ?_
  intro v' w' h2 h3 _
  refine h v' w' ?_ h3
  rw [ints_append]
  exact h2
/-- a write into a row of one's own leaves what lies below the base -/
theorem below_of_own {w w' : World} {base n size : Nat} {e : TypeId} {v : Value} {ys : List Value} (h : w.ownsRow base e size v n ys) (hg : w.grownBy w' v.ownBlock) (hb : base ≤ w.heap.size) : Below base w w' :=
  (Below.refl _ w).grown hg hb (fun k hk => (h.lt k hk).1)

end Go.Proofs.Ytpdpkcadolcbmaa
