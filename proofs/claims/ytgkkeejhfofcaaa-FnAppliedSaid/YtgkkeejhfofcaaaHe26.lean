/- Texts of one claim laid into one file, in build order: NearD, NearE, OcF. -/
import Derived.Test.YtgkkeejhfofcaaaHe14
import Derived.Test.YtgkkeejhfofcaaaHe21
import Derived.Test.YtgkkeejhfofcaaaHe22
import Derived.Test.YtgkkeejhfofcaaaHe5
import Derived.Deep.RegionHeld3
import Derived.Outline
/- Contracts (NearD). -/
namespace Go.Proofs.Ytgkkeejhfofcaaa
open Go.RowKit
set_option linter.unusedVariables false

theorem grown_drewN {w w' : World} {r : Option Nat} (h : w.grownBy w' r) (n : Nat) : w.grownBy (w'.drewN n) r := ⟨h.os, h.tape, h.output, h.size, h.block⟩
theorem CurX.drawn {w1 w2 : World} {B : Nat} {k : Code} (h : CurX w1 B k) (hd : Drawn w1 w2) : CurX w2 B k := by obtain ⟨m, rfl⟩ := hd; exact h.drewN m
set_option maxHeartbeats 800000 in
set_option maxRecDepth 100000 in
theorem l3Copy_ex (ad : Addr) (n c : Nat) (xs : Tr) (w : World) (h : NdIn w w.heap.size (some ad) n xs) (hn : n ≤ 1048576) :
    Calls Try.prog 54 #[.slice (some ad) n c] w fun e w' => ∃ A' c', e = .returned (.slice A' n c') ∧ w'.ownsRow w.heap.size 47 2 (.slice A' n c') n (Tr.cells xs) ∧ w.grownBy w' none := by
  have H := Lib.hid h
  clear h
  have HL := Lib.hid H.out.1
  obtain ⟨i0, hi, hz0, hz1, hz2⟩ := info_parts info_ndD
  go_enter Try.func54, Try.ntmps54
  go_wp2_with (at_builtin; refine wpList_append_own (World.alloc w (.cells #[] 47)) rfl _ _ 24 rfl w.heap.size 47 i0 (.agg #[.int .i64 0, .int .i64 0]) 2 16 Try.underlying24 hi hz0 hz1 hz2 rfl (by omega) (.slice (some ⟨w.heap.size, 0, none⟩) 0 0) 0 [] rfl (World.ownsRow_lit w #[] 0 (Nat.le_refl _) (Nat.zero_le _) rfl) ad n c (Tr.cells xs) rfl (by rw [Tr.cells_length, HL.out]) (NdIn.cells_at (H.out.to_below ((Below.refl _ _).alloc (Nat.le_refl _) _))) (Tr.cells_cell xs) (by unfold maxLen; omega) (by omega) (by simp) ?_; intro v' w1 hown1 hgrow1 hnil1)
  clear hnil1
  have hown2 : w1.ownsRow w.heap.size 47 2 v' n (Tr.cells xs) := by simpa using hown1
  obtain ⟨A', c', rfl⟩ := own_slice hown2
  have hg : w.grownBy w1 none := (Kit.grown_alloc w (.cells #[] 47) none).andThen hgrow1 (fun j hj => .inl (by simp [Value.ownBlock] at hj; omega))
  go_ret
  exact ⟨A', c', rfl, hown2, hg⟩
section
variable {B b0 m cp g2 : Nat} {k : Code} {ys : Tr} {w0 wx wq : World}
end
section
variable {B b0 m cp g2 o : Nat} {k : Code} {ys : Tr} {w0 wx wq : World} {u : Option Value}
end
theorem step_append_nodes {P : Program} {ops : Array Oper} {o : Oper} {a : Act} (w : World) {K : Act → World → Prop} {Q : Exit → Act → World → Prop} {E : Prop} (hgd : o.guard = none) (s x : Operand) (t : TypeId)
    (ho : o.op = .call { callee := .builtin .append, args := #[s, x], argTypes := #[t, t] })
    (base : Nat) (e : TypeId) (i : TypeInfo) (ht : P.underlying t = some (.slice e)) (hi : P.info? e = some i) (hz : i.zero = some (.agg #[.int .i64 0, .int .i64 0]))
    (hsize : i.size = 2) (hby : i.bytes = 16) (v : Value) (n m N : Nat) (l zs : Tr) (hs : a.eval s = v) (hown : w.ownsRow base e 2 v n (Tr.cells l))
    {B : Nat} (ad : Addr) (c : Nat) (hx : a.eval x = .slice (some ad) m c) (hin : NdIn w B (some ad) m zs) (hN : n + m = N)
    (h63 : N ≤ 1073741824) (hbase : base ≤ w.heap.size)
    (h : ∀ v' w', w'.ownsRow base e 2 v' N (Tr.cells (l ++ zs)) → w.grownBy w' v.ownBlock → K (a.put o.dst v') w') :
    if Region.wanted o (yielded ops a.tmps) = true then Oper.wp P o a w K Q else E := by
  have hw : Region.wanted o (yielded ops a.tmps) = true := by simp [Region.wanted, hgd]
  rw [if_pos hw]
  subst hN
  refine wp_append_own _ s x t ho base e i (.agg #[.int .i64 0, .int .i64 0]) 2 16 ht hi hz hsize hby rfl (by decide) v n (Tr.cells l) hs hown ad m c (Tr.cells zs) hx (by rw [Tr.cells_length, hin.1]) hin.cells_at (Tr.cells_cell _) (by unfold maxLen; omega) (by omega) hbase ?_
  intro v' w' h2 h3 _
  refine h v' w' ?_ h3
  rw [Tr.cells_append]
  exact h2
end Go.Proofs.Ytgkkeejhfofcaaa

/- Contracts (NearE). -/
namespace Go.Proofs.Ytgkkeejhfofcaaa
open Go.RowKit
set_option linter.unusedVariables false

set_option maxHeartbeats 800000 in
set_option maxRecDepth 100000 in
/-- a copy of nodes, wherever they lie -/
theorem l3Copy_all (A : Option Addr) (n c : Nat) (xs : Tr) (w : World) (h : NdIn w w.heap.size A n xs) (hn : n ≤ 1048576) :
    Calls Try.prog 54 #[.slice A n c] w fun e w' => ∃ A' c', e = .returned (.slice A' n c') ∧ w'.ownsRow w.heap.size 47 2 (.slice A' n c') n (Tr.cells xs) ∧ w.grownBy w' none := by
  cases A with
  | some ad => exact l3Copy_ex ad n c xs w h hn
  | none =>
    rcases Nat.eq_zero_or_pos n with rfl | h0
    · have hx : xs = [] := List.eq_nil_of_length_eq_zero h.1
      subst hx
      clear h
      go_enter Try.func54, Try.ntmps54
      go_wp2
      go_ret
      exact ⟨some ⟨w.heap.size, 0, none⟩, 0, rfl, World.ownsRow_lit w #[] 0 (Nat.le_refl _) (Nat.zero_le _) rfl, Kit.grown_alloc w _ none⟩
    · obtain ⟨_, e, _⟩ := h.2.1 h0
      cases e
end Go.Proofs.Ytgkkeejhfofcaaa

/- Contracts (OcF). -/
namespace Go.Proofs.Ytgkkeejhfofcaaa
open Go.RowKit
set_option linter.unusedVariables false

/-- from which node an insertion adopts, and up to which; 0 where nothing is put in -/
def Oc.fromN (xs : Tr) (o : Opr) (x : Int) : Int := if Oc.code xs o x = 0 ∧ o.k = 3 then ((Tr.cut xs x.toNat o.f.toNat : Nat) : Int) else 0
def Oc.toN (xs : Tr) (o : Opr) (x : Int) : Int := if Oc.code xs o x = 0 ∧ o.k = 3 then ((Tr.cut xs x.toNat (o.f.toNat + o.c.toNat) : Nat) : Int) else 0
theorem Oc.ft_code {xs : Tr} {o : Opr} {x : Int} (h : Oc.code xs o x ≠ 0) : Oc.fromN xs o x = 0 ∧ Oc.toN xs o x = 0 := by unfold Oc.fromN Oc.toN; rw [if_neg (fun e => h e.1), if_neg (fun e => h e.1)]; exact ⟨rfl, rfl⟩
theorem Oc.ft_kind {xs : Tr} {o : Opr} {x : Int} (h : o.k ≠ 3) : Oc.fromN xs o x = 0 ∧ Oc.toN xs o x = 0 := by unfold Oc.fromN Oc.toN; rw [if_neg (fun e => h e.2), if_neg (fun e => h e.2)]; exact ⟨rfl, rfl⟩
theorem Oc.ft_ins {xs : Tr} {o : Opr} {i : Nat} (h : Oc.code xs o (i : Int) = 0) (h3 : o.k = 3) : Oc.fromN xs o (i : Int) = ((Tr.cut xs i o.f.toNat : Nat) : Int) ∧ Oc.toN xs o (i : Int) = ((Tr.cut xs i (o.f.toNat + o.c.toNat) : Nat) : Int) := by unfold Oc.fromN Oc.toN; rw [if_pos ⟨h, h3⟩, if_pos ⟨h, h3⟩, Int.toNat_natCast]; exact ⟨rfl, rfl⟩

end Go.Proofs.Ytgkkeejhfofcaaa
