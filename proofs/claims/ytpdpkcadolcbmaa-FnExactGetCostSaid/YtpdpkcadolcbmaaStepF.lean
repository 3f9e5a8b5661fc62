/- Contracts (StepF). -/
import Derived.Test.YtpdpkcadolcbmaaStepA
import Derived.Test.YtpdpkcadolcbmaaBoxC
import Derived.Test.YtpdpkcadolcbmaaGrow
import Derived.Test.YtpdpkcadolcbmaaRes
namespace Go.Proofs.Ytpdpkcadolcbmaa
open Go.RowKit
set_option linter.unusedVariables false

/-- out = append([]int{}, x...), x not empty, as one step of a region that draws: the row is new -/
theorem step_append_fresh {P : Program} {ops : Array Oper} {o : Oper} {a : Act} (w : World) {K : Act → World → Prop} {Q : Exit → Act → World → Prop} {E : Prop} (hgd : o.guard = none) (s x : Operand) (t : TypeId)
    (ho : o.op = .call { callee := .builtin .append, args := #[s, x], argTypes := #[t, t] })
    (e : TypeId) (i : TypeInfo) (ht : P.underlying t = some (.slice e)) (hi : P.info? e = some i) (hz : i.zero = some (.int .i64 0))
    (hsize : i.size = 1) (hby : i.bytes = 8) (ad0 : Addr) (m : Nat) (zs : List Int) (hs : a.eval s = .slice (some ad0) 0 0)
    {B : Nat} (A : Option Addr) (c : Nat) (hx : a.eval x = .slice A m c) (hin : IntIn w B A m zs) (hpos : 0 < m) (h63 : m ≤ 1073741824)
    (h : ∀ g c' w', g = w.heap.size → w'.ownsRow g e 1 (.slice (some ⟨g, 0, none⟩) m c') m (ints zs) → w.grownBy w' none → K (a.put o.dst (.slice (some ⟨g, 0, none⟩) m c')) w') :
    if Region.wanted o (yielded ops a.tmps) = true then Oper.wp P o a w K Q else E := by
  have hw : Region.wanted o (yielded ops a.tmps) = true := by simp [Region.wanted, hgd]
  rw [if_pos hw]
  obtain ⟨ad, rfl, _⟩ := hin.2.1 hpos
  have hlen : (ints zs).length = m * i.size := by rw [ints_length, hin.1, hsize, Nat.mul_one]
  have hr := run_append_grow (P := P) w t o.type e i (.int .i64 0) ht hi hz ad0 0 0 [] (by simp) (fun j v h => by simp at h) ad m c (ints zs) hlen hin.cells_at (by omega) (by omega) (growslice_fits (by omega) (by rw [hby]; omega))
  have hge := grownCap_ge w (0 + m) 0 e
  have hcm : grownCap w (0 + m) 0 e ≤ maxLen := grownCap_le_maxLen w (0 + m) 0 e (by unfold maxLen; omega)
  rw [Nat.zero_add] at hr hge hcm
  unfold Oper.wp execOp
  simp only [ho, resolve, invoke, builtin, Sem.run_bind, Sem.run_pure, Result.andThen_ok, List.map_toArray, List.map_cons, List.map_nil, hs, hx, hr]
  refine h _ _ _ rfl ⟨by rw [hlen, hsize], .inr ⟨w.heap.size, _, _, rfl, Nat.le_refl _, heap_alloc_new w.drew _, hge, hcm, ?_, ?_⟩⟩ ⟨rfl, rfl, rfl, by simp, fun k hk _ => heap_alloc_old w.drew _ hk⟩
  · simp only [Array.size_append, List.size_toArray, size_zeroCells, List.length_nil, hlen, hsize]
    simp [Value.cells]
    omega
  · simp only [Array.toList_append, List.nil_append]
    rw [Nat.mul_one, ← hin.1, ← ints_length]
    exact List.take_left
/-- the world has only grown since -/
def BelS (w0 wq : World) : Prop := Below w0.heap.size w0 wq
theorem BelS.alloc' {w0 wx : World} (h : BelS w0 wx) (o : Obj) : BelS w0 (wx.alloc o) := Below.alloc h h.size o
theorem BelS.alloc_drew {w0 wx : World} (h : BelS w0 wx.drew) (o : Obj) : BelS w0 (wx.alloc o).drew := BelS.alloc' h o
theorem BelS.on {w0 wx wq : World} (h : BelS w0 wx) (hb : Below wx.heap.size wx wq) : BelS w0 wq := Below.trans h (hb.mono h.size)
theorem BelS.set3 {w0 wx : World} {g : Nat} (h : BelS w0 wx) (hg : w0.heap.size ≤ g) (u0 u1 u2 : Value) : BelS w0 (((wx.setCell ⟨g, 0, none⟩ u0).setCell ⟨g, 1, none⟩ u1).setCell ⟨g, 2, none⟩ u2) :=
  ((Below.setCell h hg u0).setCell hg u1).setCell hg u2
theorem BelS.le {w0 wq : World} (h : BelS w0 wq) : w0.heap.size ≤ wq.heap.size := h.size
/-- a new variable of three cells, nothing stored yet -/
def Zero3 (w : World) (g : Nat) : Prop := w.heap[g]? = some (.cells #[.slice none 0 0, .slice none 0 0, .slice none 0 0] 26 (0, 0))
theorem Zero3.new {w : World} {g : Nat} (h : w.heap.size = g) : Zero3 (w.alloc (.cells #[.slice none 0 0, .slice none 0 0, .slice none 0 0] 26)) g := by subst h; exact heap_alloc_new w _
theorem Zero3.lt {w : World} {g : Nat} (h : Zero3 w g) : g < w.heap.size := by
  rcases Nat.lt_or_ge g w.heap.size with h' | h'
  · exact h'
  · unfold Zero3 at h; rw [Array.getElem?_eq_none h'] at h; cases h
theorem Zero3.on {w w' : World} {g : Nat} (h : Zero3 w g) (hg : w.grownBy w' none) : Zero3 w' g := (hg.block g h.lt (fun e => by cases e)).trans h
theorem Zero3.alloc {w : World} {g : Nat} (h : Zero3 w g) (o : Obj) : Zero3 (w.alloc o) g := h.on (World.grownBy_alloc w o none)
theorem Zero3.drew {w : World} {g : Nat} (h : Zero3 w g) : Zero3 w.drew g := h
theorem Zero3.cells {w : World} {g : Nat} (h : Zero3 w g) : w.cell? ⟨g, 0, none⟩ = some (.slice none 0 0) ∧ w.cell? ⟨g, 1, none⟩ = some (.slice none 0 0) ∧ w.cell? ⟨g, 2, none⟩ = some (.slice none 0 0) ∧ w.frozen? ⟨g, 0, none⟩ = false ∧ w.frozen? ⟨g, 1, none⟩ = false ∧ w.frozen? ⟨g, 2, none⟩ = false := by
  unfold Zero3 at h
  simp [World.cell?, World.frozen?, h]
theorem region_cut {P : Program} {c : Code} {Q : Exit → Act → World → Prop} {a : Act} {w : World} (R : Act → World → Prop) (h : ∀ a w, R a w → Q .normal a w) (h1 : c.wp P (fun e a w => e = .normal ∧ R a w) a w) : c.wp P Q a w :=
  Code.wp_mono (fun e a w hh => by obtain ⟨rfl, hh⟩ := hh; exact h a w hh) h1
/-- three rows of the call's own and the variable that holds them: what the region leaves -/
def DoneS (w0 wq : World) (D0 D1 D2 : List Int) (g10 G0 G1 G2 e0 e1 e2 : Nat) : Prop :=
  Box3 wq g10 (.slice (some ⟨G0, 0, none⟩) 6 e0) (.slice (some ⟨G1, 0, none⟩) 6 e1) (.slice (some ⟨G2, 0, none⟩) 36 e2) ∧ wq.ownsRow w0.heap.size 3 1 (.slice (some ⟨G0, 0, none⟩) 6 e0) 6 (ints D0) ∧ wq.ownsRow w0.heap.size 3 1 (.slice (some ⟨G1, 0, none⟩) 6 e1) 6 (ints D1) ∧ wq.ownsRow w0.heap.size 3 1 (.slice (some ⟨G2, 0, none⟩) 36 e2) 36 (ints D2) ∧
  (G0 ≠ G1 ∧ G0 ≠ G2 ∧ G1 ≠ G2) ∧ BelS w0 wq ∧ w0.heap.size ≤ g10 ∧ g10 < wq.heap.size
theorem DoneS.made {w0 w7 : World} {D0 D1 D2 : List Int} {G0 G1 G2 e0 e1 e2 : Nat} (o0 : w7.ownsRow G0 3 1 (.slice (some ⟨G0, 0, none⟩) 6 e0) 6 (ints D0)) (o1 : w7.ownsRow G1 3 1 (.slice (some ⟨G1, 0, none⟩) 6 e1) 6 (ints D1)) (o2 : w7.ownsRow G2 3 1 (.slice (some ⟨G2, 0, none⟩) 36 e2) 36 (ints D2))
    (h : w0.heap.size ≤ G0 ∧ G0 < G1 ∧ G1 < G2) (hB : BelS w0 w7) : DoneS w0 (w7.alloc (.cells #[.slice (some ⟨G0, 0, none⟩) 6 e0, .slice (some ⟨G1, 0, none⟩) 6 e1, .slice (some ⟨G2, 0, none⟩) 36 e2] 26)) D0 D1 D2 w7.heap.size G0 G1 G2 e0 e1 e2 :=
  ⟨Box3.made _ _ _ _ _, own_base (o0.alloc _) (by omega), own_base (o1.alloc _) (by omega), own_base (o2.alloc _) (by omega), by omega, hB.alloc' _, hB.le, by simp⟩
theorem DoneS.stored {w0 w7 : World} {D0 D1 D2 : List Int} {g10 G0 G1 G2 e0 e1 e2 : Nat} (o0 : w7.ownsRow G0 3 1 (.slice (some ⟨G0, 0, none⟩) 6 e0) 6 (ints D0)) (o1 : w7.ownsRow G1 3 1 (.slice (some ⟨G1, 0, none⟩) 6 e1) 6 (ints D1)) (o2 : w7.ownsRow G2 3 1 (.slice (some ⟨G2, 0, none⟩) 36 e2) 36 (ints D2))
    (h : w0.heap.size ≤ G0 ∧ G0 < G1 ∧ G1 < G2) (hB : BelS w0 w7) (hz : Zero3 w7 g10) (hg : w0.heap.size ≤ g10) (hne : g10 ≠ G0 ∧ g10 ≠ G1 ∧ g10 ≠ G2) :
    DoneS w0 (((w7.setCell ⟨g10, 0, none⟩ (.slice (some ⟨G0, 0, none⟩) 6 e0)).setCell ⟨g10, 1, none⟩ (.slice (some ⟨G1, 0, none⟩) 6 e1)).setCell ⟨g10, 2, none⟩ (.slice (some ⟨G2, 0, none⟩) 36 e2)) D0 D1 D2 g10 G0 G1 G2 e0 e1 e2 := by
  have hs : ∀ u0 u1 u2, w7.grownBy (((w7.setCell ⟨g10, 0, none⟩ u0).setCell ⟨g10, 1, none⟩ u1).setCell ⟨g10, 2, none⟩ u2) (some g10) := fun _ _ _ => Kit.grown_then_set (Kit.grown_then_set (Kit.grown_set _ _ _ _) _ _) _ _
  have hl := hz.lt
  refine ⟨?_, own_base (World.ownsRow.kept o0 (hs _ _ _) (.inr (by simp [Value.ownBlock]; omega))) (by omega), own_base (World.ownsRow.kept o1 (hs _ _ _) (.inr (by simp [Value.ownBlock]; omega))) (by omega), own_base (World.ownsRow.kept o2 (hs _ _ _) (.inr (by simp [Value.ownBlock]; omega))) (by omega), by omega, BelS.set3 hB hg _ _ _, hg, by simpa using hl⟩
  unfold Zero3 at hz
  refine ⟨?_, ?_, ?_⟩ <;> simp [World.cell?, World.setCell, Array.getElem?_modify, hz]
/-- a part of a row -/
theorem IntIn.part {w : World} {B n m k : Nat} {ad : Addr} {zs : List Int} (h : IntIn w B (some ad) n zs) (hk : k + m ≤ n) (hm : 0 < m) : IntIn w B (some (ad.add k)) m ((zs.take (k + m)).drop k) := by
  refine ⟨?_, fun _ => ?_, fun a ea j hj => ?_⟩
  · have := h.1
    rw [List.length_drop, List.length_take]
    omega
  · obtain ⟨a, ea, hlt⟩ := h.2.1 (by omega)
    injection ea with ea
    subst ea
    exact ⟨_, rfl, by rw [show (ad.add k).block = ad.block by unfold Addr.add; split <;> rfl]; exact hlt⟩
  · injection ea with ea
    subst ea
    have := h.2.2 ad rfl (k + j) (by omega)
    rw [Addr.add_add, this]
    congr 2
    simp only [Zs.at, List.getD_eq_getElem?_getD, List.getElem?_drop]
    rw [List.getElem?_take_of_lt (by omega)]

end Go.Proofs.Ytpdpkcadolcbmaa
