/- Contracts (GrpK). -/
import Derived.Test.YtlndaflhlkbedaaCom
import Derived.Test.YtlndaflhlkbedaaNdPt
import Derived.Test.YtlndaflhlkbedaaRows
import Derived.Maps.GroupsBeside
import Derived.Maps.OwnRows
import Derived.Maps.Views
import Derived.Maps.RangeWalk
namespace Go.Proofs.Ytlndaflhlkbedaa
open Go.RowKit
set_option linter.unusedVariables false

open Go.Maps Go.MapKept Go.ChangeMaps Go.WideShapes Go.ChangeShapes
open Go.WideElems (Fit)

/-- what a key reads as -/
def gpRow (zs : List Int) : DataW Unit := if zs = [] then .nil else .slice (lits .i64 zs) []
theorem gpLaw : Keyed Try.prog 3 := int_keyed Try.underlying3
theorem gpZero (w : World) : (zeroValue 25).run Try.prog w = .ok (.slice none 0 0) w := by kernel_rfl
/-- block b holds where each key leads by the first k pairs -/
def Grp (ns : Tr) (b k : Nat) (w : World) : Prop :=
  ∃ D : DataW Unit, w.ownsGroups Try.prog 3 (b + 1) 3 .i64 b k D ∧ ∀ a : Int, (Lit.int .i64 a).wf = true → D.atKey (.int .i64 a) .nil = gpRow (Cp.out ns a k)
theorem Grp.made (w : World) (ns : Tr) : Grp ns w.heap.size 0 (w.alloc (.map #[] 0)) := ⟨.map [], World.ownsGroups_made _ _ _ _ _, fun a _ => rfl⟩
theorem gp_lits : ∀ {xs ys : List Int}, lits .i64 xs = (lits .i64 ys : List (DataW Unit)) → xs = ys := by
  intro xs ys h
  unfold lits at h
  exact (List.map_inj_right (fun a b hab => by cases hab; rfl)).1 h
theorem gp_row {w : World} {base : Nat} {e : TypeId} {v : Value} {zs out : List Int} (h : w.ownsInts base e .i64 v zs) (he : gpRow out = rowDatum .i64 v zs) : zs = out := by
  unfold gpRow at he
  rcases h.datum (H := Unit) with ⟨h1, h2⟩ | h1
  · rw [h1] at he
    by_cases e0 : out = []
    · rw [h2, e0]
    · rw [if_neg e0] at he; cases he
  · rw [h1] at he
    by_cases e0 : out = []
    · rw [if_pos e0] at he; cases he
    · rw [if_neg e0] at he
      simp only [DataW.slice.injEq] at he
      exact (gp_lits he.1).symm
theorem Grp.look {ns : Tr} {b k : Nat} {w : World} (h : Grp ns b k w) (hk : k < maxLen) {a : Int} (ha : (Lit.int .i64 a).wf = true) :
    ∃ v, (Instr.lookup 119 (.map (some b)) (.int .i64 a) false).run Try.prog w = .ok v w ∧ w.ownsInts (b + 1) 3 .i64 v (Cp.out ns a k) ∧
      (a = Tr.l ns k → ∀ (w1 : World) (v' : Value), w.grownBy w1 v.ownBlock → w1.ownsInts (b + 1) 3 .i64 v' (Cp.out ns a k ++ [Tr.d ns k]) → (v'.ownBlock = v.ownBlock ∨ ∃ g, v'.ownBlock = some g ∧ w.heap.size ≤ g) →
        ∃ w2, (Instr.mapUpdate 119 (.map (some b)) (.int .i64 a) v').run Try.prog w1 = .ok () w2 ∧ Grp ns b (k + 1) w2 ∧ w1.grownBy w2 (some b)) := by
  obtain ⟨D, hD, hat⟩ := h
  have hkey : keyOf Try.prog 3 (.int .i64 a) = some (.int .i64 a) := keyOf_int_mk Try.underlying3 ha
  obtain ⟨v, zs, hrun, he, ho, hl, hback⟩ := hD.at gpLaw Try.underlying119 (gpZero w) hk hkey
  obtain rfl := gp_row ho ((hat a ha).symm.trans he)
  refine ⟨v, hrun, ho, fun hal w1 v' hg ho' hloc => ?_⟩
  obtain ⟨w2, h1, h2, h3⟩ := hback w1 v' _ hg ho' (by rw [List.length_append, List.length_singleton]; omega) hloc
  refine ⟨w2, h1, ⟨_, h2, fun c hc => ?_⟩, h3⟩
  have hm : IsMap D := by obtain ⟨es, clock, _, _, _, rfl, _⟩ := hD; exact ⟨_, rfl⟩
  by_cases e : c = a
  · subst e
    rw [atKey_put_same hm (gpLaw.key hkey), Cp.out_yes hal]
    rw [ho'.datum_pos (by simp)]
    unfold gpRow
    rw [if_neg (by simp)]
  · rw [atKey_put_other (fun hh => e (by cases hh; rfl)), hat c hc, Cp.out_no (fun hh => e (hh.trans hal.symm))]
theorem Grp.below {ns : Tr} {b k : Nat} {w w' : World} (h : Grp ns b k w) (hb : Below w.heap.size w w') : Grp ns b k w' := by
  obtain ⟨D, hD, hat⟩ := h
  refine ⟨D, hD.kept (row := none) ⟨hb.os, hb.tape, hb.output, hb.size, fun k hk _ => hb.block k hk⟩ (by simp) (fun es clock _ x _ => ?_), hat⟩
  rcases x.val.ownBlock with _ | g <;> simp

end Go.Proofs.Ytlndaflhlkbedaa
