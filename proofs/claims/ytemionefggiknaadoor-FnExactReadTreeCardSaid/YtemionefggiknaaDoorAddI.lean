/- Contracts (AddI). -/
import Derived.Test.YtemionefggiknaaDoorRes4
import Derived.Test.YtemionefggiknaaDoorMem2
import Derived.Test.YtemionefggiknaaDoorLabOfI
import Derived.Test.YtemionefggiknaaDoorRd
import Derived.Outline
namespace Go.Proofs.YtemionefggiknaaDoor
open Go.RowKit
set_option linter.unusedVariables false

theorem info_ndA : (Tryd.prog.info? 35).map (fun i => (i.zero, i.size, i.bytes)) = some (some (.agg #[.int .i64 0, .int .i64 0]), 2, 16) := by kernel_rfl

set_option maxHeartbeats 1600000 in
set_option maxRecDepth 100000 in
theorem addNamed_any (base : Nat) (A : Option Addr) (c : Nat) (X : Tr) (nm : ByteArray) (d : Int) (w : World) (ho : w.ownsRow base 35 2 (.slice A X.length c) X.length (Tr.cells X)) (hl : X.length ≤ 1048576) (hb : base ≤ w.heap.size) (ht : HasNames w) :
    Calls Tryd.prog 34 #[.slice A X.length c, .string nm, .int .i64 d] w (OwnAt base 35 (Rd.flush (X, d, nm)) w) := by
  obtain ⟨i0, hi, hz0, hz1, hz2⟩ := info_parts info_ndA
  have Hi := Lib.hid hi
  have HT := Lib.hid ht
  have Ho := Lib.hid ho
  clear hi ht ho
  rcases hnm : nm.toList.isEmpty with _ | _
  · have Hf := Lib.hid (Rd.flush_yes (X := X) (d := d) hnm)
    have f1 : nm.toList.isEmpty = false := hnm
    go_enter Tryd.func34, Tryd.ntmps34
    go_wp2_with fail
    refine (implLabelOf_any nm _ HT.out).mono ?_
    rintro e w' ⟨rfl, rfl⟩
    go_wp2_with (at_builtin; go_loud (refine append_node w rfl _ _ 25 rfl base 35 i0 Tryd.underlying25 Hi.out hz0 hz1 hz2 (.slice A X.length c) X.length X rfl Ho.out rfl (Lab.of nm) d rfl (by omega) hb ?_); intro v' w6 hown hgrow)
    have hb6 := own_below_of ((Below.refl base w).alloc hb (.cells #[.int .i64 (Lab.of nm), .int .i64 d] 35)) (Ho.out.alloc _) hgrow (Nat.le_refl _) (by simp; omega)
    obtain ⟨A', c', rfl⟩ := own_slice hown
    go_wp2
    go_ret
    exact ⟨A', c', by rw [Hf.out]; rfl, by rw [Hf.out]; exact hown, hb6⟩
  · have Hf := Lib.hid (Rd.flush_no (X := X) (d := d) hnm)
    have f1 : nm.toList.isEmpty = true := hnm
    go_enter Tryd.func34, Tryd.ntmps34
    go_wp2
    go_ret
    exact ⟨A, c, by rw [Hf.out]; rfl, by rw [Hf.out]; exact Ho.out, Below.refl _ _⟩

end Go.Proofs.YtemionefggiknaaDoor
