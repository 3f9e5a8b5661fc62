/- Contracts (CloneI). -/
import Derived.Test.YtkpogjfaimpkdaaRows
import Derived.Test.YtkpogjfaimpkdaaRes
import Derived.Outline
namespace Go.Proofs.Ytkpogjfaimpkdaa
open Go.RowKit
set_option linter.unusedVariables false

theorem info_ndC : (Try.prog.info? 32).map (fun i => (i.zero, i.size, i.bytes)) = some (some (.agg #[.int .i64 0, .int .i64 0]), 2, 16) := by kernel_rfl

set_option maxHeartbeats 800000 in
set_option maxRecDepth 100000 in
theorem cloneNode_any (ad : Addr) (n c : Nat) (xs : Tr) (w : World) (h : NdIn w w.heap.size (some ad) n xs) (hn : n ≤ 1048576) :
    Calls Try.prog 54 #[.slice (some ad) n c] w (OwnNodes 32 xs w) := by
  have H := Lib.hid h
  clear h
  have HL := Lib.hid H.out.1
  obtain ⟨i0, hi, hz0, hz1, hz2⟩ := info_parts info_ndC
  have hnil := fun W : World => Lib.run_eql_slice_nil (P := Try.prog) W
  go_enter Try.func54, Try.ntmps54
  go_wp2_with (at_builtin; refine wpList_append_own (World.alloc w (.cells #[] 32)) rfl _ _ 24 rfl w.heap.size 32 i0 (.agg #[.int .i64 0, .int .i64 0]) 2 16 Try.underlying24 hi hz0 hz1 hz2 rfl (by omega) (.slice (some ⟨w.heap.size, 0, none⟩) 0 0) 0 [] rfl (World.ownsRow_lit w #[] 0 (Nat.le_refl _) (Nat.zero_le _) rfl) ad n c (Tr.cells xs) rfl (by rw [Tr.cells_length, HL.out]) (NdIn.cells_at (H.out.to_below ((Below.refl _ _).alloc (Nat.le_refl _) _))) (Tr.cells_cell xs) (by unfold maxLen; omega) (by omega) (by simp) ?_; intro v' w1 hown1 hgrow1 hnil1)
  clear hnil1 hnil
  have hown2 : w1.ownsRow w.heap.size 32 2 v' n (Tr.cells xs) := by simpa using hown1
  obtain ⟨A', c', rfl⟩ := own_slice hown2
  have hb : Below w.heap.size w w1 := ((Below.refl w.heap.size w).alloc (Nat.le_refl _) _).grown hgrow1 (by simp) (fun k hk => by simp [Value.ownBlock] at hk; omega)
  go_ret
  exact ⟨A', c', by rw [HL.out]; rfl, by rw [HL.out]; exact hown2, hb⟩

end Go.Proofs.Ytkpogjfaimpkdaa
