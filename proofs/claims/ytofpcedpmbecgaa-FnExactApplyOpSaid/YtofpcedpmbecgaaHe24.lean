/- Texts of one claim laid into one file, in build order: NdM, NdH, Cb10. -/
import Derived.Test.YtofpcedpmbecgaaHe15
import Derived.Test.YtofpcedpmbecgaaHe3
import Derived.Outline
import Derived.Test.YtofpcedpmbecgaaRows
/- Contracts (NdM). -/
namespace Go.Proofs.Ytofpcedpmbecgaa
open Go.RowKit
set_option linter.unusedVariables false

set_option maxHeartbeats 800000 in
set_option maxRecDepth 100000 in
theorem markNodeS_any (A : Option Addr) (n c base : Nat) (e0 : TypeId) (k0 : Int) (xs : Tr) (w : World) (h : w.ownsRow base e0 2 (.slice A n c) n (Tr.cells xs)) (hn : n ≤ 1048576) (h0 : 0 ≤ k0) (h1 : k0 ≤ 1073741824) :
    Calls Try.prog 35 #[.slice A n c, .int .i64 k0] w fun e w' => e = .returned (.int .i64 (k0 + 2 * n)) ∧ w'.ownsRow base e0 2 (.slice A n c) n (Tr.cells (Tr.marks k0 n)) ∧ w.grownBy w' (Value.ownBlock (.slice A n c)) := by
  have H := Lib.hid h
  have HL := Lib.hid (show xs.length = n by have := h.1; rw [Tr.cells_length] at this; omega)
  clear h
  go_enter Try.func35, Try.ntmps35
  go_wp2
  go_loopw [5, 1] (fun iv kv wr => ∃ j : Nat, j ≤ n ∧ iv = .int .i64 j ∧ kv = .int .i64 (k0 + 2 * j) ∧ wr.ownsRow base e0 2 (.slice A n c) n (Tr.cells (Tr.marked k0 xs j)) ∧ w.grownBy wr (Value.ownBlock (.slice A n c))) (fun i _ _ => n - (intOf i).toNat)
  case atStart => exact ⟨0, by omega, rfl, by simp, by simpa [Tr.marked, Tr.marks] using H.out, World.grownBy.refl _ _⟩
  case round =>
    obtain ⟨j, hj, rfl, rfl, hown, hgr⟩ := hrel
    by_cases hlt : j < n
    · obtain ⟨g, rfl, hg⟩ := own_form hown (by omega)
      have Ho := Lib.hid hown
      have Hg := Lib.hid hgr
      have c0 := own_even hown (k := j) (by rw [Tr.marked_length _ _ _ (by rw [HL.out]; omega), HL.out]; exact hlt)
      have c1 := own_odd hown (k := j) (by rw [Tr.marked_length _ _ _ (by rw [HL.out]; omega), HL.out]; exact hlt)
      have f0 := hown.frozenAt (j * 2)
      have f1 := hown.frozenAt (j * 2 + 1)
      clear hown hgr hg
      go_wp2
      go_roundw
      case rel =>
        refine ⟨j + 1, by omega, by go_num, by go_num, ?_, grown_tr Hg.out (grown_tr (Ho.out.stored _ _).2 ((Ho.out.stored _ _).1.stored _ _).2)⟩
        have := own_set Ho.out j (k0 + 2 * (j : Nat)) (k0 + 2 * (j : Nat) + 1)
        rw [Tr.marked_set _ _ _ (by rw [HL.out]; exact hlt)] at this
        exact this
      case measure => simp [intOf]; omega
    · obtain rfl : j = n := by omega
      have Ho := Lib.hid hown
      have Hg := Lib.hid hgr
      clear hown hgr
      go_wp2
      go_ret
      refine ⟨rfl, ?_, Hg.out⟩
      have := Ho.out
      rw [← HL.out, Tr.marked_all, HL.out] at this
      exact this

end Go.Proofs.Ytofpcedpmbecgaa

/- Contracts (NdH). -/
namespace Go.Proofs.Ytofpcedpmbecgaa
open Go.RowKit
set_option linter.unusedVariables false

set_option maxHeartbeats 800000 in
set_option maxRecDepth 100000 in
theorem heldNodeS_any (A : Option Addr) (n c base : Nat) (e0 : TypeId) (k0 : Int) (w : World) (h : w.ownsRow base e0 2 (.slice A n c) n (Tr.cells (Tr.marks k0 n))) (hn : n ≤ 1048576) (h0 : 0 ≤ k0) (h1 : k0 ≤ 1073741824) :
    Calls Try.prog 36 #[.slice A n c, .int .i64 k0] w fun e w' => e = .returned (.int .i64 (k0 + 2 * n)) ∧ w = w' := by
  have H := Lib.hid h
  clear h
  go_enter Try.func36, Try.ntmps36
  go_wp2
  go_loop [5, 1] (fun iv kv => ∃ j : Nat, j ≤ n ∧ iv = .int .i64 j ∧ kv = .int .i64 (k0 + 2 * j)) (fun i _ => n - (intOf i).toNat)
  case atStart => exact ⟨0, by omega, rfl, by simp⟩
  case round =>
    obtain ⟨j, hj, rfl, rfl⟩ := hrel
    by_cases hlt : j < n
    · obtain ⟨g, rfl, hg⟩ := own_form H.out (by omega)
      have c0 := own_even H.out (k := j) (by rw [Tr.marks_length]; exact hlt)
      have c1 := own_odd H.out (k := j) (by rw [Tr.marks_length]; exact hlt)
      rw [Tr.marks_l _ _ _ hlt] at c0
      rw [Tr.marks_d _ _ _ hlt] at c1
      clear hg
      go_wp2
      go_round
      case rel => exact ⟨j + 1, by omega, by go_num, by go_num⟩
      case measure => simp [intOf]; omega
    · obtain rfl : j = n := by omega
      go_wp2
      go_ret
      exact ⟨rfl, rfl⟩


end Go.Proofs.Ytofpcedpmbecgaa

/- Contracts (Cb10). -/
namespace Go.Proofs.Ytofpcedpmbecgaa
open Go.RowKit
set_option linter.unusedVariables false

section
variable {wa wx wy : World} {p0 p1 p2 p3 p4 p5 p6 p7 p8 p9 : Addr} {v0 v1 v2 v3 v4 v5 v6 v7 v8 v9 : Value}
theorem c10_below (h : wx.cell? p0 = some v0 ∧ wx.cell? p1 = some v1 ∧ wx.cell? p2 = some v2 ∧ wx.cell? p3 = some v3 ∧ wx.cell? p4 = some v4 ∧ wx.cell? p5 = some v5 ∧ wx.cell? p6 = some v6 ∧ wx.cell? p7 = some v7 ∧ wx.cell? p8 = some v8 ∧ wx.cell? p9 = some v9 ∧ BelA wa wx) : Below wa.heap.size wa wx := h.2.2.2.2.2.2.2.2.2.2
theorem c10_keep (h : wx.cell? p0 = some v0 ∧ wx.cell? p1 = some v1 ∧ wx.cell? p2 = some v2 ∧ wx.cell? p3 = some v3 ∧ wx.cell? p4 = some v4 ∧ wx.cell? p5 = some v5 ∧ wx.cell? p6 = some v6 ∧ wx.cell? p7 = some v7 ∧ wx.cell? p8 = some v8 ∧ wx.cell? p9 = some v9 ∧ BelA wa wx) (hb : Below wx.heap.size wx wy) : wy.cell? p0 = some v0 ∧ wy.cell? p1 = some v1 ∧ wy.cell? p2 = some v2 ∧ wy.cell? p3 = some v3 ∧ wy.cell? p4 = some v4 ∧ wy.cell? p5 = some v5 ∧ wy.cell? p6 = some v6 ∧ wy.cell? p7 = some v7 ∧ wy.cell? p8 = some v8 ∧ wy.cell? p9 = some v9 ∧ BelA wa wy := by
  have c : ∀ {p : Addr} {v : Value}, wx.cell? p = some v → wy.cell? p = some v := fun hc => (hb.cell (World.block_lt_of_cell? _ _ hc)).trans hc
  exact ⟨c h.1, c h.2.1, c h.2.2.1, c h.2.2.2.1, c h.2.2.2.2.1, c h.2.2.2.2.2.1, c h.2.2.2.2.2.2.1, c h.2.2.2.2.2.2.2.1, c h.2.2.2.2.2.2.2.2.1, c h.2.2.2.2.2.2.2.2.2.1, h.2.2.2.2.2.2.2.2.2.2.trans (hb.mono h.2.2.2.2.2.2.2.2.2.2.size)⟩
end

end Go.Proofs.Ytofpcedpmbecgaa
