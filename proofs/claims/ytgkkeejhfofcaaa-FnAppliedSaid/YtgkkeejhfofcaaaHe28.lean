/- Texts of one claim laid into one file, in build order: SubS, ShS. -/
import Derived.Test.YtgkkeejhfofcaaaHe2
import Derived.Test.YtgkkeejhfofcaaaHe5
import Derived.Test.YtgkkeejhfofcaaaHe7
import Derived.Outline
/- Contracts (SubS). -/
namespace Go.Proofs.Ytgkkeejhfofcaaa
open Go.RowKit
set_option linter.unusedVariables false

theorem info_ndS : (Try.prog.info? 47).map (fun i => (i.zero, i.size, i.bytes)) = some (some (.agg #[.int .i64 0, .int .i64 0]), 2, 16) := by kernel_rfl

end Go.Proofs.Ytgkkeejhfofcaaa

/- Contracts (ShS). -/
namespace Go.Proofs.Ytgkkeejhfofcaaa
open Go.RowKit
set_option linter.unusedVariables false

set_option maxHeartbeats 800000 in
set_option maxRecDepth 100000 in
theorem l13Shift_any (A : Option Addr) (n c : Nat) (xs : Tr) (f t : Nat) (dd : Int) (w : World) (h : NdIn w w.heap.size A n xs) (hn : n ≤ 1048576) (hok : Tr.ok xs = true) (hft : f ≤ t) (ht : t ≤ n) (hd : -4000 ≤ dd ∧ dd ≤ 4000) :
    Calls Try.prog 81 #[.slice A n c, .int .i64 (f : Int), .int .i64 (t : Int), .int .i64 dd] w (OwnNodes 47 (Tr.sh xs f t dd) w) := by
  have H := Lib.hid h
  clear h
  have HL := Lib.hid H.out.1
  have hbd := Lib.hid fun k => Tr.ok_at (xs := xs) hok (k := k)
  have HS := Lib.hid (fun (k : Nat) (h : f ≤ k) => Tr.sh_succ xs (f := f) (t := k) dd h)
  clear hok
  obtain ⟨i0, hi, hz0, hz1, hz2⟩ := info_parts info_ndS
  go_enter Try.func81, Try.ntmps81
  go_wp2
  go_loopw [10, 9] (fun kv ov wr => ∃ k : Nat, f ≤ k ∧ k ≤ t ∧ kv = .int .i64 k ∧ wr.ownsRow w.heap.size 47 2 ov (Tr.sh xs f k dd).length (Tr.cells (Tr.sh xs f k dd)) ∧ Below w.heap.size w wr) (fun k _ _ => n - (intOf k).toNat)
  case atStart => exact ⟨f, by omega, by omega, rfl, by rw [Tr.sh_nil]; exact World.ownsRow_lit w #[] 0 (Nat.le_refl _) (Nat.zero_le _) rfl, (Below.refl _ _).alloc (Nat.le_refl _) _⟩
  case round =>
    obtain ⟨k, hjk, hk, rfl, hown, hB⟩ := hrel
    have hz := Lib.hid (H.out.to_below hB)
    have Ho := Lib.hid hown
    have HB := Lib.hid hB
    have hsz2 := HB.out.size
    clear hown hB
    by_cases hlt : k < t
    · obtain ⟨ad, rfl, hb, hl, hd⟩ := hz.out.at_ (k := k) (by omega)
      have Hs := Lib.hid (HS.out k hjk)
      have Hlen := Lib.hid (Tr.sh_len xs f k dd)
      have hk0 : (0 : Int) ≤ (k : Int) := by omega
      have hbk := (hbd.out k (by rw [HL.out]; omega)).2.1
      have hklt : (k : Int) < (n : Int) := by omega
      have a5 : IntKind.i64.wrap (Tr.d xs k + dd) = Tr.d xs k + dd := Kit.w64 (by omega) (by omega)
      go_wp2
      go_region_law ((refine step_append_node wr.drew rfl _ _ 24 rfl w.heap.size 47 i0 Try.underlying24 hi hz0 hz1 hz2 u9 (Tr.sh xs f k dd).length (Tr.sh xs f k dd) rfl Ho.out.drew rfl (Tr.l xs k) (Tr.d xs k + dd) rfl (by rw [Hlen.out]; omega) hsz2 ?_; intro v' w3 hown3 hgrow3))
      all_goals
        clear a5
        have hb3 := Kit.below_own HB.out.drew Ho.out.drew hgrow3
        go_wp2
        go_roundw
        case rel => exact ⟨k + 1, by omega, by omega, by go_num, by rw [Hs.out]; exact hown3, hb3⟩
        case measure => simp [intOf]; omega
    · obtain rfl : k = t := by omega
      obtain ⟨A', c', rfl⟩ := own_slice Ho.out
      go_wp2
      go_ret
      exact ⟨A', c', rfl, Ho.out, HB.out⟩

end Go.Proofs.Ytgkkeejhfofcaaa
