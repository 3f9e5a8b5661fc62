/- Contracts (GapI). -/
import Derived.Test.YtemionefggiknaaDoorTxt2
import Derived.Test.YtemionefggiknaaDoorNames
import Derived.Test.YtemionefggiknaaDoorShelf
import Derived.Outline
namespace Go.Proofs.YtemionefggiknaaDoor
open Go.RowKit
set_option linter.unusedVariables false

/-- what stands between the names of two nodes that follow each other -/
def Txt.gap (D N : Int) : ByteArray := if D < N then ⟨#[40]⟩ else Txt.close (D - N).toNat ++ ⟨#[32]⟩
theorem Txt.gap_size {D N : Int} (h1 : 0 ≤ D ∧ D ≤ 12) (h2 : 0 ≤ N ∧ N ≤ 12) : (Txt.gap D N).size ≤ 13 := by
  unfold Txt.gap
  split
  · show 1 ≤ 13; omega
  · rw [ByteArray.size_append, Txt.close_size]
    show _ + 1 ≤ 13
    omega
theorem Tr.txtTo_gap {xs : Tr} {k : Nat} (h0 : 0 < k) : Tr.txtTo xs (k + 1) = Tr.txtTo xs k ++ (Txt.gap (Tr.d xs (k - 1)) (Tr.d xs k) ++ Lab.name (Tr.l xs k)) := by
  by_cases h : Tr.d xs (k - 1) < Tr.d xs k
  · rw [Tr.txtTo_down h0 h, show Txt.gap (Tr.d xs (k - 1)) (Tr.d xs k) = ⟨#[40]⟩ from if_pos h, show (Tr.d xs (k - 1) - Tr.d xs k).toNat = 0 by omega, Txt.nil, ByteArray.append_assoc]
  · rw [Tr.txtTo_on h0 h, show Txt.gap (Tr.d xs (k - 1)) (Tr.d xs k) = _ from if_neg h, ByteArray.append_assoc, ByteArray.append_assoc, ByteArray.append_assoc]
theorem repeat_any (c : Nat) (hc : c ≤ 1048576) (w : World) :
    Calls Tryd.prog 20 #[.string ⟨#[41]⟩, .int .i64 c] w fun e w' => e = .returned (.string (Txt.close c)) ∧ Below w.heap.size w w' := by
  refine (Tryd.strings_Repeat ⟨#[41]⟩ c w (by omega) (by show 1 * c ≤ _; omega)).mono ?_
  rintro e w' ⟨rfl, hb⟩
  exact ⟨by rw [← Txt.close_rep], hb⟩
set_option maxHeartbeats 800000 in
theorem textBetween_any (D N : Int) (h1 : 0 ≤ D ∧ D ≤ 12) (h2 : 0 ≤ N ∧ N ≤ 12) (w : World) :
    Calls Tryd.prog 19 #[.int .i64 D, .int .i64 N] w fun e w' => e = .returned (.string (Txt.gap D N)) ∧ Below w.heap.size w w' := by
  by_cases h : D < N
  · have Hf := Lib.hid (show Txt.gap D N = ⟨#[40]⟩ from if_pos h)
    have e1 : decide (D < N) = true := by simpa using h
    go_enter Tryd.func19, Tryd.ntmps19
    go_wp2
    go_ret
    exact ⟨by rw [Hf.out]; rfl, Below.refl _ _⟩
  · have Hf := Lib.hid (show Txt.gap D N = Txt.close (D - N).toNat ++ ⟨#[32]⟩ from if_neg h)
    have e1 : decide (D < N) = false := by simpa using h
    obtain ⟨c, hc⟩ := Int.eq_ofNat_of_zero_le (show 0 ≤ D - N by omega)
    have a1 : IntKind.i64.wrap (D - N) = (c : Int) := by rw [hc]; exact Kit.w64 (by omega) (by omega)
    have zc := Txt.close_size c
    have y1 : ¬ 9223372036854775807 < (Txt.close c).size + 1 := by omega
    have hc2 : c ≤ 1048576 := by omega
    have Hc := Lib.hid (show (D - N).toNat = c by omega)
    clear hc
    go_enter Tryd.func19, Tryd.ntmps19
    go_wp2_with fail
    refine (repeat_any c hc2 _).mono ?_
    rintro e w1 ⟨rfl, hb⟩
    go_wp2
    go_ret
    exact ⟨by rw [Hf.out, Hc.out]; rfl, hb⟩

end Go.Proofs.YtemionefggiknaaDoor
