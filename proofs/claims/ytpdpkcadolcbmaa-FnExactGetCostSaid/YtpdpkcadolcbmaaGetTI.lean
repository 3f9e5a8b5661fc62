/- Contracts (GetTI). -/
import Derived.Test.YtpdpkcadolcbmaaGetM
import Derived.Test.YtpdpkcadolcbmaaReadVarI
import Derived.Test.YtpdpkcadolcbmaaRes
import Derived.Outline
namespace Go.Proofs.Ytpdpkcadolcbmaa
open Go.RowKit
set_option linter.unusedVariables false

theorem info_intG : (Try.prog.info? 3).map (fun i => (i.zero, i.size, i.bytes)) = some (some (.int .i64 0), 1, 8) := by kernel_rfl
set_option maxHeartbeats 1600000 in
set_option maxRecDepth 100000 in
theorem getTable_any (s : ByteArray) (hs : s.size ≤ maxLen) (m : Nat) (hm : m ≤ 1000) (w : World) :
    Calls Try.prog 55 #[.string s, .int .i64 m] w fun e w' => ∃ A c, e = .returned (.tuple #[.slice A (Zs.getTo m s).1.length c, .string (Zs.getTo m s).2]) ∧ w'.ownsRow w.heap.size 3 1 (.slice A (Zs.getTo m s).1.length c) (Zs.getTo m s).1.length (ints (Zs.getTo m s).1) ∧ Below w.heap.size w w' := by
  obtain ⟨i0, hi, hz0, hz1, hz2⟩ := info_parts info_intG
  have Hi := Lib.hid hi
  clear hi
  obtain ⟨G, hG⟩ : ∃ G, G = Zs.getTo m s := ⟨_, rfl⟩
  rw [← hG]
  have HG := Lib.hid hG
  clear hG
  have Hs := Lib.hid hs
  clear hs
  go_enter Try.func55, Try.ntmps55
  go_wp2
  go_loopw [10, 6, 0] (fun iv tv sv wr => ∃ (k : Nat) (acc : List Int) (t : ByteArray), k ≤ m ∧ iv = .int .i64 k ∧ acc.length = k ∧ wr.ownsRow w.heap.size 3 1 tv k (ints acc) ∧ sv = .string t ∧ t.size ≤ maxLen ∧ G = (acc ++ (Zs.getTo (m - k) t).1, (Zs.getTo (m - k) t).2) ∧ Below w.heap.size w wr) (fun i _ _ _ => m - (intOf i).toNat)
  case atStart => exact ⟨0, [], s, Nat.zero_le _, rfl, rfl, own_nil, rfl, Hs.out, HG.out, Below.refl _ _⟩
  case round =>
    clear Hs
    obtain ⟨k, acc, t, hk, rfl, hlen, hown, rfl, ht, hI, hB⟩ := hrel
    have HL := Lib.hid hlen
    have Ho := Lib.hid hown
    have HT := Lib.hid ht
    have HI := Lib.hid hI
    have HB := Lib.hid hB
    clear hlen hown ht hI hB
    obtain ⟨A', c', rfl⟩ := own_slice Ho.out
    by_cases hlt : k < m
    · by_cases h1 : Num.rvK t = 0
      · have HR := Lib.hid (show G = (acc, t) by rw [HI.out, Zs.getTo_no h1]; simp)
        have e0 : ((Num.rvK t : Int) == 0) = true := by rw [h1]; rfl
        clear h1
        go_wp2_with fail
        refine (implReadVar_any t HT.out _).mono ?_
        rintro e w2 ⟨rfl, hb⟩
        have Ho := Lib.hid (own_below Ho.out hb)
        have HB := Lib.hid (HB.out.trans (hb.mono HB.out.size))
        clear hb
        go_wp2
        go_ret2
        refine ⟨A', c', ?_, ?_, HB.out⟩
        · rw [HR.out, HL.out]; rfl
        · rw [HR.out, HL.out]; exact Ho.out
      · have hkl := Num.rvK_le t
        have HN := Lib.hid (show G = ((acc ++ [(Num.rvN t : Int)]) ++ (Zs.getTo (m - (k + 1)) (Num.rest t (Num.rvK t))).1, (Zs.getTo (m - (k + 1)) (Num.rest t (Num.rvK t))).2) by
          rw [HI.out, show m - k = (m - (k + 1)) + 1 by omega, Zs.getTo_yes h1]; simp)
        have HTR := Lib.hid (show (Num.rest t (Num.rvK t)).size ≤ maxLen by rw [Num.rest_size]; have := HT.out; omega)
        have e0 : ((Num.rvK t : Int) == 0) = false := beq_eq_false_iff_ne.2 (by omega)
        have hkt : Num.rvK t ≤ t.size := hkl.2
        have htm : t.size ≤ 9223372036854775807 := HT.out
        clear h1 hkl
        go_wp2_with fail
        refine (implReadVar_any t HT.out _).mono ?_
        rintro e w2 ⟨rfl, hb⟩
        have Ho := Lib.hid (own_below Ho.out hb)
        have HB := Lib.hid (HB.out.trans (hb.mono HB.out.size))
        clear hb
        have hsx := HB.out.size
        go_wp2_with (at_builtin; go_loud (refine append_int w2 rfl _ _ 24 rfl w.heap.size 3 i0 Try.underlying24 Hi.out hz0 hz1 hz2 (.slice A' k c') k acc rfl Ho.out HL.out.symm (Num.rvN t : Int) rfl (by rw [HL.out]; omega) hsx ?_); intro v' w3 hown hgrow)
        rw [List.length_append, HL.out] at hown
        have Ho' := Lib.hid hown
        have HB' := Lib.hid ((HB.out.alloc hsx (.cells #[.int .i64 (Num.rvN t : Int)] 3)).grown hgrow (by simp; omega) (fun b hb => (Ho.out.lt b hb).1))
        clear hown hgrow
        go_wp2
        go_roundw
        case rel => exact ⟨k + 1, acc ++ [(Num.rvN t : Int)], Num.rest t (Num.rvK t), by omega, by go_num, by simp [HL.out], Ho'.out, rfl, HTR.out, HN.out, HB'.out⟩
        case measure => simp [intOf]; omega
    · obtain rfl : k = m := by omega
      have HR := Lib.hid (show G = (acc, t) by rw [HI.out, Nat.sub_self]; simp [Zs.getTo])
      go_wp2
      go_ret2
      refine ⟨A', c', ?_, ?_, HB.out⟩
      · rw [HR.out, HL.out]; rfl
      · rw [HR.out, HL.out]; exact Ho.out

end Go.Proofs.Ytpdpkcadolcbmaa
