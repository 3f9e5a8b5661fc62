/- Contracts (KidRankS). -/
import Derived.Test.YtkpogjfaimpkdaaPst2
import Derived.Test.YtkpogjfaimpkdaaParS
import Derived.Test.YtkpogjfaimpkdaaKidS
import Derived.Test.YtkpogjfaimpkdaaMem
namespace Go.Proofs.Ytkpogjfaimpkdaa
open Go.RowKit
set_option linter.unusedVariables false

set_option maxHeartbeats 1600000 in
set_option maxRecDepth 100000 in
theorem specKidRank_any (A : Option Addr) (n c : Nat) (xs : Tr) (i : Int) (w : World) (h : NdIn w w.heap.size A n xs) (hn : n ≤ 1048576) :
    Calls Try.prog 45 #[.slice A n c, .int .i64 i] w fun e w' => e = .returned (.int .i64 (Tr.kidRank xs i)) ∧ Below w.heap.size w w' := by
  have H := Lib.hid h
  clear h
  obtain ⟨p, hp⟩ : ∃ p, p = Tr.parentOf xs i := ⟨_, rfl⟩
  have HP := Lib.hid hp
  by_cases h0 : p < 0
  · have Hf := Lib.hid (show Tr.kidRank xs i = -1 by unfold Tr.kidRank; rw [if_pos (by rw [← hp]; exact h0)])
    have e0 : decide (p < 0) = true := by simpa using h0
    clear hp
    go_enter Try.func45, Try.ntmps45
    go_wp2_with fail
    refine (specParentOf_any _ _ _ xs _ _ H.out hn).mono ?_
    rintro e w1 ⟨rfl, hd⟩
    have HB := Lib.hid (hd.toBelow (B := w.heap.size))
    clear hd
    rw [← HP.out]
    go_wp2
    go_ret
    exact ⟨by rw [Hf.out]; rfl, HB.out⟩
  · have Hf := Lib.hid (show Tr.kidRank xs i = Zs.find (Tr.kidsI xs p) i 0 by unfold Tr.kidRank; rw [if_neg (by rw [← hp]; exact h0), ← hp]; rfl)
    have e0 : decide (p < 0) = false := by simpa using h0
    have hlen := Tr.kidsI_len xs p
    rw [H.out.1] at hlen
    obtain ⟨Z, hZ⟩ : ∃ Z, Z = Tr.kidsI xs p := ⟨_, rfl⟩
    have HZ := Lib.hid hZ
    rw [← hZ] at Hf hlen
    have HFS := Lib.hid (fun k => Zs.find_step Z i k)
    clear hp hZ
    go_enter Try.func45, Try.ntmps45
    go_wp2_with fail
    refine (specParentOf_any _ _ _ xs _ _ H.out hn).mono ?_
    rintro e w1 ⟨rfl, hd⟩
    have HB := Lib.hid (hd.toBelow (B := w.heap.size))
    have H1 := Lib.hid (H.out.to_drawn hd)
    clear hd
    rw [← HP.out]
    go_wp2_with fail
    refine (specKidsOf_any _ _ _ xs _ _ H1.out hn).mono ?_
    rintro e w2 ⟨A2, c2, rfl, ho, hb⟩
    have hsx := HB.out.size
    have HB := Lib.hid (HB.out.trans (hb.mono hsx))
    have I2 := Lib.hid (IntIn.of_own ho)
    clear ho hsx
    clear hb
    rw [← HZ.out] at I2 ⊢
    go_wp2
    go_loop [7] (fun kv => ∃ k : Nat, k ≤ Z.length ∧ kv = .int .i64 k ∧ Zs.find Z i 0 = Zs.find (Z.drop k) i k) (fun k => Z.length - (intOf k).toNat)
    case atStart => exact ⟨0, Nat.zero_le _, rfl, rfl⟩
    case round =>
      obtain ⟨k, hk, rfl, hfi⟩ := hrel
      have HI := Lib.hid hfi
      clear hfi
      by_cases hlt : k < Z.length
      · have hfs := HFS.out k hlt
        obtain ⟨ad, rfl, _, c1⟩ := I2.out.at_ hlt
        have hz : Zs.at Z k = Z.getD k 0 := rfl
        rw [hz] at c1
        obtain ⟨x, hx⟩ : ∃ x, x = Z.getD k 0 := ⟨_, rfl⟩
        rw [← hx] at c1 hfs
        clear hx hz
        have k0 : (0 : Int) ≤ (k : Int) := by omega
        have k1 : (k : Int) < (Z.length : Int) := by omega
        by_cases hq : x = i
        · have q : (x == i) = true := by simpa using hq
          rw [if_pos hq] at hfs
          have Hs := Lib.hid (HI.out.trans hfs)
          clear hq hfs
          go_wp2
          go_ret
          exact ⟨by rw [Hf.out, Hs.out]; rfl, HB.out⟩
        · have q : (x == i) = false := by simpa using hq
          rw [if_neg hq] at hfs
          have Hs := Lib.hid (HI.out.trans hfs)
          clear hq hfs
          go_wp2
          go_round
          case rel => exact ⟨k + 1, by omega, by go_num, Hs.out⟩
          case measure => simp [intOf]; omega
      · obtain rfl : k = Z.length := by omega
        have Hs := Lib.hid (show Zs.find Z i 0 = -1 by rw [HI.out, List.drop_length]; rfl)
        go_wp2
        go_ret
        exact ⟨by rw [Hf.out, Hs.out]; rfl, HB.out⟩

end Go.Proofs.Ytkpogjfaimpkdaa
