/- Contracts (GetS). -/
import Derived.Test.YtgokllaeggdndaaNumS
import Derived.Test.YtgokllaeggdndaaMem2
import Derived.Test.YtgokllaeggdndaaLabOkS
import Derived.Outline
namespace Go.Proofs.Ytgokllaeggdndaa
open Go.RowKit
set_option linter.unusedVariables false

theorem info_ndG : (Try.prog.info? 43).map (fun i => (i.zero, i.size, i.bytes)) = some (some (.agg #[.int .i64 0, .int .i64 0]), 2, 16) := by kernel_rfl

set_option maxHeartbeats 1600000 in
set_option maxRecDepth 100000 in
theorem specGetTree_any (s : ByteArray) (hs : s.size ≤ maxLen) (w : World) :
    Calls Try.prog 36 #[.string s] w (OwnNodes2 43 (Tr.get s) w) := by
  have hs' : s.size ≤ 9223372036854775807 := hs
  have Hs := Lib.hid hs
  clear hs
  obtain ⟨i0, hi, hz0, hz1, hz2⟩ := info_parts info_ndG
  have Hi := Lib.hid hi
  clear hi
  have hk0 := Num.rvK_le s
  have Ho := Lib.hid (World.ownsRow_lit (base := w.heap.size) (e := 43) (size := 2) w #[] 0 (Nat.le_refl _) (Nat.zero_le _) rfl)
  have HB := Lib.hid ((Below.refl w.heap.size w).alloc (Nat.le_refl _) (.cells #[] 43))
  by_cases h1 : Num.rvK s = 0
  · have Hres := Lib.hid (Tr.get_n1 h1)
    have h1x : Num.rvK (Num.rest s 0) = 0 := by rw [Num.rest_zero]; exact h1
    have H1x := Lib.hid h1x
    clear h1 h1x
    go_enter Try.func36, Try.ntmps36
    go_wp2_with fail
    refine (l4Num_no s 0 (Nat.zero_le _) Hs.out H1x.out _).mono ?_
    rintro e w1 ⟨rfl, hb⟩
    have Ho := Lib.hid (own_below Ho.out hb)
    have HB := Lib.hid (HB.out.trans (hb.mono HB.out.size))
    clear hb
    go_wp2
    go_ret2
    exact ⟨_, _, by rw [Hres.out]; rfl, by rw [Hres.out]; exact Ho.out, HB.out⟩
  · obtain ⟨q, hq⟩ : ∃ q, q = Num.rvK s := ⟨_, rfl⟩
    have h1x := Lib.hid (show ¬ Num.rvK (Num.rest s 0) = 0 by rw [Num.rest_zero]; exact h1)
    have Hq := Lib.hid (show q = 0 + Num.rvK (Num.rest s 0) by rw [Num.rest_zero]; omega)
    obtain ⟨N, hN⟩ : ∃ N, N = Num.rvN s := ⟨_, rfl⟩
    have HN := Lib.hid hN
    by_cases h2 : 1 ≤ Num.rvN s ∧ Num.rvN s ≤ 24
    · have hg := Tr.get_y h1 h2
      rw [← hq, ← hN] at hg
      have HG := Lib.hid hg
      rw [← hN] at h2
      have h2' : decide ((1 : Int) ≤ (N : Int) ∧ (N : Int) ≤ 24) = true := by simp; omega
      have hqs : q ≤ s.size := by omega
      have eq0 : decide ((q : Int) < 0) = false := by simp
      clear h1 hq hN hg hk0
      go_enter Try.func36, Try.ntmps36
      go_wp2_with fail
      refine (l4Num_yes s 0 q (Nat.zero_le _) Hs.out h1x.out Hq.out _).mono ?_
      rintro e w1 ⟨rfl, hb⟩
      have Ho := Lib.hid (own_below Ho.out hb)
      have HB := Lib.hid (HB.out.trans (hb.mono HB.out.size))
      clear hb
      rw [Num.rest_zero, ← HN.out]
      go_wp2_with fail
      refine (l1In_any _ _ _ _).mono ?_
      rintro e w' ⟨rfl, rfl⟩
      rw [h2']
      go_wp2
      go_loopw [7, 4, 6] (fun iv ov av wr => ∃ (k p : Nat) (xs : Tr), k ≤ N ∧ iv = .int .i64 k ∧ av = .int .i64 p ∧ p ≤ s.size ∧ xs.length = k ∧ wr.ownsRow w.heap.size 43 2 ov k (Tr.cells xs) ∧ (0 < k → 0 ≤ Tr.d xs (k - 1) ∧ Tr.d xs (k - 1) ≤ 12) ∧ Tr.get s = Tr.getB (N - k) (Num.rest s p) xs ∧ Below w.heap.size w wr) (fun i _ _ _ => N - (intOf i).toNat)
      case atStart => exact ⟨0, q, [], Nat.zero_le _, rfl, rfl, hqs, rfl, Ho.out, fun h => absurd h (by omega), HG.out, HB.out⟩
      case round =>
        clear Ho HB
        obtain ⟨k, p, xs, hk, rfl, rfl, hp, hlen, hown, hbd, hI, hB⟩ := hrel
        have HL := Lib.hid hlen
        have Ho := Lib.hid hown
        have HB := Lib.hid hB
        have HI := Lib.hid hI
        have Hbd := Lib.hid hbd
        clear hlen hown hB hI hbd
        obtain ⟨A', c', rfl⟩ := own_slice Ho.out
        by_cases hlt : k < N
        · have HI' := HI.out
          rw [show N - k = (N - k - 1) + 1 by omega] at HI'
          by_cases h1 : Num.rvK (Num.rest s p) = 0
          · have Hres := Lib.hid (HI'.trans (Tr.go_n1 h1))
            have h1x := Lib.hid h1
            clear h1 HI'
            go_wp2_with fail
            refine (l4Num_no s p hp Hs.out h1x.out _).mono ?_
            rintro e w4 ⟨rfl, hb⟩
            have Ho := Lib.hid (own_below Ho.out hb)
            have HB := Lib.hid (HB.out.trans (hb.mono HB.out.size))
            clear hb
            have hsx := HB.out.size
            go_wp2
            go_ret2
            exact ⟨_, _, by rw [Hres.out]; rfl, by rw [Hres.out]; exact World.ownsRow_lit w4 #[] 0 hsx (Nat.zero_le _) rfl, HB.out.alloc hsx _⟩
          · have h1x := Lib.hid h1
            obtain ⟨p1, hp1⟩ : ∃ p1, p1 = p + Num.rvK (Num.rest s p) := ⟨_, rfl⟩
            have hp1' : p1 ≤ s.size := by
              have := (Num.rvK_le (Num.rest s p)).2
              rw [Num.rest_size] at this
              omega
            have Hp1 := Lib.hid hp1
            have ep1 : decide ((p1 : Int) < 0) = false := by simp
            obtain ⟨V, hV⟩ : ∃ V : Int, V = (Num.rvN (Num.rest s p) : Int) := ⟨_, rfl⟩
            have HV := Lib.hid hV
            rcases h2 : Lab.ok V with _ | _
            · have Hres := Lib.hid (HI'.trans (Tr.go_n2 h1 (by rw [← hV]; exact h2)))
              clear h1 HI' hp1 hV
              go_wp2_with fail
              refine (l4Num_yes s p p1 hp Hs.out h1x.out Hp1.out _).mono ?_
              rintro e w4 ⟨rfl, hb⟩
              have Ho := Lib.hid (own_below Ho.out hb)
              have HB := Lib.hid (HB.out.trans (hb.mono HB.out.size))
              clear hb
              rw [← HV.out]
              go_wp2_with fail
              refine (specLabelOk_any _ _).mono ?_
              rintro e w' ⟨rfl, rfl⟩
              rw [h2]
              have hsx := HB.out.size
              go_wp2
              go_ret2
              exact ⟨_, _, by rw [Hres.out]; rfl, by rw [Hres.out]; exact World.ownsRow_lit w4 #[] 0 hsx (Nat.zero_le _) rfl, HB.out.alloc hsx _⟩
            · by_cases h3 : Num.rvK (Num.rest s p1) = 0
              · have Hres := Lib.hid (HI'.trans (Tr.go_n3 hp1 h1 (by rw [← hV]; exact h2) h3))
                have h3x := Lib.hid h3
                clear h1 h3 HI' hp1 hV
                go_wp2_with fail
                refine (l4Num_yes s p p1 hp Hs.out h1x.out Hp1.out _).mono ?_
                rintro e w4 ⟨rfl, hb⟩
                have Ho := Lib.hid (own_below Ho.out hb)
                have HB := Lib.hid (HB.out.trans (hb.mono HB.out.size))
                clear hb
                rw [← HV.out]
                go_wp2_with fail
                refine (specLabelOk_any _ _).mono ?_
                rintro e w' ⟨rfl, rfl⟩
                rw [h2]
                go_wp2_with fail
                refine (l4Num_no s p1 hp1' Hs.out h3x.out _).mono ?_
                rintro e w5 ⟨rfl, hb⟩
                have Ho := Lib.hid (own_below Ho.out hb)
                have HB := Lib.hid (HB.out.trans (hb.mono HB.out.size))
                clear hb
                have hsx := HB.out.size
                go_wp2
                go_ret2
                exact ⟨_, _, by rw [Hres.out]; rfl, by rw [Hres.out]; exact World.ownsRow_lit w5 #[] 0 hsx (Nat.zero_le _) rfl, HB.out.alloc hsx _⟩
              · have h3x := Lib.hid h3
                obtain ⟨p2, hp2⟩ : ∃ p2, p2 = p1 + Num.rvK (Num.rest s p1) := ⟨_, rfl⟩
                have hp2' : p2 ≤ s.size := by
                  have := (Num.rvK_le (Num.rest s p1)).2
                  rw [Num.rest_size] at this
                  omega
                have Hp2 := Lib.hid hp2
                have ep2 : decide ((p2 : Int) < 0) = false := by simp
                obtain ⟨D, hD⟩ : ∃ D : Int, D = (Num.rvN (Num.rest s p1) : Int) := ⟨_, rfl⟩
                have HD := Lib.hid hD
                have hD0 : 0 ≤ D := by omega
                by_cases h4 : 12 < Num.rvN (Num.rest s p1)
                · have Hres := Lib.hid (HI'.trans (Tr.go_n4 hp1 h1 (by rw [← hV]; exact h2) h3 h4))
                  have e4 : decide (12 < D) = true := by simp; omega
                  clear HI' hp1 hp2 hD hV
                  clear h1 h3 h4
                  go_wp2_with fail
                  refine (l4Num_yes s p p1 hp Hs.out h1x.out Hp1.out _).mono ?_
                  rintro e w4 ⟨rfl, hb⟩
                  have Ho := Lib.hid (own_below Ho.out hb)
                  have HB := Lib.hid (HB.out.trans (hb.mono HB.out.size))
                  clear hb
                  rw [← HV.out]
                  go_wp2_with fail
                  refine (specLabelOk_any _ _).mono ?_
                  rintro e w' ⟨rfl, rfl⟩
                  rw [h2]
                  go_wp2_with fail
                  refine (l4Num_yes s p1 p2 hp1' Hs.out h3x.out Hp2.out _).mono ?_
                  rintro e w5 ⟨rfl, hb⟩
                  have Ho := Lib.hid (own_below Ho.out hb)
                  have HB := Lib.hid (HB.out.trans (hb.mono HB.out.size))
                  clear hb
                  rw [← HD.out]
                  have hsx := HB.out.size
                  go_wp2
                  go_ret2
                  exact ⟨_, _, by rw [Hres.out]; rfl, by rw [Hres.out]; exact World.ownsRow_lit w5 #[] 0 hsx (Nat.zero_le _) rfl, HB.out.alloc hsx _⟩
                · have e4 : decide (12 < D) = false := by simp; omega
                  have hD12 : D ≤ 12 := by omega
                  have n5 := fun h => HI'.trans (Tr.go_n5 (r := N - k - 1) (xs := xs) hp1 h1 (by rw [← hV]; exact h2) h3 h4 h)
                  have n6 := fun h => HI'.trans (Tr.go_y (r := N - k - 1) (xs := xs) hp1 hp2 h1 (by rw [← hV]; exact h2) h3 h4 h)
                  rw [HL.out, ← hD] at n5
                  rw [HL.out, ← hD, ← hV] at n6
                  clear HI' hp1 hp2 hD hV
                  by_cases hk0 : k = 0
                  · have e2 : ((k : Int) == 0) = true := by simp [hk0]
                    have e3 : decide (0 < k) = false := by simp; omega
                    by_cases h5 : D = 0
                    · have e1 : (D == 0) = true := by simpa using h5
                      have Hres := Lib.hid (n6 (by rw [Tr.fits, if_pos hk0]; simpa using h5))
                      clear n5 n6 h5 hk0
                      clear h1 h3 h4
                      go_wp2_with fail
                      refine (l4Num_yes s p p1 hp Hs.out h1x.out Hp1.out _).mono ?_
                      rintro e w4 ⟨rfl, hb⟩
                      have Ho := Lib.hid (own_below Ho.out hb)
                      have HB := Lib.hid (HB.out.trans (hb.mono HB.out.size))
                      clear hb
                      rw [← HV.out]
                      go_wp2_with fail
                      refine (specLabelOk_any _ _).mono ?_
                      rintro e w' ⟨rfl, rfl⟩
                      rw [h2]
                      go_wp2_with fail
                      refine (l4Num_yes s p1 p2 hp1' Hs.out h3x.out Hp2.out _).mono ?_
                      rintro e w5 ⟨rfl, hb⟩
                      have Ho := Lib.hid (own_below Ho.out hb)
                      have HB := Lib.hid (HB.out.trans (hb.mono HB.out.size))
                      clear hb
                      rw [← HD.out]
                      have hsx := HB.out.size
                      go_wp2_with (at_builtin; go_loud (refine append_node w5 rfl _ _ 25 rfl w.heap.size 43 i0 Try.underlying25 Hi.out hz0 hz1 hz2 (.slice A' k c') k xs rfl Ho.out HL.out.symm V D rfl (by rw [HL.out]; omega) hsx ?_); intro v' w6 hown hgrow)
                      have hb6 := Kit.below_own HB.out Ho.out hgrow
                      rw [List.length_append, HL.out] at hown
                      go_roundw
                      case rel => exact ⟨k + 1, p2, xs ++ [(V, D)], by omega, by go_num, rfl, by omega, by simp [HL.out], hown, fun _ => by rw [Tr.d_last _ _ _ HL.out]; exact ⟨hD0, by show D ≤ 12; omega⟩, by rw [Hres.out, show N - k - 1 = N - (k + 1) by omega], hb6⟩
                      case measure => simp [intOf]; omega
                    · have e1 : (D == 0) = false := by simpa using h5
                      have Hres := Lib.hid (n5 (by rw [Tr.fits, if_pos hk0]; simpa using h5))
                      clear n5 n6 h5 hk0
                      clear h1 h3 h4
                      go_wp2_with fail
                      refine (l4Num_yes s p p1 hp Hs.out h1x.out Hp1.out _).mono ?_
                      rintro e w4 ⟨rfl, hb⟩
                      have Ho := Lib.hid (own_below Ho.out hb)
                      have HB := Lib.hid (HB.out.trans (hb.mono HB.out.size))
                      clear hb
                      rw [← HV.out]
                      go_wp2_with fail
                      refine (specLabelOk_any _ _).mono ?_
                      rintro e w' ⟨rfl, rfl⟩
                      rw [h2]
                      go_wp2_with fail
                      refine (l4Num_yes s p1 p2 hp1' Hs.out h3x.out Hp2.out _).mono ?_
                      rintro e w5 ⟨rfl, hb⟩
                      have Ho := Lib.hid (own_below Ho.out hb)
                      have HB := Lib.hid (HB.out.trans (hb.mono HB.out.size))
                      clear hb
                      rw [← HD.out]
                      have hsx := HB.out.size
                      go_wp2
                      go_ret2
                      exact ⟨_, _, by rw [Hres.out]; rfl, by rw [Hres.out]; exact World.ownsRow_lit w5 #[] 0 hsx (Nat.zero_le _) rfl, HB.out.alloc hsx _⟩
                  · have e2 : ((k : Int) == 0) = false := by simp [hk0]
                    have e3 : decide (0 < k) = true := by simp; omega
                    by_cases h5 : D = 0
                    · have e1 : (D == 0) = true := by simpa using h5
                      have Hres := Lib.hid (n5 (by rw [Tr.fits, if_neg hk0]; simp; omega))
                      clear n5 n6 h5 hk0
                      clear h1 h3 h4
                      go_wp2_with fail
                      refine (l4Num_yes s p p1 hp Hs.out h1x.out Hp1.out _).mono ?_
                      rintro e w4 ⟨rfl, hb⟩
                      have Ho := Lib.hid (own_below Ho.out hb)
                      have HB := Lib.hid (HB.out.trans (hb.mono HB.out.size))
                      clear hb
                      rw [← HV.out]
                      go_wp2_with fail
                      refine (specLabelOk_any _ _).mono ?_
                      rintro e w' ⟨rfl, rfl⟩
                      rw [h2]
                      go_wp2_with fail
                      refine (l4Num_yes s p1 p2 hp1' Hs.out h3x.out Hp2.out _).mono ?_
                      rintro e w5 ⟨rfl, hb⟩
                      have Ho := Lib.hid (own_below Ho.out hb)
                      have HB := Lib.hid (HB.out.trans (hb.mono HB.out.size))
                      clear hb
                      rw [← HD.out]
                      have hsx := HB.out.size
                      go_wp2
                      go_ret2
                      exact ⟨_, _, by rw [Hres.out]; rfl, by rw [Hres.out]; exact World.ownsRow_lit w5 #[] 0 hsx (Nat.zero_le _) rfl, HB.out.alloc hsx _⟩
                    · have e1 : (D == 0) = false := by simpa using h5
                      have hbk := Hbd.out (by omega)
                      have a1 : IntKind.i64.wrap ((k : Int) - 1) = (k : Int) - 1 := Kit.w64 (by omega) (by omega)
                      have a2 : ((k : Int) - 1).toNat = k - 1 := by omega
                      have a3 : (1 : Int) ≤ (k : Int) := by omega
                      have a4 : (k : Int) - 1 < (k : Int) := by omega
                      have a5 : IntKind.i64.wrap (Tr.d xs (k - 1) + 1) = Tr.d xs (k - 1) + 1 := Kit.w64 (by omega) (by omega)
                      by_cases h6 : D ≤ Tr.d xs (k - 1) + 1
                      · have e6 : decide (Tr.d xs (k - 1) + 1 < D) = false := by simpa using h6
                        have Hres := Lib.hid (n6 (by rw [Tr.fits, if_neg hk0]; simp; omega))
                        clear n5 n6 h5 h6
                        clear h1 h3 h4
                        go_wp2_with fail
                        refine (l4Num_yes s p p1 hp Hs.out h1x.out Hp1.out _).mono ?_
                        rintro e w4 ⟨rfl, hb⟩
                        have Ho := Lib.hid (own_below Ho.out hb)
                        have HB := Lib.hid (HB.out.trans (hb.mono HB.out.size))
                        clear hb
                        rw [← HV.out]
                        go_wp2_with fail
                        refine (specLabelOk_any _ _).mono ?_
                        rintro e w' ⟨rfl, rfl⟩
                        rw [h2]
                        go_wp2_with fail
                        refine (l4Num_yes s p1 p2 hp1' Hs.out h3x.out Hp2.out _).mono ?_
                        rintro e w5 ⟨rfl, hb⟩
                        have Ho := Lib.hid (own_below Ho.out hb)
                        have HB := Lib.hid (HB.out.trans (hb.mono HB.out.size))
                        clear hb
                        rw [← HD.out]
                        obtain ⟨ad, rfl, _, hl', hd'⟩ := (NdIn.of_own Ho.out).at_ (k := k - 1) (by omega)
                        clear hk0 hbk
                        have hsx := HB.out.size
                        go_wp2_with (at_builtin; clear a1 a2 a3 a4 a5; go_loud (refine append_node w5 rfl _ _ 25 rfl w.heap.size 43 i0 Try.underlying25 Hi.out hz0 hz1 hz2 (.slice (some ad) k c') k xs rfl Ho.out HL.out.symm V D rfl (by rw [HL.out]; omega) hsx ?_); intro v' w6 hown hgrow)
                        have hb6 := Kit.below_own HB.out Ho.out hgrow
                        rw [List.length_append, HL.out] at hown
                        go_roundw
                        case rel => exact ⟨k + 1, p2, xs ++ [(V, D)], by omega, by go_num, rfl, by omega, by simp [HL.out], hown, fun _ => by rw [Tr.d_last _ _ _ HL.out]; exact ⟨hD0, by show D ≤ 12; omega⟩, by rw [Hres.out, show N - k - 1 = N - (k + 1) by omega], hb6⟩
                        case measure => simp [intOf]; omega
                      · have e6 : decide (Tr.d xs (k - 1) + 1 < D) = true := by simpa using h6
                        have Hres := Lib.hid (n5 (by rw [Tr.fits, if_neg hk0]; simp; omega))
                        clear n5 n6 h5 h6
                        clear h1 h3 h4
                        go_wp2_with fail
                        refine (l4Num_yes s p p1 hp Hs.out h1x.out Hp1.out _).mono ?_
                        rintro e w4 ⟨rfl, hb⟩
                        have Ho := Lib.hid (own_below Ho.out hb)
                        have HB := Lib.hid (HB.out.trans (hb.mono HB.out.size))
                        clear hb
                        rw [← HV.out]
                        go_wp2_with fail
                        refine (specLabelOk_any _ _).mono ?_
                        rintro e w' ⟨rfl, rfl⟩
                        rw [h2]
                        go_wp2_with fail
                        refine (l4Num_yes s p1 p2 hp1' Hs.out h3x.out Hp2.out _).mono ?_
                        rintro e w5 ⟨rfl, hb⟩
                        have Ho := Lib.hid (own_below Ho.out hb)
                        have HB := Lib.hid (HB.out.trans (hb.mono HB.out.size))
                        clear hb
                        rw [← HD.out]
                        obtain ⟨ad, rfl, _, hl', hd'⟩ := (NdIn.of_own Ho.out).at_ (k := k - 1) (by omega)
                        clear hk0 hbk
                        have hsx := HB.out.size
                        go_wp2
                        go_ret2
                        exact ⟨_, _, by rw [Hres.out]; rfl, by rw [Hres.out]; exact World.ownsRow_lit w5 #[] 0 hsx (Nat.zero_le _) rfl, HB.out.alloc hsx _⟩
        · obtain rfl : k = N := by omega
          by_cases h1 : p = s.size
          · have e1 : ((p : Int) == (s.size : Int)) = true := by simp [h1]
            have Hres := Lib.hid (show Tr.get s = (xs, 0) by
              rw [HI.out, Nat.sub_self]; exact Tr.getB_end (by rw [Num.rest_size]; omega))
            clear h1
            go_wp2
            go_ret2
            exact ⟨A', c', by rw [Hres.out]; show _ = Ending.returned (.tuple #[.slice A' xs.length c', _]); rw [HL.out]; rfl, by rw [Hres.out]; show World.ownsRow _ _ _ _ (.slice A' xs.length c') xs.length _; rw [HL.out]; exact Ho.out, HB.out⟩
          · have e1 : ((p : Int) == (s.size : Int)) = false := beq_eq_false_iff_ne.2 (by omega)
            have Hres := Lib.hid (show Tr.get s = ([], 6) by
              rw [HI.out, Nat.sub_self]; exact Tr.getB_left (by rw [Num.rest_size]; omega))
            clear h1
            have hsx := HB.out.size
            go_wp2
            go_ret2
            exact ⟨_, _, by rw [Hres.out]; rfl, by rw [Hres.out]; exact World.ownsRow_lit wr #[] 0 hsx (Nat.zero_le _) rfl, HB.out.alloc hsx _⟩
    · have Hres := Lib.hid (Tr.get_n2 h1 h2)
      rw [← hN] at h2
      have h2' : decide ((1 : Int) ≤ (N : Int) ∧ (N : Int) ≤ 24) = false := by simp; omega
      have eq0 : decide ((q : Int) < 0) = false := by simp
      clear h1 h2 hq hN
      go_enter Try.func36, Try.ntmps36
      go_wp2_with fail
      refine (l4Num_yes s 0 q (Nat.zero_le _) Hs.out h1x.out Hq.out _).mono ?_
      rintro e w1 ⟨rfl, hb⟩
      have Ho := Lib.hid (own_below Ho.out hb)
      have HB := Lib.hid (HB.out.trans (hb.mono HB.out.size))
      clear hb
      rw [Num.rest_zero, ← HN.out]
      go_wp2_with fail
      refine (l1In_any _ _ _ _).mono ?_
      rintro e w' ⟨rfl, rfl⟩
      rw [h2']
      go_wp2
      go_ret2
      exact ⟨_, _, by rw [Hres.out]; rfl, by rw [Hres.out]; exact Ho.out, HB.out⟩

end Go.Proofs.Ytgokllaeggdndaa
